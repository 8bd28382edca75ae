/-
  Scale, Dot and Len of the document's own answer. The condition: the numbers are of 64 bits.
-/
import Derived.Test.YtddagmcmajjnfaaVecRefM
namespace Go.Proofs.Ytddagmcmajjnfaa.Fx
open Go Go.RowKit
set_option linter.unusedVariables false
set_option maxHeartbeats 1000000 in
theorem r2scale (ax ay az s : Int) (hax : isI ax) (hay : isI ay) (haz : isI az) (hs : isI s) (w : World) :
    Calls Try.prog 22 #[.agg #[.int .i64 ax, .int .i64 ay, .int .i64 az], .int .i64 s] w fun e w' => e = .returned (.agg #[.int .i64 (mul ax s), .int .i64 (mul ay s), .int .i64 (mul az s)]) ∧ Below w.heap.size w w' := by
  go_enter Try.func22, Try.ntmps22
  go_wp2_with ((go_at_call 23; refine (r2mul _ _ _ _ _ _ (by first | assumption | exact mul_is _ _ | exact add_is _ _ | exact sub_is _ _ | exact neg_is _ | exact div_is _ _ | exact dot_is _ _ _ _ _ _ | exact len_is _ _ _ | exact side_is _ _ _ _) (by first | assumption | exact mul_is _ _ | exact add_is _ _ | exact sub_is _ _ | exact neg_is _ | exact div_is _ _ | exact dot_is _ _ _ _ _ _ | exact len_is _ _ _ | exact side_is _ _ _ _) (by first | assumption | exact mul_is _ _ | exact add_is _ _ | exact sub_is _ _ | exact neg_is _ | exact div_is _ _ | exact dot_is _ _ _ _ _ _ | exact len_is _ _ _ | exact side_is _ _ _ _) (by first | assumption | exact mul_is _ _ | exact add_is _ _ | exact sub_is _ _ | exact neg_is _ | exact div_is _ _ | exact dot_is _ _ _ _ _ _ | exact len_is _ _ _ | exact side_is _ _ _ _) (by first | assumption | exact mul_is _ _ | exact add_is _ _ | exact sub_is _ _ | exact neg_is _ | exact div_is _ _ | exact dot_is _ _ _ _ _ _ | exact len_is _ _ _ | exact side_is _ _ _ _) (by first | assumption | exact mul_is _ _ | exact add_is _ _ | exact sub_is _ _ | exact neg_is _ | exact div_is _ _ | exact dot_is _ _ _ _ _ _ | exact len_is _ _ _ | exact side_is _ _ _ _) _).mono ?_; rintro e w1 ⟨rfl, hb⟩; have hS := one_keep (one_start _ _ _) hb; have HS := Lib.hid hS; obtain ⟨c0, c1, c2, r0, r1, r2, f0, f1, f2, hw, hs⟩ := hS))
  obtain ⟨q0, q1, q2, hB⟩ := one_end (v0 := .int .i64 (mul ax s)) (v1 := .int .i64 (mul ay s)) (v2 := .int .i64 (mul az s)) HS.out
  exact bodyPost_ret (by simp [results, Try.results22, go_sem, q0, q1, q2]) rfl ⟨rfl, hB⟩
set_option maxHeartbeats 1000000 in
theorem r2dot (ax ay az bx by1 bz : Int) (hax : isI ax) (hay : isI ay) (haz : isI az) (hbx : isI bx) (hby1 : isI by1) (hbz : isI bz) (w : World) :
    Calls Try.prog 25 #[.agg #[.int .i64 ax, .int .i64 ay, .int .i64 az], .agg #[.int .i64 bx, .int .i64 by1, .int .i64 bz]] w fun e w' => e = .returned (.int .i64 (dot ax ay az bx by1 bz)) ∧ Below w.heap.size w w' := by
  go_enter Try.func25, Try.ntmps25
  go_wp2
  go_region_held3 (fun w' => w'.cell? ⟨w.heap.size, 0, none⟩ = some (.int .i64 ax) ∧ w'.cell? ⟨w.heap.size, 1, none⟩ = some (.int .i64 ay) ∧ w'.cell? ⟨w.heap.size, 2, none⟩ = some (.int .i64 az) ∧ w'.cell? ⟨w.heap.size + 1, 0, none⟩ = some (.int .i64 bx) ∧ w'.cell? ⟨w.heap.size + 1, 1, none⟩ = some (.int .i64 by1) ∧ w'.cell? ⟨w.heap.size + 1, 2, none⟩ = some (.int .i64 bz) ∧ Below w.heap.size w w' ∧ w.heap.size + 1 + 1 ≤ w'.heap.size) (first | assumption | exact two0_drew (two0_start) | exact two0_drew (two0_keep (two0_start) hb0) | exact two0_keep (by assumption) hnew)
    (first | (go_at_call 48; refine (rmulI _ _ (by first | assumption | exact mul_is _ _ | exact add_is _ _ | exact sub_is _ _ | exact neg_is _ | exact div_is _ _) (by first | assumption | exact mul_is _ _ | exact add_is _ _ | exact sub_is _ _ | exact neg_is _ | exact div_is _ _) _).mono ?_; rintro e w' ⟨rfl, rfl⟩) | (go_at_call 45; refine (raddI _ _ (by first | assumption | exact mul_is _ _ | exact add_is _ _ | exact sub_is _ _ | exact neg_is _ | exact div_is _ _) (by first | assumption | exact mul_is _ _ | exact add_is _ _ | exact sub_is _ _ | exact neg_is _ | exact div_is _ _) _).mono ?_; rintro e w' ⟨rfl, rfl⟩))
  rename_i hh
  have hB := two0_below hh
  clear hh
  go_wp2_with (first | (go_at_call 48; refine (rmulI _ _ (by first | assumption | exact mul_is _ _ | exact add_is _ _ | exact sub_is _ _ | exact neg_is _ | exact div_is _ _) (by first | assumption | exact mul_is _ _ | exact add_is _ _ | exact sub_is _ _ | exact neg_is _ | exact div_is _ _) _).mono ?_; rintro e w' ⟨rfl, rfl⟩) | (go_at_call 45; refine (raddI _ _ (by first | assumption | exact mul_is _ _ | exact add_is _ _ | exact sub_is _ _ | exact neg_is _ | exact div_is _ _) (by first | assumption | exact mul_is _ _ | exact add_is _ _ | exact sub_is _ _ | exact neg_is _ | exact div_is _ _) _).mono ?_; rintro e w' ⟨rfl, rfl⟩))
  go_ret
  exact ⟨rfl, hB⟩
set_option maxHeartbeats 1000000 in
theorem r2len (ax ay az : Int) (hax : isI ax) (hay : isI ay) (haz : isI az) (w : World) :
    Calls Try.prog 12 #[.agg #[.int .i64 ax, .int .i64 ay, .int .i64 az]] w fun e w' => e = .returned (.int .i64 (len ax ay az)) ∧ Below w.heap.size w w' := by
  go_enter Try.func12, Try.ntmps12
  go_wp2_with (first | (go_at_call 25; refine (r2dot _ _ _ _ _ _ (by first | assumption | exact mul_is _ _ | exact add_is _ _ | exact sub_is _ _ | exact neg_is _ | exact div_is _ _ | exact dot_is _ _ _ _ _ _ | exact len_is _ _ _ | exact side_is _ _ _ _) (by first | assumption | exact mul_is _ _ | exact add_is _ _ | exact sub_is _ _ | exact neg_is _ | exact div_is _ _ | exact dot_is _ _ _ _ _ _ | exact len_is _ _ _ | exact side_is _ _ _ _) (by first | assumption | exact mul_is _ _ | exact add_is _ _ | exact sub_is _ _ | exact neg_is _ | exact div_is _ _ | exact dot_is _ _ _ _ _ _ | exact len_is _ _ _ | exact side_is _ _ _ _) (by first | assumption | exact mul_is _ _ | exact add_is _ _ | exact sub_is _ _ | exact neg_is _ | exact div_is _ _ | exact dot_is _ _ _ _ _ _ | exact len_is _ _ _ | exact side_is _ _ _ _) (by first | assumption | exact mul_is _ _ | exact add_is _ _ | exact sub_is _ _ | exact neg_is _ | exact div_is _ _ | exact dot_is _ _ _ _ _ _ | exact len_is _ _ _ | exact side_is _ _ _ _) (by first | assumption | exact mul_is _ _ | exact add_is _ _ | exact sub_is _ _ | exact neg_is _ | exact div_is _ _ | exact dot_is _ _ _ _ _ _ | exact len_is _ _ _ | exact side_is _ _ _ _) _).mono ?_; rintro e w1 ⟨rfl, hb0⟩) | (go_at_call 39; refine (rsqrtI _ (by first | assumption | exact mul_is _ _ | exact add_is _ _ | exact sub_is _ _ | exact neg_is _ | exact div_is _ _ | exact dot_is _ _ _ _ _ _ | exact len_is _ _ _ | exact side_is _ _ _ _) _).mono ?_; rintro e w' ⟨rfl, rfl⟩))
  go_ret
  exact ⟨rfl, ((Below.refl _ _).alloc (Nat.le_refl _) _).trans (hb0.mono (by simp; try omega))⟩
end Go.Proofs.Ytddagmcmajjnfaa.Fx
