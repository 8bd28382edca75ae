/-
  Dot and Len of package vec. The condition: the numbers are of 64 bits.
-/
import Derived.Test.YtddagmcmajjnfaaVecCalls
namespace Go.Proofs.Ytddagmcmajjnfaa.Fx
open Go Go.RowKit
set_option linter.unusedVariables false
set_option maxHeartbeats 1000000 in
theorem vdot (ax ay az bx by1 bz : Int) (hax : isI ax) (hay : isI ay) (haz : isI az) (hbx : isI bx) (hby1 : isI by1) (hbz : isI bz) (w : World) :
    Calls Try.prog 24 #[.agg #[.int .i64 ax, .int .i64 ay, .int .i64 az], .agg #[.int .i64 bx, .int .i64 by1, .int .i64 bz]] w fun e w' => e = .returned (.int .i64 (dot ax ay az bx by1 bz)) ∧ Below w.heap.size w w' := by
  go_enter Try.func24, Try.ntmps24
  go_wp2_with ((go_at_call 16; refine (vmul _ _ _ _ _ _ (by first | assumption | exact mul_is _ _ | exact add_is _ _ | exact sub_is _ _ | exact neg_is _ | exact div_is _ _ | exact dot_is _ _ _ _ _ _ | exact len_is _ _ _ | exact side_is _ _ _ _) (by first | assumption | exact mul_is _ _ | exact add_is _ _ | exact sub_is _ _ | exact neg_is _ | exact div_is _ _ | exact dot_is _ _ _ _ _ _ | exact len_is _ _ _ | exact side_is _ _ _ _) (by first | assumption | exact mul_is _ _ | exact add_is _ _ | exact sub_is _ _ | exact neg_is _ | exact div_is _ _ | exact dot_is _ _ _ _ _ _ | exact len_is _ _ _ | exact side_is _ _ _ _) (by first | assumption | exact mul_is _ _ | exact add_is _ _ | exact sub_is _ _ | exact neg_is _ | exact div_is _ _ | exact dot_is _ _ _ _ _ _ | exact len_is _ _ _ | exact side_is _ _ _ _) (by first | assumption | exact mul_is _ _ | exact add_is _ _ | exact sub_is _ _ | exact neg_is _ | exact div_is _ _ | exact dot_is _ _ _ _ _ _ | exact len_is _ _ _ | exact side_is _ _ _ _) (by first | assumption | exact mul_is _ _ | exact add_is _ _ | exact sub_is _ _ | exact neg_is _ | exact div_is _ _ | exact dot_is _ _ _ _ _ _ | exact len_is _ _ _ | exact side_is _ _ _ _) _).mono ?_; rintro e w1 ⟨rfl, hb0⟩))
  have hA : Below w.heap.size w w1 := (((Below.refl _ _).alloc (Nat.le_refl _) _).alloc (by simp; try omega) _).trans (hb0.mono (by simp; try omega))
  go_region_held3 (fun w' => w'.cell? ⟨w1.heap.size, 0, none⟩ = some (.int .i64 (mul ax bx)) ∧ w'.cell? ⟨w1.heap.size, 1, none⟩ = some (.int .i64 (mul ay by1)) ∧ w'.cell? ⟨w1.heap.size, 2, none⟩ = some (.int .i64 (mul az bz)) ∧ Below w1.heap.size w1 w' ∧ w1.heap.size + 1 ≤ w'.heap.size) (first | assumption | exact one0_drew (one0_start) | exact one0_drew (one0_keep (one0_start) hb0) | exact one0_keep (by assumption) hnew)
    (first | (go_at_call 36; refine (addI _ _ (by first | assumption | exact mul_is _ _ | exact add_is _ _ | exact sub_is _ _ | exact neg_is _ | exact div_is _ _) (by first | assumption | exact mul_is _ _ | exact add_is _ _ | exact sub_is _ _ | exact neg_is _ | exact div_is _ _) _).mono ?_; rintro e w' ⟨rfl, rfl⟩))
  rename_i hh
  have hB := one0_below hh
  clear hh
  go_wp2
  go_ret
  exact ⟨rfl, hA.trans (hB.mono hA.size)⟩
set_option maxHeartbeats 1000000 in
theorem vlen (ax ay az : Int) (hax : isI ax) (hay : isI ay) (haz : isI az) (w : World) :
    Calls Try.prog 11 #[.agg #[.int .i64 ax, .int .i64 ay, .int .i64 az]] w fun e w' => e = .returned (.int .i64 (len ax ay az)) ∧ Below w.heap.size w w' := by
  go_enter Try.func11, Try.ntmps11
  go_wp2_with (first | (go_at_call 24; refine (vdot _ _ _ _ _ _ (by first | assumption | exact mul_is _ _ | exact add_is _ _ | exact sub_is _ _ | exact neg_is _ | exact div_is _ _ | exact dot_is _ _ _ _ _ _ | exact len_is _ _ _ | exact side_is _ _ _ _) (by first | assumption | exact mul_is _ _ | exact add_is _ _ | exact sub_is _ _ | exact neg_is _ | exact div_is _ _ | exact dot_is _ _ _ _ _ _ | exact len_is _ _ _ | exact side_is _ _ _ _) (by first | assumption | exact mul_is _ _ | exact add_is _ _ | exact sub_is _ _ | exact neg_is _ | exact div_is _ _ | exact dot_is _ _ _ _ _ _ | exact len_is _ _ _ | exact side_is _ _ _ _) (by first | assumption | exact mul_is _ _ | exact add_is _ _ | exact sub_is _ _ | exact neg_is _ | exact div_is _ _ | exact dot_is _ _ _ _ _ _ | exact len_is _ _ _ | exact side_is _ _ _ _) (by first | assumption | exact mul_is _ _ | exact add_is _ _ | exact sub_is _ _ | exact neg_is _ | exact div_is _ _ | exact dot_is _ _ _ _ _ _ | exact len_is _ _ _ | exact side_is _ _ _ _) (by first | assumption | exact mul_is _ _ | exact add_is _ _ | exact sub_is _ _ | exact neg_is _ | exact div_is _ _ | exact dot_is _ _ _ _ _ _ | exact len_is _ _ _ | exact side_is _ _ _ _) _).mono ?_; rintro e w1 ⟨rfl, hb0⟩) | (go_at_call 38; refine (sqrtI _ (by first | assumption | exact mul_is _ _ | exact add_is _ _ | exact sub_is _ _ | exact neg_is _ | exact div_is _ _ | exact dot_is _ _ _ _ _ _ | exact len_is _ _ _ | exact side_is _ _ _ _) _).mono ?_; rintro e w1 ⟨rfl, hb1⟩))
  have hA := ((Below.refl _ _).alloc (Nat.le_refl _) _).trans (hb0.mono (by simp; try omega))
  go_ret
  exact ⟨rfl, hA.trans (hb1.mono hA.size)⟩
end Go.Proofs.Ytddagmcmajjnfaa.Fx
