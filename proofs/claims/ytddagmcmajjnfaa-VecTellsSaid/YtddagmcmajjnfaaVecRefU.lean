/-
  Unit of the document's own answer. The condition: the numbers are of 64 bits.
-/
import Derived.Test.YtddagmcmajjnfaaVecRefD
namespace Go.Proofs.Ytddagmcmajjnfaa.Fx
open Go Go.RowKit
set_option linter.unusedVariables false
theorem r2unit_none (ax ay az : Int) (hax : isI ax) (hay : isI ay) (haz : isI az) (h0 : len ax ay az = 0) (w : World) :
    Calls Try.prog 27 #[.agg #[.int .i64 ax, .int .i64 ay, .int .i64 az]] w fun e w' => e = .returned (.agg #[.int .i64 0, .int .i64 0, .int .i64 0]) ∧ Below w.heap.size w w' := by
  go_enter Try.func27, Try.ntmps27
  go_wp2_with (go_at_call 12; refine (r2len _ _ _ (by first | assumption | exact mul_is _ _ | exact add_is _ _ | exact sub_is _ _ | exact neg_is _ | exact div_is _ _ | exact dot_is _ _ _ _ _ _ | exact len_is _ _ _ | exact side_is _ _ _ _) (by first | assumption | exact mul_is _ _ | exact add_is _ _ | exact sub_is _ _ | exact neg_is _ | exact div_is _ _ | exact dot_is _ _ _ _ _ _ | exact len_is _ _ _ | exact side_is _ _ _ _) (by first | assumption | exact mul_is _ _ | exact add_is _ _ | exact sub_is _ _ | exact neg_is _ | exact div_is _ _ | exact dot_is _ _ _ _ _ _ | exact len_is _ _ _ | exact side_is _ _ _ _) _).mono ?_; rintro e w1 ⟨rfl, hb⟩; rw [h0]; clear h0; have hS := one_keep (one_start _ _ _) hb; have HS := Lib.hid hS; obtain ⟨c0, c1, c2, r0, r1, r2, f0, f1, f2, hw, hs⟩ := hS)
  obtain ⟨q0, q1, q2, hB⟩ := one_end (v0 := .int .i64 0) (v1 := .int .i64 0) (v2 := .int .i64 0) HS.out
  exact bodyPost_ret (by simp [results, Try.results27, go_sem, q0, q1, q2]) rfl ⟨rfl, hB⟩
set_option maxHeartbeats 1000000 in
theorem r2unit_some (ax ay az n : Int) (hax : isI ax) (hay : isI ay) (haz : isI az) (hn : isI n) (hne : (n == 0) = false) (h0 : len ax ay az = n) (w : World) :
    Calls Try.prog 27 #[.agg #[.int .i64 ax, .int .i64 ay, .int .i64 az]] w fun e w' => e = .returned (.agg #[.int .i64 (div ax n), .int .i64 (div ay n), .int .i64 (div az n)]) ∧ Below w.heap.size w w' := by
  go_enter Try.func27, Try.ntmps27
  go_wp2_with (go_at_call 12; refine (r2len _ _ _ (by first | assumption | exact mul_is _ _ | exact add_is _ _ | exact sub_is _ _ | exact neg_is _ | exact div_is _ _ | exact dot_is _ _ _ _ _ _ | exact len_is _ _ _ | exact side_is _ _ _ _) (by first | assumption | exact mul_is _ _ | exact add_is _ _ | exact sub_is _ _ | exact neg_is _ | exact div_is _ _ | exact dot_is _ _ _ _ _ _ | exact len_is _ _ _ | exact side_is _ _ _ _) (by first | assumption | exact mul_is _ _ | exact add_is _ _ | exact sub_is _ _ | exact neg_is _ | exact div_is _ _ | exact dot_is _ _ _ _ _ _ | exact len_is _ _ _ | exact side_is _ _ _ _) _).mono ?_; rintro e w1 ⟨rfl, hb0⟩; rw [h0]; clear h0; obtain ⟨c0, c1, c2, r0, r1, r2, f0, f1, f2, hw, hs⟩ := one_keep (one_start _ _ _) hb0)
  go_region_held3 (fun w' => w'.cell? ⟨w.heap.size, 0, none⟩ = some (.int .i64 ax) ∧ w'.cell? ⟨w.heap.size, 1, none⟩ = some (.int .i64 ay) ∧ w'.cell? ⟨w.heap.size, 2, none⟩ = some (.int .i64 az) ∧ w'.cell? ⟨w.heap.size + 1, 0, none⟩ = some (lies w' ⟨w.heap.size + 1, 0, none⟩) ∧ w'.cell? ⟨w.heap.size + 1, 1, none⟩ = some (lies w' ⟨w.heap.size + 1, 1, none⟩) ∧ w'.cell? ⟨w.heap.size + 1, 2, none⟩ = some (lies w' ⟨w.heap.size + 1, 2, none⟩) ∧ w'.frozen? ⟨w.heap.size + 1, 0, none⟩ = false ∧ w'.frozen? ⟨w.heap.size + 1, 1, none⟩ = false ∧ w'.frozen? ⟨w.heap.size + 1, 2, none⟩ = false ∧ Below w.heap.size w w' ∧ w.heap.size + 1 < w'.heap.size) (first | assumption | exact one_drew (one_start _ _ _) | exact one_drew (one_keep (one_start _ _ _) hb0) | exact one_keep (by assumption) hnew | exact one_store _ _ _ (by assumption))
    (first | (go_at_call 49; refine (rdivI _ _ (by first | assumption | exact mul_is _ _ | exact add_is _ _ | exact sub_is _ _ | exact neg_is _ | exact div_is _ _) (by first | assumption | exact mul_is _ _ | exact add_is _ _ | exact sub_is _ _ | exact neg_is _ | exact div_is _ _) _).mono ?_; rintro e w' ⟨rfl, rfl⟩))
  rename_i hh
  obtain ⟨q0, q1, q2, hB⟩ := one_readD hh
  clear hh
  go_wp2
  exact bodyPost_ret (by simp [results, Try.results27, go_sem, q0, q1, q2]) rfl ⟨rfl, hB⟩
theorem r2unit (ax ay az : Int) (hax : isI ax) (hay : isI ay) (haz : isI az) (w : World) :
    Calls Try.prog 27 #[.agg #[.int .i64 ax, .int .i64 ay, .int .i64 az]] w fun e w' => e = .returned (.agg #[.int .i64 (unit1 (len ax ay az) ax), .int .i64 (unit1 (len ax ay az) ay), .int .i64 (unit1 (len ax ay az) az)]) ∧ Below w.heap.size w w' := by
  unfold unit1
  by_cases h : len ax ay az = 0
  · rw [if_pos h, if_pos h, if_pos h]
    exact r2unit_none ax ay az hax hay haz h w
  · rw [if_neg h, if_neg h, if_neg h]
    exact r2unit_some ax ay az _ hax hay haz (len_is _ _ _) (by simpa using h) rfl w
end Go.Proofs.Ytddagmcmajjnfaa.Fx
