/-
  Cross of package vec. The condition: the numbers are of 64 bits.
-/
import Derived.Test.YtddagmcmajjnfaaVecBase
namespace Go.Proofs.Ytddagmcmajjnfaa.Fx
open Go Go.RowKit
set_option linter.unusedVariables false
set_option maxHeartbeats 4000000 in
theorem vcross (ax ay az bx by1 bz : Int) (hax : isI ax) (hay : isI ay) (haz : isI az) (hbx : isI bx) (hby1 : isI by1) (hbz : isI bz) (w : World) :
    Calls Try.prog 17 #[.agg #[.int .i64 ax, .int .i64 ay, .int .i64 az], .agg #[.int .i64 bx, .int .i64 by1, .int .i64 bz]] w fun e w' => e = .returned (.agg #[.int .i64 (side ay bz az by1), .int .i64 (side az bx ax bz), .int .i64 (side ax by1 ay bx)]) ∧ Below w.heap.size w w' := by
  go_enter Try.func17, Try.ntmps17
  go_wp2
  go_region_held3 (fun w' => w'.cell? ⟨w.heap.size, 0, none⟩ = some (.int .i64 ax) ∧ w'.cell? ⟨w.heap.size, 1, none⟩ = some (.int .i64 ay) ∧ w'.cell? ⟨w.heap.size, 2, none⟩ = some (.int .i64 az) ∧ w'.cell? ⟨w.heap.size + 1, 0, none⟩ = some (.int .i64 bx) ∧ w'.cell? ⟨w.heap.size + 1, 1, none⟩ = some (.int .i64 by1) ∧ w'.cell? ⟨w.heap.size + 1, 2, none⟩ = some (.int .i64 bz) ∧ w'.cell? ⟨w.heap.size + 1 + 1, 0, none⟩ = some (lies w' ⟨w.heap.size + 1 + 1, 0, none⟩) ∧ w'.cell? ⟨w.heap.size + 1 + 1, 1, none⟩ = some (lies w' ⟨w.heap.size + 1 + 1, 1, none⟩) ∧ w'.cell? ⟨w.heap.size + 1 + 1, 2, none⟩ = some (lies w' ⟨w.heap.size + 1 + 1, 2, none⟩) ∧ w'.frozen? ⟨w.heap.size + 1 + 1, 0, none⟩ = false ∧ w'.frozen? ⟨w.heap.size + 1 + 1, 1, none⟩ = false ∧ w'.frozen? ⟨w.heap.size + 1 + 1, 2, none⟩ = false ∧ Below w.heap.size w w' ∧ w.heap.size + 1 + 1 < w'.heap.size) (first | assumption | exact two_drew (two_start _ _ _) | exact two_drew (two_keep (two_start _ _ _) hb0) | exact two_keep (by assumption) hnew | exact two_store _ _ _ (by assumption))
    (first | (go_at_call 44; refine (side_any _ _ _ _ (by first | assumption | exact mul_is _ _ | exact add_is _ _ | exact sub_is _ _ | exact neg_is _ | exact div_is _ _) (by first | assumption | exact mul_is _ _ | exact add_is _ _ | exact sub_is _ _ | exact neg_is _ | exact div_is _ _) (by first | assumption | exact mul_is _ _ | exact add_is _ _ | exact sub_is _ _ | exact neg_is _ | exact div_is _ _) (by first | assumption | exact mul_is _ _ | exact add_is _ _ | exact sub_is _ _ | exact neg_is _ | exact div_is _ _) _).mono ?_; rintro e w1 ⟨rfl, hnew⟩))
  rename_i hh
  obtain ⟨q0, q1, q2, hB⟩ := two_read hh
  clear hh
  go_wp2
  exact bodyPost_ret (by simp [results, Try.results17, go_sem, q0, q1, q2]) rfl ⟨rfl, hB⟩
end Go.Proofs.Ytddagmcmajjnfaa.Fx
