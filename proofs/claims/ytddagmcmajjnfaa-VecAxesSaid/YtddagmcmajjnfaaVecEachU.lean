/-
  each of package vec at Unit's closure. The conditions: the numbers are of 64 bits, and what is captured lies where it is.
-/
import Derived.Test.YtddagmcmajjnfaaVecEachS
namespace Go.Proofs.Ytddagmcmajjnfaa.Fx
open Go Go.RowKit
set_option linter.unusedVariables false
set_option maxHeartbeats 1000000 in
theorem each_unit (ax ay az n : Int) (hax : isI ax) (hay : isI ay) (haz : isI az) (hn : isI n) (cp : Addr) (w : World) (hc : w.cell? cp = some (.int .i64 n)) :
    Calls Try.prog 33 #[.agg #[.int .i64 ax, .int .i64 ay, .int .i64 az], .func (Fn.func 40) #[] #[.pointer (some cp)]] w fun e w' => e = .returned (.agg #[.int .i64 (div ax n), .int .i64 (div ay n), .int .i64 (div az n)]) ∧ Below w.heap.size w w' := by
  have hcp := World.block_lt_of_cell? _ _ hc
  go_enter Try.func33, Try.ntmps33
  go_wp2
  go_region_held3 (fun w' => w'.cell? cp = some (.int .i64 n) ∧ w'.cell? ⟨w.heap.size, 0, none⟩ = some (.int .i64 ax) ∧ w'.cell? ⟨w.heap.size, 1, none⟩ = some (.int .i64 ay) ∧ w'.cell? ⟨w.heap.size, 2, none⟩ = some (.int .i64 az) ∧ w'.cell? ⟨w.heap.size + 1, 0, none⟩ = some (lies w' ⟨w.heap.size + 1, 0, none⟩) ∧ w'.cell? ⟨w.heap.size + 1, 1, none⟩ = some (lies w' ⟨w.heap.size + 1, 1, none⟩) ∧ w'.cell? ⟨w.heap.size + 1, 2, none⟩ = some (lies w' ⟨w.heap.size + 1, 2, none⟩) ∧ w'.frozen? ⟨w.heap.size + 1, 0, none⟩ = false ∧ w'.frozen? ⟨w.heap.size + 1, 1, none⟩ = false ∧ w'.frozen? ⟨w.heap.size + 1, 2, none⟩ = false ∧ Below w.heap.size w w' ∧ w.heap.size + 1 < w'.heap.size) (first | assumption | exact onec_drew (onec_start _ _ _ (by assumption)) | exact onec_drew (onec_keep (onec_start _ _ _ (by assumption)) hb0) | exact onec_keep (by assumption) hnew | exact onec_store _ _ _ hcp (by assumption))
    (first | (go_at_call 40; refine (unit_one _ n (by first | assumption | exact mul_is _ _ | exact add_is _ _ | exact sub_is _ _ | exact neg_is _ | exact div_is _ _) hn cp _ ?_).mono ?_; (exact onec_cap (by assumption)); rintro e w1 ⟨rfl, hnew⟩))
  rename_i hh
  obtain ⟨q0, q1, q2, hB⟩ := onec_read hh
  clear hh
  go_wp2
  exact bodyPost_ret (by simp [results, Try.results33, go_sem, q0, q1, q2]) rfl ⟨rfl, hB⟩
end Go.Proofs.Ytddagmcmajjnfaa.Fx
