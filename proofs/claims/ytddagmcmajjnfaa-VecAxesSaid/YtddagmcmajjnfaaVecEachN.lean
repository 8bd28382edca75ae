/-
  each of package vec at fix.Neg. The condition: the numbers are of 64 bits.
-/
import Derived.Test.YtddagmcmajjnfaaVecBase
namespace Go.Proofs.Ytddagmcmajjnfaa.Fx
open Go Go.RowKit
set_option linter.unusedVariables false
set_option maxHeartbeats 1000000 in
theorem each_neg (ax ay az : Int) (hax : isI ax) (hay : isI ay) (haz : isI az) (w : World) :
    Calls Try.prog 33 #[.agg #[.int .i64 ax, .int .i64 ay, .int .i64 az], .func (Fn.func 34) #[] #[]] w fun e w' => e = .returned (.agg #[.int .i64 (neg ax), .int .i64 (neg ay), .int .i64 (neg az)]) ∧ Below w.heap.size w w' := by
  go_enter Try.func33, Try.ntmps33
  go_wp2
  go_region_held3 (fun w' => w'.cell? ⟨w.heap.size, 0, none⟩ = some (.int .i64 ax) ∧ w'.cell? ⟨w.heap.size, 1, none⟩ = some (.int .i64 ay) ∧ w'.cell? ⟨w.heap.size, 2, none⟩ = some (.int .i64 az) ∧ w'.cell? ⟨w.heap.size + 1, 0, none⟩ = some (lies w' ⟨w.heap.size + 1, 0, none⟩) ∧ w'.cell? ⟨w.heap.size + 1, 1, none⟩ = some (lies w' ⟨w.heap.size + 1, 1, none⟩) ∧ w'.cell? ⟨w.heap.size + 1, 2, none⟩ = some (lies w' ⟨w.heap.size + 1, 2, none⟩) ∧ w'.frozen? ⟨w.heap.size + 1, 0, none⟩ = false ∧ w'.frozen? ⟨w.heap.size + 1, 1, none⟩ = false ∧ w'.frozen? ⟨w.heap.size + 1, 2, none⟩ = false ∧ Below w.heap.size w w' ∧ w.heap.size + 1 < w'.heap.size) (first | assumption | exact one_drew (one_start _ _ _) | exact one_drew (one_keep (one_start _ _ _) hb0) | exact one_keep (by assumption) hnew | exact one_store _ _ _ (by assumption))
    (first | (go_at_call 34; refine (negI _ (by first | assumption | exact mul_is _ _ | exact add_is _ _ | exact sub_is _ _ | exact neg_is _ | exact div_is _ _) _).mono ?_; rintro e w' ⟨rfl, rfl⟩))
  rename_i hh
  have hB := one_below hh
  clear hh
  go_wp2
  exact bodyPost_ret (by simp [results, Try.results33, go_sem]) rfl ⟨rfl, hB⟩
end Go.Proofs.Ytddagmcmajjnfaa.Fx
