/-
  each of package vec at Scale's closure. The conditions: the numbers are of 64 bits, and what is captured lies where it is.
-/
import Derived.Test.YtddagmcmajjnfaaVecBase
namespace Go.Proofs.Ytddagmcmajjnfaa.Fx
open Go Go.RowKit
set_option linter.unusedVariables false
theorem onec_cap {ax ay az : Int} {cp : Addr} {cv : Value} {N : Nat} {w w1 : World} (h : w1.cell? cp = some cv ∧ w1.cell? ⟨N, 0, none⟩ = some (.int .i64 ax) ∧ w1.cell? ⟨N, 1, none⟩ = some (.int .i64 ay) ∧ w1.cell? ⟨N, 2, none⟩ = some (.int .i64 az) ∧ w1.cell? ⟨N + 1, 0, none⟩ = some (lies w1 ⟨N + 1, 0, none⟩) ∧ w1.cell? ⟨N + 1, 1, none⟩ = some (lies w1 ⟨N + 1, 1, none⟩) ∧ w1.cell? ⟨N + 1, 2, none⟩ = some (lies w1 ⟨N + 1, 2, none⟩) ∧ w1.frozen? ⟨N + 1, 0, none⟩ = false ∧ w1.frozen? ⟨N + 1, 1, none⟩ = false ∧ w1.frozen? ⟨N + 1, 2, none⟩ = false ∧ Below N w w1 ∧ N + 1 < w1.heap.size) : w1.cell? cp = some cv := by
  obtain ⟨cc, c0, c1, c2, r0, r1, r2, f0, f1, f2, hw, hs⟩ := h
  exact cc
set_option maxHeartbeats 1000000 in
theorem each_scale (ax ay az s : Int) (hax : isI ax) (hay : isI ay) (haz : isI az) (hs : isI s) (cp : Addr) (w : World) (hc : w.cell? cp = some (.int .i64 s)) :
    Calls Try.prog 33 #[.agg #[.int .i64 ax, .int .i64 ay, .int .i64 az], .func (Fn.func 42) #[] #[.pointer (some cp)]] w fun e w' => e = .returned (.agg #[.int .i64 (mul ax s), .int .i64 (mul ay s), .int .i64 (mul az s)]) ∧ Below w.heap.size w w' := by
  have hcp := World.block_lt_of_cell? _ _ hc
  go_enter Try.func33, Try.ntmps33
  go_wp2
  go_region_held3 (fun w' => w'.cell? cp = some (.int .i64 s) ∧ w'.cell? ⟨w.heap.size, 0, none⟩ = some (.int .i64 ax) ∧ w'.cell? ⟨w.heap.size, 1, none⟩ = some (.int .i64 ay) ∧ w'.cell? ⟨w.heap.size, 2, none⟩ = some (.int .i64 az) ∧ w'.cell? ⟨w.heap.size + 1, 0, none⟩ = some (lies w' ⟨w.heap.size + 1, 0, none⟩) ∧ w'.cell? ⟨w.heap.size + 1, 1, none⟩ = some (lies w' ⟨w.heap.size + 1, 1, none⟩) ∧ w'.cell? ⟨w.heap.size + 1, 2, none⟩ = some (lies w' ⟨w.heap.size + 1, 2, none⟩) ∧ w'.frozen? ⟨w.heap.size + 1, 0, none⟩ = false ∧ w'.frozen? ⟨w.heap.size + 1, 1, none⟩ = false ∧ w'.frozen? ⟨w.heap.size + 1, 2, none⟩ = false ∧ Below w.heap.size w w' ∧ w.heap.size + 1 < w'.heap.size) (first | assumption | exact onec_drew (onec_start _ _ _ (by assumption)) | exact onec_drew (onec_keep (onec_start _ _ _ (by assumption)) hb0) | exact onec_keep (by assumption) hnew | exact onec_store _ _ _ hcp (by assumption))
    (first | (go_at_call 42; refine (scale_one _ s (by first | assumption | exact mul_is _ _ | exact add_is _ _ | exact sub_is _ _ | exact neg_is _ | exact div_is _ _) hs cp _ ?_).mono ?_; (exact onec_cap (by assumption)); rintro e w1 ⟨rfl, hnew⟩))
  rename_i hh
  obtain ⟨q0, q1, q2, hB⟩ := onec_read hh
  clear hh
  go_wp2
  exact bodyPost_ret (by simp [results, Try.results33, go_sem, q0, q1, q2]) rfl ⟨rfl, hB⟩
end Go.Proofs.Ytddagmcmajjnfaa.Fx
