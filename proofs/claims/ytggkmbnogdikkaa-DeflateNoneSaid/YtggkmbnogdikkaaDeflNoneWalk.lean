/-
  The walk of DeflateNone: writers that New did not make. No condition.
-/
import Derived.Test.YtggkmbnogdikkaaDeflA
namespace Go.Proofs.Ytggkmbnogdikkaa.Fx
open Go Go.RowKit Go.Joins
set_option linter.unusedVariables false
theorem nodw_box (W : World) (ty ty2 : TypeId) : noDW ((W.alloc (.cells #[.pointer none] ty)).alloc (.cells #[.pointer none, .pointer (some ⟨W.heap.size, 0, none⟩)] ty2)) (.pointer (some ⟨W.heap.size, 0, none⟩)) :=
  .inr ⟨_, rfl, cell_of_block (alloc_old (heap_alloc_new W _)) 0⟩
set_option maxHeartbeats 4000000 in
set_option maxRecDepth 100000 in
theorem none_law (W : World) (bv : Value) (zs : List Nat) (hr : bytesIn W bv zs) (h8 : ∀ x ∈ zs, x < 256) :
    Calls Try.prog 5 #[bv] W fun e w' => e = .returned (.bool true) ∧ Below W.heap.size W w' := by
  clear hr h8
  go_enter Try.func5, Try.ntmps5
  go_wp2_with fail
  refine wp_loop_rounds 3 ?_
  rw [rounds_succ]
  go_wp2_with (first | (go_at_call 16; refine (writeNone_code _ _ _ (by first | exact nodw_box _ _ _ | exact .inl rfl)).mono ?_; rintro e w9 ⟨rfl, rfl⟩) | (go_at_call 18; refine (endNone_code _ _ (by first | exact nodw_box _ _ _ | exact .inl rfl)).mono ?_; rintro e w9 ⟨rfl, rfl⟩) | (go_at_call 13; refine (awake_any _).mono ?_; rintro e w9 ⟨rfl, hb9⟩))
  rw [rounds_succ]
  go_wp2_with (first | (go_at_call 16; refine (writeNone_code _ _ _ (by first | exact nodw_box _ _ _ | exact .inl rfl)).mono ?_; rintro e w9 ⟨rfl, rfl⟩) | (go_at_call 18; refine (endNone_code _ _ (by first | exact nodw_box _ _ _ | exact .inl rfl)).mono ?_; rintro e w9 ⟨rfl, rfl⟩) | (go_at_call 13; refine (awake_any _).mono ?_; rintro e w9 ⟨rfl, hb9⟩))
  rw [rounds_succ]
  go_wp2_with (first | (go_at_call 16; refine (writeNone_code _ _ _ (by first | exact nodw_box _ _ _ | exact .inl rfl)).mono ?_; rintro e w9 ⟨rfl, rfl⟩) | (go_at_call 18; refine (endNone_code _ _ (by first | exact nodw_box _ _ _ | exact .inl rfl)).mono ?_; rintro e w9 ⟨rfl, rfl⟩) | (go_at_call 13; refine (awake_any _).mono ?_; rintro e w9 ⟨rfl, hb9⟩))
  go_ret
  exact ⟨rfl, (below_two W _ _).trans (hb9.mono (below_two W _ _).size)⟩
end Go.Proofs.Ytggkmbnogdikkaa.Fx
