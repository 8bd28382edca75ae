/-
  The walk of ZlibNone: writers that New did not make. The condition is that the order lies as the text lays it.
-/
import Derived.Test.YtbfpbmnnlckldaaDoorZlY
namespace Go.Proofs.YtbfpbmnnlckldaaDoor.Fx
open Go Go.RowKit Go.Joins
set_option linter.unusedVariables false
theorem nozw_box (W : World) (ty ty2 : TypeId) : noZW ((W.alloc (.cells #[.pointer none] ty)).alloc (.cells #[.pointer none, .pointer (some ⟨W.heap.size, 0, none⟩)] ty2)) (.pointer (some ⟨W.heap.size, 0, none⟩)) :=
  .inr ⟨_, rfl, cell_of_block (alloc_old (heap_alloc_new W _)) 0⟩
set_option maxHeartbeats 4000000 in
set_option maxRecDepth 100000 in
theorem znone_law (W : World) (hl : LaidOrder W) (bv : Value) (zs : List Nat) (hr : bytesIn W bv zs) (h8 : ∀ x ∈ zs, x < 256) :
    Calls Tryd.prog 5 #[bv] W fun e w' => e = .returned (.bool true) ∧ Below W.heap.size W w' := by
  have HL := Lib.hid hl
  clear hr h8 hl
  go_enter Tryd.func5, Tryd.ntmps5
  go_wp2_with fail
  refine wp_loop_rounds 3 ?_
  rw [rounds_succ]
  go_wp2_with (first | (go_at_call 10; refine (zwriteNone_code _ _ _ (by first | exact nozw_box _ _ _ | exact .inl rfl)).mono ?_; rintro e w9 ⟨rfl, rfl⟩) | (go_at_call 11; refine (zendNone_code _ _ (by first | exact nozw_box _ _ _ | exact .inl rfl)).mono ?_; rintro e w9 ⟨rfl, rfl⟩))
  rw [rounds_succ]
  go_wp2_with (first | (go_at_call 10; refine (zwriteNone_code _ _ _ (by first | exact nozw_box _ _ _ | exact .inl rfl)).mono ?_; rintro e w9 ⟨rfl, rfl⟩) | (go_at_call 11; refine (zendNone_code _ _ (by first | exact nozw_box _ _ _ | exact .inl rfl)).mono ?_; rintro e w9 ⟨rfl, rfl⟩))
  rw [rounds_succ]
  go_wp2_with (go_at_call 15; refine (zawake_any _ (HL.out.below (below_two W _ _))).mono ?_; rintro e w9 ⟨rfl, hb9⟩)
  go_ret
  exact ⟨rfl, (below_two W _ _).trans (hb9.out.mono (below_two W _ _).size)⟩
end Go.Proofs.YtbfpbmnnlckldaaDoor.Fx
