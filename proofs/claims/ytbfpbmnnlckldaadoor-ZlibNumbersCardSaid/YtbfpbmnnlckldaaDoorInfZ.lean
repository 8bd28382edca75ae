/-
  The chapter's examples, plain: by calculation.
  The chapter's examples, as each statement asks them (awake). The conditions stand in each.
-/
import Derived.WalkKit
import Derived.Test.YtbfpbmnnlckldaaDoorInfP
import Derived.Test.YtbfpbmnnlckldaaDoorInfO
namespace Go.Proofs.YtbfpbmnnlckldaaDoor.Fx
open Go
set_option maxRecDepth 100000 in
theorem exi_none : Says blocksW (bitsOfBytes [3, 0]) 9 ⟨0, []⟩ (.ok () ⟨10, []⟩) := ⟨20, by kernel_rfl⟩
set_option maxRecDepth 100000 in
theorem exi_one : Says blocksW (bitsOfBytes [75, 4, 0]) 9 ⟨0, []⟩ (.ok () ⟨18, [97]⟩) := ⟨20, by kernel_rfl⟩
set_option maxRecDepth 100000 in
theorem exi_ten : Says blocksW (bitsOfBytes [75, 132, 3, 0]) 10 ⟨0, []⟩ (.ok () ⟨30, [97, 97, 97, 97, 97, 97, 97, 97, 97, 97]⟩) := ⟨20, by kernel_rfl⟩
set_option maxRecDepth 100000 in
theorem exi_long : Says blocksW (bitsOfBytes [75, 132, 3, 0]) 9 ⟨0, []⟩ (.err 3) := ⟨20, by kernel_rfl⟩
set_option maxRecDepth 100000 in
theorem exi_seven : Says blocksW (bitsOfBytes [1, 1, 0, 254, 255, 7]) 1 ⟨0, []⟩ (.ok () ⟨48, [7]⟩) := ⟨20, by kernel_rfl⟩
set_option maxRecDepth 100000 in
theorem exi_kind : Says blocksW (bitsOfBytes [7]) 9 ⟨0, []⟩ (.err 10) := ⟨20, by kernel_rfl⟩
set_option maxRecDepth 100000 in
theorem exi_empty : Says blocksW (bitsOfBytes []) 9 ⟨0, []⟩ (.err 12) := ⟨20, by kernel_rfl⟩
set_option maxRecDepth 100000 in
theorem exi_short : Says blocksW (bitsOfBytes [75]) 9 ⟨0, []⟩ (.err 12) := ⟨20, by kernel_rfl⟩
set_option maxRecDepth 100000 in
theorem exi_not : Says blocksW (bitsOfBytes [1, 1, 0, 255, 255]) 9 ⟨0, []⟩ (.err 10) := ⟨20, by kernel_rfl⟩
end Go.Proofs.YtbfpbmnnlckldaaDoor.Fx
namespace Go.Proofs.YtbfpbmnnlckldaaDoor.Fx
open Go Go.RowKit Go.Joins
set_option linter.unusedVariables false
theorem listed_new {α : Type} {c : α → Value} (w : World) (vals : Array Value) (ty : TypeId) (fr : Nat × Nat) (zs : List α) (cap : Nat) (hv : vals.toList = zs.map c) (hle : zs.length ≤ cap) : listed c (w.alloc (.cells vals ty fr)) (.slice (some ⟨w.heap.size, 0, none⟩) zs.length cap) zs := by
  refine .inr ⟨w.heap.size, 0, cap, rfl, ?_, hle, fun j z hj => ?_⟩
  · show _ < (w.heap.push _).size
    simp
  · rw [Nat.zero_add, cell_of_block (heap_alloc_new w _) j, ← Array.getElem?_toList, hv, List.getElem?_map, hj]
    rfl
theorem listed_drawn {α : Type} {c : α → Value} {w : World} {v : Value} {zs : List α} (h : listed c w v zs) : listed c w.drew v zs := listed_on h (Below.refl _ _).drew
theorem LaidOrder.below {W w : World} (h : LaidOrder W) (hb : Below W.heap.size W w) : LaidOrder w := h.went (Past.of_below hb : Past (fun _ => False) _ _) (fun h => h)
theorem row_new {w X : World} {vals : Array Value} {zs : List Nat} {n : Nat} (hX : X = w.alloc (.cells vals 5) ∨ X = (w.alloc (.cells vals 5)).drew) (c3 : vals.toList = zs.map byteVal) (c4 : zs.length = n) :
    bytesIn X (.slice (some ⟨w.heap.size, 0, none⟩) n n) zs ∧ Below w.heap.size w X := by
  subst c4
  rcases hX with rfl | rfl
  · exact ⟨listed_new w _ _ _ zs _ c3 (Nat.le_refl _), below_alloc1 w _⟩
  · exact ⟨listed_drawn (listed_new w _ _ _ zs _ c3 (Nat.le_refl _)), (below_alloc1 w _).drew⟩
end Go.Proofs.YtbfpbmnnlckldaaDoor.Fx
