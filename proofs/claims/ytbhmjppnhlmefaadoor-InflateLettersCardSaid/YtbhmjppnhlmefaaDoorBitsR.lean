/-
  The document's own answers of layer 5. The conditions stand in each.
-/
import Derived.Laws.Bits64
import Derived.Laws.BitsAllLaws
import Derived.Handy
import Derived.Deep.CutBlock
import Derived.Deep.DeepCutAuto
import Derived.Test.YtbhmjppnhlmefaaDoorLists
import Derived.Test.YtbhmjppnhlmefaaDoorBitsP
namespace Go.Proofs.YtbhmjppnhlmefaaDoor.Fx
open Go Go.RowKit Go.Joins
set_option linter.unusedVariables false
abbrev bools (w : World) (v : Value) (l : List Bool) : Prop := listed Value.bool w v l
theorem pow_le (k : Nat) (h : k ≤ 32) : 2 ^ k ≤ 4294967296 := by
  have := Nat.pow_le_pow_right (n := 2) (by decide) h
  omega
theorem infoB : (Tryd.prog.info? 4).map (fun i => (i.zero, i.size, i.bytes)) = some (some (.bool false), 1, 1) := by kernel_rfl
theorem alloc_old {w : World} {o o' : Obj} {g : Nat} (h : w.heap[g]? = some o) : (w.alloc o').heap[g]? = some o := by
  exact (Below.heap_alloc w o' g (Array.getElem?_eq_some_iff.1 h).1).trans h
/-- The two blocks that a call of the document's own lays first: the receiver's and the answer's. -/
theorem two_blocks (W : World) (ty : TypeId) (x y x0 y0 : Value) : ∃ w1, w1 = (W.alloc (.cells #[x, y] ty)).alloc (.cells #[x0, y0] ty) ∧ w1.heap.size = W.heap.size + 2 ∧ w1.heap[W.heap.size]? = some (.cells #[x, y] ty (0, 0)) ∧ w1.heap[W.heap.size + 1]? = some (.cells #[x0, y0] ty (0, 0)) ∧ Below W.heap.size W w1 := by
  have hs0 : (W.alloc (.cells #[x, y] ty)).heap.size = W.heap.size + 1 := by
    show (W.heap.push _).size = _
    simp
  refine ⟨_, rfl, ?_, alloc_old (heap_alloc_new W _), ?_, ((Below.refl _ _).alloc (Nat.le_refl _) _).alloc (by rw [hs0]; omega) _⟩
  · show ((W.alloc _).heap.push _).size = _
    rw [Array.size_push, hs0]
  · rw [← hs0]
    exact heap_alloc_new _ _
end Go.Proofs.YtbhmjppnhlmefaaDoor.Fx
