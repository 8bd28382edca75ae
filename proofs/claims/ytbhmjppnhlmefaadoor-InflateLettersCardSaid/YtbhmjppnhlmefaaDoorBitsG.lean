/-
  The document's own reader. The conditions stand in each.
-/
import Derived.Test.YtbhmjppnhlmefaaDoorBitsR
namespace Go.Proofs.YtbhmjppnhlmefaaDoor.Fx
open Go Go.RowKit Go.Joins
set_option linter.unusedVariables false
theorem below_two (W : World) (o o' : Obj) : Below W.heap.size W ((W.alloc o).alloc o') := ((Below.refl _ _).alloc (Nat.le_refl _) _).alloc (by show W.heap.size ≤ (W.heap.push _).size; simp) _
/-! ### The document's own writer: up to whole bytes; what is taken -/
def sliceLen : Value → Nat
  | .slice _ n _ => n
  | _ => 0
end Go.Proofs.YtbhmjppnhlmefaaDoor.Fx
