/-
  The walk of BitsBack, over the landed code. The conditions stand in it.
-/
import Derived.Test.YtenaokijjancgaaBitsDoes
import Derived.Test.YtenaokijjancgaaBitsBackWalk
namespace Go.Proofs.Ytenaokijjancgaa.Fx
open Go Go.RowKit
theorem back_law (D : Does isW isR) (W : World) (v : Value) (cs : List Call) (hc : scriptIn W v cs) (hok : ∀ c ∈ cs, c.ok) :
    Calls Try.prog 7 #[v] W fun e w' => e = .returned (.bool true) ∧ Below W.heap.size W w' := back_any D W v cs hc hok
end Go.Proofs.Ytenaokijjancgaa.Fx
