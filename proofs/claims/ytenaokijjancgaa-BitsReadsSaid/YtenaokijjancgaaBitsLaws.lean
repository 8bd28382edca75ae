/-
  The walks of BitsNone, BitsWrites, BitsReads, over the landed code. The conditions stand in each.
-/
import Derived.Test.YtenaokijjancgaaBitsDoes
import Derived.Test.YtenaokijjancgaaBitsNoneWalk
import Derived.Test.YtenaokijjancgaaBitsWritesWalk
import Derived.Test.YtenaokijjancgaaBitsReadsWalk
namespace Go.Proofs.Ytenaokijjancgaa.Fx
open Go Go.RowKit
theorem none_law (D : Does isW isR) (W : World) (n : Nat) (k : Int) (hn : n ≤ 4294967295) (hk0 : -9223372036854775808 ≤ k) (hk1 : k ≤ 9223372036854775807) :
    Calls Try.prog 6 #[.int .u32 (n : Int), .int .i64 k] W fun e w' => e = .returned (.bool true) ∧ Below W.heap.size W w' := none_any D n k (by omega) ⟨hk0, hk1⟩ W
theorem writes_law (D : Does isW isR) (W : World) (v : Value) (cs : List Call) (hc : scriptIn W v cs) (hok : ∀ c ∈ cs, c.ok) :
    Calls Try.prog 4 #[v] W fun e w' => e = .returned (.bool true) ∧ Below W.heap.size W w' := writes_any D bits_same W v cs hc hok
theorem reads_law (D : Does isW isR) (W : World) (bv : Value) (zs : List Nat) (v : Value) (cs : List Call) (hz : bytesIn W bv zs) (h8 : ∀ x ∈ zs, x < 256) (hc : scriptIn W v cs) (hok : ∀ c ∈ cs, c.ok) :
    Calls Try.prog 5 #[bv, v] W fun e w' => e = .returned (.bool true) ∧ Below W.heap.size W w' := reads_any D at_same W bv zs v cs hz h8 hc hok
end Go.Proofs.Ytenaokijjancgaa.Fx
