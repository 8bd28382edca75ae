/-
  BitsEnds for all inputs: the walk's conditions, fulfilled; lists of more than 30 bytes.
-/
import Derived.Test.YtenaokijjancgaaBitsEndsWalk
namespace Go.Proofs.Ytenaokijjancgaa.Fx
open Go Go.RowKit Go.Joins
set_option linter.unusedVariables false
set_option maxRecDepth 100000 in
theorem ends_law {isW isR : World → Value → List Bool → Nat → (Nat → Prop) → Prop} (D : Does isW isR) (W : World) (v : Value) (zs : List Nat) (took more : Int) (hr : bytesIn W v zs) (h8 : ∀ x ∈ zs, x < 256) (ht0 : 0 ≤ took) (ht1 : took ≤ 255) (hm0 : 0 ≤ more) (hm1 : more ≤ 255) :
    Calls Try.prog 9 #[v, .int .u8 took, .int .u8 more] W fun e w' => e = .returned (.bool true) ∧ Below W.heap.size W w' := by
  obtain ⟨T, rfl⟩ : ∃ T : Nat, took = (T : Int) := ⟨took.toNat, by omega⟩
  obtain ⟨K, eK⟩ : ∃ K : Nat, more % 33 = (K : Int) := ⟨(more % 33).toNat, by omega⟩
  obtain ⟨n, hn⟩ : ∃ n, zs.length = n := ⟨_, rfl⟩
  by_cases h : n ≤ 30
  · exact ends_row D W v zs n (8 * n) T K more _ hr h8 hn h (by omega) (by omega) ⟨hm0, hm1⟩ eK (by omega) rfl (by rw [bitsOfBytes_length, hn])
  · have hlen := fun w => listed_len (u := 3) Try.underlying28 hr w
    rw [hn] at hlen
    have hd0 : decide ((30 : Int) < (n : Int)) = true := decide_eq_true (by omega)
    clear hr h8 hn h eK
    go_enter Try.func9, Try.ntmps9
    go_wp2_with fail
    go_at_call 20
    refine (awake_any D _).mono ?_
    rintro e w' ⟨rfl, hb⟩
    go_wp2_with fail
    all_goals (go_ret; exact ⟨rfl, hb⟩)
end Go.Proofs.Ytenaokijjancgaa.Fx
