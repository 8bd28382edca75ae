/-
  Mul of package fix: the product, divided down, brought in. The conditions are that the numbers are of their kind.
-/
import Derived.Laws.EntriesVeiled
import Derived.Test.YtddagmcmajjnfaaShelf
import Derived.Test.YtddagmcmajjnfaaFixSmall
namespace Go.Proofs.Ytddagmcmajjnfaa.Fx
open Go Go.RowKit
set_option linter.unusedVariables false
theorem sign_any (b : Bool) (hi lo : Int) (rest : Bool) (p : Addr) (h0 : 0 ≤ hi) (h1 : hi ≤ 18446744073709551615) (l0 : 0 ≤ lo) (l1 : lo ≤ 18446744073709551615) (w : World) (hc : w.cell? p = some (.bool b)) :
    Calls Try.prog 60 #[.int .u64 hi, .int .u64 lo, .bool rest, .pointer (some p)] w fun e w' => e = .returned (.int .i64 (signed b hi.toNat lo.toNat rest)) ∧ w = w' := by
  cases b
  · by_cases h : hi = 0
    · subst h
      by_cases hl : 9223372036854775808 ≤ lo
      · go_enter Try.func60, Try.ntmps60
        go_wp2
        go_ret
        exact ⟨ret_int (by unfold signed; rw [if_pos rfl, if_pos (by omega)]), rfl⟩
      · go_enter Try.func60, Try.ntmps60
        go_wp2
        go_ret
        exact ⟨ret_int (by unfold signed; rw [if_pos rfl, if_neg (by omega)]; omega), rfl⟩
    · have hp : 0 < hi := by omega
      clear h
      go_enter Try.func60, Try.ntmps60
      go_wp2
      go_ret
      exact ⟨ret_int (by unfold signed; rw [if_pos rfl, if_pos (by omega)]), rfl⟩
  · by_cases h : hi = 0
    · subst h
      by_cases hl : 9223372036854775808 ≤ lo
      · go_enter Try.func60, Try.ntmps60
        go_wp2
        go_ret
        exact ⟨ret_int (by unfold signed; rw [if_neg (by decide), if_pos (by omega)]), rfl⟩
      · cases rest
        · go_enter Try.func60, Try.ntmps60
          go_wp2
          go_ret
          exact ⟨ret_int (a := wrap64 (IntKind.u64.wrap (-lo))) (by unfold signed; rw [if_neg (by decide), if_neg (by omega), if_neg (by decide), IntKind.wrap_u64]; unfold wrap64; omega), rfl⟩
        · go_enter Try.func60, Try.ntmps60
          go_wp2
          go_ret
          exact ⟨ret_int (a := wrap64 (IntKind.u64.wrap (-(lo + 1)))) (by unfold signed; rw [if_neg (by decide), if_neg (by omega), if_pos rfl, IntKind.wrap_u64]; unfold wrap64; omega), rfl⟩
    · have hp : 0 < hi := by omega
      clear h
      go_enter Try.func60, Try.ntmps60
      go_wp2
      go_ret
      exact ⟨ret_int (by unfold signed; rw [if_neg (by decide), if_pos (by omega)]), rfl⟩
/-- What 'signed' gives: a function that bears the sign. -/
def Bears (a b : Int) (w : World) (e : Ending) (w' : World) : Prop :=
  ∃ p : Addr, e = .returned (.func (Fn.func 60) #[] #[.pointer (some p)]) ∧ Hid (w'.cell? p = some (.bool (unlike a b))) ∧ Below w.heap.size w w' ∧ p.block < w'.heap.size
theorem signed_any (a b : Int) (ha : -9223372036854775808 ≤ a) (ka : a ≤ 9223372036854775807) (hb : -9223372036854775808 ≤ b) (kb : b ≤ 9223372036854775807) (w : World) :
    Calls Try.prog 54 #[.int .i64 a, .int .i64 b] w (Bears a b w) := by
  go_enter Try.func54, Try.ntmps54
  go_wp2
  go_ret
  refine ⟨⟨w.heap.size, 0, none⟩, rfl, ?_, (Below.refl _ _).alloc (Nat.le_refl _) _, by simp⟩
  have hx : decide (bits .xor .i64 a b < 0) = unlike a b := by
    unfold unlike
    rw [xor_below ⟨ha, ka⟩ ⟨hb, kb⟩]
    by_cases h : a < 0 <;> by_cases k : b < 0 <;> simp [h, k]
  rw [hx]
  show World.cell? _ _ = _
  simp
set_option maxHeartbeats 400000 in
theorem mul_any (a b : Int) (ha : -9223372036854775808 ≤ a) (ka : a ≤ 9223372036854775807) (hb : -9223372036854775808 ≤ b) (kb : b ≤ 9223372036854775807) (w : World) :
    Calls Try.prog 43 #[.int .i64 a, .int .i64 b] w fun e w' => e = .returned (.int .i64 (mul a b)) ∧ Below w.heap.size w w' := by
  have hk := mul_code a.natAbs b.natAbs (by omega) (by omega)
  have hs := mul_sizes a b _ _ _ _ rfl hk.2.2.1 hk.2.2.2.1 hk.2.2.2.2
  have HK := Lib.hid hk
  have HS := Lib.hid hs
  clear hk hs
  go_enter Try.func43, Try.ntmps43
  go_wp2_with (first | (go_at_call 54; refine (signed_any _ _ (by omega) (by omega) (by omega) (by omega) _).mono ?_; rintro e w1 ⟨p, rfl, hp, hbl, hpb⟩) | (go_at_call 55; refine (size_any _ (by omega) (by omega) _).mono ?_; rintro e w' ⟨rfl, rfl⟩) | (go_at_call 56; refine (Try.bits_Mul64 a.natAbs b.natAbs (by omega) (by omega) _).mono ?_; rintro e w' ⟨rfl, hw⟩; rw [hw]; clear hw))
  refine (sign_any _ _ _ _ _ HK.out.1.1 HK.out.1.2 HK.out.2.1.1 HK.out.2.1.2 _ hp.out).mono ?_
  rintro e w' ⟨rfl, rfl⟩
  clear hp
  go_wp2
  go_ret
  exact ⟨ret_int HS.out, hbl⟩
end Go.Proofs.Ytddagmcmajjnfaa.Fx
