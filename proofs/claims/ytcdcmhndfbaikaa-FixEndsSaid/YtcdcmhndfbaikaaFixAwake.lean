/-
  The calls of package fix behind whatever has been laid before, and the examples that each statement asks (awake). The conditions are that the numbers are of their kinds.
-/
import Derived.Test.YtcdcmhndfbaikaaFixSine
namespace Go.Proofs.Ytcdcmhndfbaikaa.Fx
open Go Go.RowKit
set_option linter.unusedVariables false
theorem div_on (a b : Int) (ha : -9223372036854775808 ≤ a) (ka : a ≤ 9223372036854775807) (hb : -9223372036854775808 ≤ b) (kb : b ≤ 9223372036854775807) (W w : World) (h : Below W.heap.size W w) :
    Calls Try.prog 10 #[.int .i64 a, .int .i64 b] w fun e w' => e = .returned (.int .i64 (div a b)) ∧ Below W.heap.size W w' :=
  (div_any a b ha ka hb kb w).mono fun _ _ ⟨he, hw⟩ => ⟨he, h.trans (hw.mono h.size)⟩
theorem sqrt_on (a : Int) (ha : -9223372036854775808 ≤ a) (ka : a ≤ 9223372036854775807) (W w : World) (h : Below W.heap.size W w) :
    Calls Try.prog 11 #[.int .i64 a] w fun e w' => e = .returned (.int .i64 (sqrt a)) ∧ Below W.heap.size W w' :=
  (sqrt_any a ha ka w).mono fun _ _ ⟨he, hw⟩ => ⟨he, h.trans (hw.mono h.size)⟩
theorem sin_on (a : Int) (ha : -9223372036854775808 ≤ a) (ka : a ≤ 9223372036854775807) (W w : World) (h : Below W.heap.size W w) :
    Calls Try.prog 17 #[.int .i64 a] w fun e w' => e = .returned (.int .i64 (sin a)) ∧ Below W.heap.size W w' :=
  (sin_any a ha ka w).mono fun _ _ ⟨he, hw⟩ => ⟨he, h.trans (hw.mono h.size)⟩
theorem cos_on (a : Int) (ha : -9223372036854775808 ≤ a) (ka : a ≤ 9223372036854775807) (W w : World) (h : Below W.heap.size W w) :
    Calls Try.prog 18 #[.int .i64 a] w fun e w' => e = .returned (.int .i64 (cos a)) ∧ Below W.heap.size W w' :=
  (cos_any a ha ka w).mono fun _ _ ⟨he, hw⟩ => ⟨he, h.trans (hw.mono h.size)⟩
theorem ex1 : whole 3 = 12884901888 ∧ whole 1099511627776 = 9223372036854775807 ∧ floor (-1) = -1 ∧ add 9223372036854775807 1 = 9223372036854775807 ∧ neg (-9223372036854775808) = 9223372036854775807
    ∧ mul 6442450944 (-2147483648) = -3221225472 ∧ mul 1 1 = 0 ∧ mul (-1) 1 = -1 ∧ div 4294967296 8589934592 = 2147483648 ∧ div 5 0 = 9223372036854775807 ∧ whole 2 = 8589934592 ∧ whole 9 = 38654705664 ∧ sin 0 = 0 := by decide +kernel
theorem ex_root (a r : Nat) (h : 1 ≤ a) (h1 : r * r ≤ a * 4294967296) (h2 : a * 4294967296 < (r + 1) * (r + 1)) : sqrt (a : Int) = (r : Int) := by
  unfold sqrt
  rw [if_neg (by omega), Int.toNat_natCast, root_eq _ r h1 h2]
theorem ex2 : sqrt 8589934592 = 6074000999 := ex_root 8589934592 6074000999 (by decide) (by decide) (by decide)
theorem ex3 : sqrt 38654705664 = 12884901888 := ex_root 38654705664 12884901888 (by decide) (by decide) (by decide)
set_option maxHeartbeats 1000000 in
theorem awake_on (W w : World) (hbl : Below W.heap.size W w) :
    Calls Try.prog 21 #[] w fun e w' => e = .returned (.bool true) ∧ Below W.heap.size W w' := by
  obtain ⟨c1, c2, c3, c4, c5, c6, c7, c8, c9, c10, c11, c12, c13⟩ := ex1
  have c14 := ex2
  have c15 := ex3
  go_enter Try.func21, Try.ntmps21
  go_wp2_with (first | (go_at_call 14; refine (of_any _ (by omega) (by omega) _).mono ?_; rintro e w' ⟨rfl, rfl⟩) | (go_at_call 15; refine (floor_any _ (by omega) (by omega) _).mono ?_; rintro e w' ⟨rfl, rfl⟩) | (go_at_call 24; refine (add_any _ _ (by omega) (by omega) (by omega) (by omega) _).mono ?_; rintro e w' ⟨rfl, rfl⟩) | (go_at_call 12; refine (sub_any _ _ (by omega) (by omega) (by omega) (by omega) _).mono ?_; rintro e w' ⟨rfl, rfl⟩) | (go_at_call 27; refine (neg_any _ (by omega) (by omega) _).mono ?_; rintro e w' ⟨rfl, rfl⟩) | (go_at_call 13; refine (mul_on _ _ (by omega) (by omega) (by omega) (by omega) W _ hbl).mono ?_; clear hbl; rintro e w1 ⟨rfl, hbl⟩) | (go_at_call 10; refine (div_on _ _ (by omega) (by omega) (by omega) (by omega) W _ hbl).mono ?_; clear hbl; rintro e w1 ⟨rfl, hbl⟩) | (go_at_call 11; refine (sqrt_on _ (by omega) (by omega) W _ hbl).mono ?_; clear hbl; rintro e w1 ⟨rfl, hbl⟩) | (go_at_call 17; refine (sin_on _ (by omega) (by omega) W _ hbl).mono ?_; clear hbl; rintro e w1 ⟨rfl, hbl⟩) | (go_at_call 18; refine (cos_on _ (by omega) (by omega) W _ hbl).mono ?_; clear hbl; rintro e w1 ⟨rfl, hbl⟩))
  go_ret
  exact ⟨rfl, hbl⟩
end Go.Proofs.Ytcdcmhndfbaikaa.Fx
