/-
  The walk of FixNumbers: the chapter's examples, the edges, the sines of parts of a turn. No condition.
-/
import Derived.Test.YtcdcmhndfbaikaaFixAwake
namespace Go.Proofs.Ytcdcmhndfbaikaa.Fx
open Go Go.RowKit
set_option linter.unusedVariables false
theorem near_true (a b : Int) (ha : -8589934592 ≤ a) (ka : a ≤ 8589934592) (hb : -8589934592 ≤ b) (kb : b ≤ 8589934592) (h1 : a - b ≤ 16384) (h2 : b - a ≤ 16384) (w : World) :
    Calls Try.prog 16 #[.int .i64 a, .int .i64 b] w fun e w' => e = .returned (.bool true) ∧ w = w' := by
  have d1 : decide (a - b ≤ 16384) = true := decide_eq_true h1
  have d2 : decide (b - a ≤ 16384) = true := decide_eq_true h2
  go_enter Try.func16, Try.ntmps16
  go_wp2
  go_ret
  exact ⟨rfl, rfl⟩
theorem numbers : div (-1) 12884901888 = -1 ∧ div 0 0 = 0 ∧ div (-5) 0 = -9223372036854775808 ∧ sub 0 (-9223372036854775808) = 9223372036854775807 ∧ sub (-1) (-9223372036854775808) = 9223372036854775807 ∧ sub (-2) (-9223372036854775808) = 9223372036854775806 ∧ sub (-9223372036854775808) 1 = -9223372036854775808 ∧ mul (-9223372036854775808) (-9223372036854775808) = 9223372036854775807 ∧ mul 9223372036854775807 (-9223372036854775808) = -9223372036854775808 ∧ mul (-9223372036854775808) 4294967296 = -9223372036854775808 ∧ mul 9223372036854775807 4294967296 = 9223372036854775807 ∧ div (-9223372036854775808) (-1) = 9223372036854775807 ∧ div (-9223372036854775808) 4294967296 = -9223372036854775808 ∧ div 9223372036854775807 4294967296 = 9223372036854775807 ∧ div 1 9223372036854775807 = 0 ∧ div (-1) 9223372036854775807 = -1 ∧ whole (-2147483648) = -9223372036854775808 ∧ whole 2147483648 = 9223372036854775807 ∧ whole 2147483647 = 9223372032559808512 ∧ whole (-2147483649) = -9223372036854775808 ∧ floor (-9223372036854775808) = -2147483648 ∧ floor 9223372036854775807 = 2147483647 ∧ sin 6746518852 = 4294967296 ∧ sin 13493037704 = 0 ∧ cos 13493037704 = -4294967296 ∧ sin 2248839617 = 2147483647 ∧ cos 0 = 4294967296 ∧ sin (-6746518852) = -4294967296 ∧ sin 26986075409 = 0 := by decide +kernel
theorem roots : sqrt (-4) = 0 ∧ sqrt 0 = 0 ∧ sqrt 1 = 65536 := ⟨rfl, rfl, ex_root 1 65536 (by decide) (by decide) (by decide)⟩
set_option maxRecDepth 100000 in
set_option maxHeartbeats 4000000 in
theorem numbers_walk (W : World) :
    Calls Try.prog 3 #[] W fun e w' => e = .returned (.bool true) ∧ Below W.heap.size W w' := by
  obtain ⟨c0, c1, c2, c3, c4, c5, c6, c7, c8, c9, c10, c11, c12, c13, c14, c15, c16, c17, c18, c19, c20, c21, c22, c23, c24, c25, c26, c27, c28⟩ := numbers
  obtain ⟨r1, r2, r3⟩ := roots
  have hbl := Below.refl W.heap.size W
  go_enter Try.func3, Try.ntmps3
  go_wp2_with (first | (go_at_call 14; refine (of_any _ (by omega) (by omega) _).mono ?_; rintro e w' ⟨rfl, rfl⟩) | (go_at_call 15; refine (floor_any _ (by omega) (by omega) _).mono ?_; rintro e w' ⟨rfl, rfl⟩) | (go_at_call 24; refine (add_any _ _ (by omega) (by omega) (by omega) (by omega) _).mono ?_; rintro e w' ⟨rfl, rfl⟩) | (go_at_call 12; refine (sub_any _ _ (by omega) (by omega) (by omega) (by omega) _).mono ?_; rintro e w' ⟨rfl, rfl⟩) | (go_at_call 27; refine (neg_any _ (by omega) (by omega) _).mono ?_; rintro e w' ⟨rfl, rfl⟩) | (go_at_call 13; refine (mul_on _ _ (by omega) (by omega) (by omega) (by omega) W _ hbl).mono ?_; clear hbl; rintro e w1 ⟨rfl, hbl⟩) | (go_at_call 10; refine (div_on _ _ (by omega) (by omega) (by omega) (by omega) W _ hbl).mono ?_; clear hbl; rintro e w1 ⟨rfl, hbl⟩) | (go_at_call 11; refine (sqrt_on _ (by omega) (by omega) W _ hbl).mono ?_; clear hbl; rintro e w1 ⟨rfl, hbl⟩) | (go_at_call 17; refine (sin_on _ (by omega) (by omega) W _ hbl).mono ?_; clear hbl; rintro e w1 ⟨rfl, hbl⟩) | (go_at_call 18; refine (cos_on _ (by omega) (by omega) W _ hbl).mono ?_; clear hbl; rintro e w1 ⟨rfl, hbl⟩) | (go_at_call 22; refine (rof_any _ (by omega) (by omega) _).mono ?_; rintro e w' ⟨rfl, rfl⟩) | (go_at_call 23; refine (rfloor_any _ (by omega) (by omega) _).mono ?_; rintro e w' ⟨rfl, rfl⟩) | (go_at_call 25; refine (radd_any _ _ (by omega) (by omega) (by omega) (by omega) _).mono ?_; rintro e w' ⟨rfl, rfl⟩) | (go_at_call 26; refine (rsub_any _ _ (by omega) (by omega) (by omega) (by omega) _).mono ?_; rintro e w' ⟨rfl, rfl⟩) | (go_at_call 28; refine (rneg_any _ (by omega) (by omega) _).mono ?_; rintro e w' ⟨rfl, rfl⟩) | (go_at_call 29; refine (rmul_any _ _ (by omega) (by omega) (by omega) (by omega) _).mono ?_; rintro e w' ⟨rfl, rfl⟩) | (go_at_call 30; refine (rdiv_any _ _ (by omega) (by omega) (by omega) (by omega) _).mono ?_; rintro e w' ⟨rfl, rfl⟩) | (go_at_call 31; refine (rsqrt_any _ (by omega) (by omega) _).mono ?_; rintro e w' ⟨rfl, rfl⟩) | (go_at_call 20; refine (rsin_any _ (by omega) (by omega) _).mono ?_; rintro e w' ⟨rfl, rfl⟩) | (go_at_call 19; refine (rcos_any _ (by omega) (by omega) _).mono ?_; rintro e w' ⟨rfl, rfl⟩) | (go_at_call 21; refine (awake_on W _ hbl).mono ?_; clear hbl; rintro e w1 ⟨rfl, hbl⟩) | (go_at_call 16; refine (near_true _ _ (by omega) (by omega) (by omega) (by omega) (by omega) (by omega) _).mono ?_; rintro e w' ⟨rfl, rfl⟩))
  go_ret
  exact ⟨rfl, hbl⟩
end Go.Proofs.Ytcdcmhndfbaikaa.Fx
