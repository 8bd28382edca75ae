/-
  The walk of FixTurns: a full turn on the sine is the same; a quarter on it is the cosine. The conditions are that the numbers are of their kinds.
-/
import Derived.Test.YtcdcmhndfbaikaaFixTellsWalk
namespace Go.Proofs.Ytcdcmhndfbaikaa.Fx
open Go Go.RowKit
set_option linter.unusedVariables false
theorem wf16_is {n : Int} (h : (Lit.int .i16 n).wf = true) : -32768 ≤ n ∧ n ≤ 32767 := by
  simp [Lit.wf, IntKind.min, IntKind.max, IntKind.bits, IntKind.signed] at h
  omega
theorem sin_turn (t k : Int) : sin (t + k * 26986075409) = sin t := by
  unfold sin fold
  rw [Int.add_mul_emod_self_right]
theorem cos_add {t : Int} (h : -4611686018427387904 ≤ t) (h2 : t ≤ 4611686018427387904) : cos t = sin (t + 6746518852) := by
  unfold cos add
  rw [bring_in (by unfold isI; omega)]
theorem tmod_bd (a : Int) : ∃ t : Int, a.tmod 1152921504606846976 = t ∧ -1152921504606846976 < t ∧ t < 1152921504606846976 := by
  refine ⟨_, rfl, ?_⟩
  by_cases h : a < 0
  · rw [(quo_low h).2]
    omega
  · rw [(quo_high (by omega)).2]
    omega
theorem tmod_bd2 (a : Int) : ∃ t : Int, a.tmod 1000 = t ∧ -1000 < t ∧ t < 1000 := by
  refine ⟨_, rfl, ?_⟩
  by_cases h : a < 0
  · rw [(quo_low h).2]
    omega
  · rw [(quo_high (by omega)).2]
    omega
set_option maxHeartbeats 2000000 in
theorem turns_walk (a n : Int) (wa : (Lit.int .i64 a).wf = true) (wn : (Lit.int .i16 n).wf = true) (W : World) :
    Calls Try.prog 8 #[.int .i64 a, .int .i16 n] W fun e w' => e = .returned (.bool true) ∧ Below W.heap.size W w' := by
  obtain ⟨ha, ka⟩ := wf_is wa
  obtain ⟨hn, kn⟩ := wf16_is wn
  clear wa wn
  obtain ⟨t, t1, t2, t3⟩ := tmod_bd a
  obtain ⟨k, k1, k2, k3⟩ := tmod_bd2 n
  obtain ⟨s, s1⟩ : ∃ s, sin t = s := ⟨_, rfl⟩
  obtain ⟨c, c1⟩ : ∃ c, cos t = c := ⟨_, rfl⟩
  have s2 : sin (t + k * 26986075409) = s := by rw [sin_turn, s1]
  have c2 : cos (t + k * 26986075409) = c := by rw [cos_add (by omega) (by omega), Int.add_right_comm, sin_turn, ← cos_add (by omega) (by omega), c1]
  have c3 : sin (t + 6746518852) = c := by rw [← cos_add (by omega) (by omega), c1]
  have z : sin 0 = 0 := by decide +kernel
  have hbl := Below.refl W.heap.size W
  go_enter Try.func8, Try.ntmps8
  go_wp2_with (first | (go_at_call 14; refine (of_any _ (by omega) (by omega) _).mono ?_; rintro e w' ⟨rfl, rfl⟩) | (go_at_call 15; refine (floor_any _ (by omega) (by omega) _).mono ?_; rintro e w' ⟨rfl, rfl⟩) | (go_at_call 24; refine (add_any _ _ (by omega) (by omega) (by omega) (by omega) _).mono ?_; rintro e w' ⟨rfl, rfl⟩) | (go_at_call 12; refine (sub_any _ _ (by omega) (by omega) (by omega) (by omega) _).mono ?_; rintro e w' ⟨rfl, rfl⟩) | (go_at_call 27; refine (neg_any _ (by omega) (by omega) _).mono ?_; rintro e w' ⟨rfl, rfl⟩) | (go_at_call 13; refine (mul_on _ _ (by omega) (by omega) (by omega) (by omega) W _ hbl).mono ?_; clear hbl; rintro e w1 ⟨rfl, hbl⟩) | (go_at_call 10; refine (div_on _ _ (by omega) (by omega) (by omega) (by omega) W _ hbl).mono ?_; clear hbl; rintro e w1 ⟨rfl, hbl⟩) | (go_at_call 11; refine (sqrt_on _ (by omega) (by omega) W _ hbl).mono ?_; clear hbl; rintro e w1 ⟨rfl, hbl⟩) | (go_at_call 17; refine (sin_on _ (by omega) (by omega) W _ hbl).mono ?_; clear hbl; rintro e w1 ⟨rfl, hbl⟩) | (go_at_call 18; refine (cos_on _ (by omega) (by omega) W _ hbl).mono ?_; clear hbl; rintro e w1 ⟨rfl, hbl⟩) | (go_at_call 22; refine (rof_any _ (by omega) (by omega) _).mono ?_; rintro e w' ⟨rfl, rfl⟩) | (go_at_call 23; refine (rfloor_any _ (by omega) (by omega) _).mono ?_; rintro e w' ⟨rfl, rfl⟩) | (go_at_call 25; refine (radd_any _ _ (by omega) (by omega) (by omega) (by omega) _).mono ?_; rintro e w' ⟨rfl, rfl⟩) | (go_at_call 26; refine (rsub_any _ _ (by omega) (by omega) (by omega) (by omega) _).mono ?_; rintro e w' ⟨rfl, rfl⟩) | (go_at_call 28; refine (rneg_any _ (by omega) (by omega) _).mono ?_; rintro e w' ⟨rfl, rfl⟩) | (go_at_call 29; refine (rmul_any _ _ (by omega) (by omega) (by omega) (by omega) _).mono ?_; rintro e w' ⟨rfl, rfl⟩) | (go_at_call 30; refine (rdiv_any _ _ (by omega) (by omega) (by omega) (by omega) _).mono ?_; rintro e w' ⟨rfl, rfl⟩) | (go_at_call 31; refine (rsqrt_any _ (by omega) (by omega) _).mono ?_; rintro e w' ⟨rfl, rfl⟩) | (go_at_call 20; refine (rsin_any _ (by omega) (by omega) _).mono ?_; rintro e w' ⟨rfl, rfl⟩) | (go_at_call 19; refine (rcos_any _ (by omega) (by omega) _).mono ?_; rintro e w' ⟨rfl, rfl⟩) | (go_at_call 21; refine (awake_on W _ hbl).mono ?_; clear hbl; rintro e w1 ⟨rfl, hbl⟩))
  go_ret
  exact ⟨rfl, hbl⟩
end Go.Proofs.Ytcdcmhndfbaikaa.Fx
