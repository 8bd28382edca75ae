/-
  The walk of FixOrder: sums and products do not hang on order; what is greater stays greater, or the same. The conditions are that the numbers are of their kind.
-/
import Derived.Test.YtcdcmhndfbaikaaFixTurnsWalk
namespace Go.Proofs.Ytcdcmhndfbaikaa.Fx
open Go Go.RowKit
set_option linter.unusedVariables false
theorem ediv_le {a b c : Int} (hc : 0 < c) (h : a ≤ b) : a / c ≤ b / c := Int.ediv_le_ediv hc h
theorem mul_comm' (a b : Int) : mul b a = mul a b := by unfold mul; rw [Int.mul_comm]
theorem mul_mono {a b c : Int} (h : a ≤ b) (hc : 0 ≤ c) : mul a c ≤ mul b c := by
  unfold mul
  exact bring_mono (ediv_le (by decide) (Int.mul_le_mul_of_nonneg_right h hc))
theorem mul_anti {a b c : Int} (h : a ≤ b) (hc : c < 0) : mul b c ≤ mul a c := by
  unfold mul
  exact bring_mono (ediv_le (by decide) (Int.mul_le_mul_of_nonpos_right h (by omega)))
theorem fdiv_down (a c : Int) (hc : c < 0) : a.fdiv c = (-a) / (-c) := by
  rw [← Int.neg_fdiv_neg, Int.fdiv_eq_ediv_of_nonneg _ (by omega)]
theorem div_mono {a b c : Int} (h : a ≤ b) (hc : 0 < c) : div a c ≤ div b c := by
  unfold div
  rw [if_neg (by omega), if_neg (by omega), Int.fdiv_eq_ediv_of_nonneg _ (by omega), Int.fdiv_eq_ediv_of_nonneg _ (by omega)]
  exact bring_mono (ediv_le hc (by omega))
theorem div_anti {a b c : Int} (h : a ≤ b) (hc : c < 0) : div b c ≤ div a c := by
  unfold div
  rw [if_neg (by omega), if_neg (by omega), fdiv_down _ _ hc, fdiv_down _ _ hc]
  exact bring_mono (ediv_le (by omega) (by omega))
theorem sqrt_mono {a b : Int} (h : a ≤ b) : sqrt a ≤ sqrt b := by
  unfold sqrt
  split
  · split <;> omega
  · rw [if_neg (by omega)]
    have := root_mono (m := a.toNat * 4294967296) (n := b.toNat * 4294967296) (Nat.mul_le_mul_right _ (by omega))
    omega
theorem order_facts {a b c : Int} (ha : isI a) (hb : isI b) (hc : isI c) (h : a ≤ b) :
    ∃ s p u1 u2 v1 v2 n1 n2 r1 r2 f1 f2 m1 m2 d1 d2 d : Int, add a b = s ∧ add b a = s ∧ mul a b = p ∧ mul b a = p ∧ add a c = u1 ∧ add b c = u2 ∧ sub c b = v1 ∧ sub c a = v2 ∧ neg b = n1 ∧ neg a = n2 ∧ sqrt a = r1 ∧ sqrt b = r2 ∧ floor a = f1 ∧ floor b = f2
      ∧ mul a c = m1 ∧ mul b c = m2 ∧ div a c = d1 ∧ div b c = d2 ∧ sub a c = d ∧ mul a 4294967296 = a ∧ div a 4294967296 = a ∧ add a 0 = a ∧ mul a 0 = 0
      ∧ (-9223372036854775808 < d → d < 9223372036854775807 → add d c = a) ∧ u1 ≤ u2 ∧ v1 ≤ v2 ∧ n1 ≤ n2 ∧ r1 ≤ r2 ∧ f1 ≤ f2 ∧ (0 ≤ c → m1 ≤ m2) ∧ (c < 0 → m2 ≤ m1) ∧ (0 < c → d1 ≤ d2) ∧ (c < 0 → d2 ≤ d1) ∧ (-9223372036854775808 ≤ d ∧ d ≤ 9223372036854775807) := by
  refine ⟨_, _, _, _, _, _, _, _, _, _, _, _, _, _, _, _, _, rfl, ?_, rfl, mul_comm' a b, rfl, rfl, rfl, rfl, rfl, rfl, rfl, rfl, rfl, rfl, rfl, rfl, rfl, rfl, rfl, ?_, ?_, ?_, ?_, ?_, ?_, ?_, ?_, sqrt_mono h, ?_, mul_mono h, mul_anti h, div_mono h, div_anti h, sub_is a c⟩
  · unfold add
    rw [Int.add_comm]
  · unfold mul
    rw [Int.mul_ediv_cancel _ (by decide), bring_in ha]
  · unfold div
    rw [if_neg (by decide), Int.mul_fdiv_cancel _ (by decide), bring_in ha]
  · unfold add
    rw [Int.add_zero, bring_in ha]
  · unfold mul
    rw [Int.mul_zero]
    rfl
  · intro h1 h2
    have hc' := bring_cases (a - c)
    unfold sub at h1 h2 ⊢
    unfold add
    rw [show bring (a - c) + c = a by omega, bring_in ha]
  · exact bring_mono (by omega)
  · exact bring_mono (by omega)
  · exact bring_mono (by omega)
  · unfold floor
    omega
set_option maxRecDepth 100000 in
set_option maxHeartbeats 8000000 in
theorem order_walk (a b c : Int) (wa : (Lit.int .i64 a).wf = true) (wb : (Lit.int .i64 b).wf = true) (wc : (Lit.int .i64 c).wf = true) (W : World) :
    Calls Try.prog 5 #[.int .i64 a, .int .i64 b, .int .i64 c] W fun e w' => e = .returned (.bool true) ∧ Below W.heap.size W w' := by
  obtain ⟨ha, ka⟩ := wf_is wa
  obtain ⟨hb, kb⟩ := wf_is wb
  obtain ⟨hc, kc⟩ := wf_is wc
  clear wa wb wc
  have hbl := Below.refl W.heap.size W
  by_cases h : a ≤ b
  · obtain ⟨s, p, u1, u2, v1, v2, n1, n2, r1, r2, f1, f2, m1, m2, d1, d2, d, e1, e2, e3, e4, e5, e6, e7, e8, e9, e10, e11, e12, e13, e14, e15, e16, e17, e18, e19, e20, e21, e22, e23, ed, q1, q2, q3, q4, q5, g1, g2, g3, g4, bd⟩ := order_facts ⟨ha, ka⟩ ⟨hb, kb⟩ ⟨hc, kc⟩ h
    by_cases hc1 : c < 0
    · have g2 := g2 hc1
      have g4 := g4 hc1
      clear g1 g3
      go_enter Try.func5, Try.ntmps5
      go_wp2_with (first | (go_at_call 14; refine (of_any _ (by omega) (by omega) _).mono ?_; rintro e w' ⟨rfl, rfl⟩) | (go_at_call 15; refine (floor_any _ (by omega) (by omega) _).mono ?_; rintro e w' ⟨rfl, rfl⟩) | (go_at_call 24; refine (add_any _ _ (by omega) (by omega) (by omega) (by omega) _).mono ?_; rintro e w' ⟨rfl, rfl⟩) | (go_at_call 12; refine (sub_any _ _ (by omega) (by omega) (by omega) (by omega) _).mono ?_; rintro e w' ⟨rfl, rfl⟩) | (go_at_call 27; refine (neg_any _ (by omega) (by omega) _).mono ?_; rintro e w' ⟨rfl, rfl⟩) | (go_at_call 13; refine (mul_on _ _ (by omega) (by omega) (by omega) (by omega) W _ hbl).mono ?_; clear hbl; rintro e w1 ⟨rfl, hbl⟩) | (go_at_call 10; refine (div_on _ _ (by omega) (by omega) (by omega) (by omega) W _ hbl).mono ?_; clear hbl; rintro e w1 ⟨rfl, hbl⟩) | (go_at_call 11; refine (sqrt_on _ (by omega) (by omega) W _ hbl).mono ?_; clear hbl; rintro e w1 ⟨rfl, hbl⟩) | (go_at_call 17; refine (sin_on _ (by omega) (by omega) W _ hbl).mono ?_; clear hbl; rintro e w1 ⟨rfl, hbl⟩) | (go_at_call 18; refine (cos_on _ (by omega) (by omega) W _ hbl).mono ?_; clear hbl; rintro e w1 ⟨rfl, hbl⟩) | (go_at_call 22; refine (rof_any _ (by omega) (by omega) _).mono ?_; rintro e w' ⟨rfl, rfl⟩) | (go_at_call 23; refine (rfloor_any _ (by omega) (by omega) _).mono ?_; rintro e w' ⟨rfl, rfl⟩) | (go_at_call 25; refine (radd_any _ _ (by omega) (by omega) (by omega) (by omega) _).mono ?_; rintro e w' ⟨rfl, rfl⟩) | (go_at_call 26; refine (rsub_any _ _ (by omega) (by omega) (by omega) (by omega) _).mono ?_; rintro e w' ⟨rfl, rfl⟩) | (go_at_call 28; refine (rneg_any _ (by omega) (by omega) _).mono ?_; rintro e w' ⟨rfl, rfl⟩) | (go_at_call 29; refine (rmul_any _ _ (by omega) (by omega) (by omega) (by omega) _).mono ?_; rintro e w' ⟨rfl, rfl⟩) | (go_at_call 30; refine (rdiv_any _ _ (by omega) (by omega) (by omega) (by omega) _).mono ?_; rintro e w' ⟨rfl, rfl⟩) | (go_at_call 31; refine (rsqrt_any _ (by omega) (by omega) _).mono ?_; rintro e w' ⟨rfl, rfl⟩) | (go_at_call 20; refine (rsin_any _ (by omega) (by omega) _).mono ?_; rintro e w' ⟨rfl, rfl⟩) | (go_at_call 19; refine (rcos_any _ (by omega) (by omega) _).mono ?_; rintro e w' ⟨rfl, rfl⟩) | (go_at_call 21; refine (awake_on W _ hbl).mono ?_; clear hbl; rintro e w1 ⟨rfl, hbl⟩))
      all_goals (go_ret; exact ⟨rfl, hbl⟩)
    · have g1 := g1 (by omega)
      clear g2 g4
      go_enter Try.func5, Try.ntmps5
      go_wp2_with (first | (go_at_call 14; refine (of_any _ (by omega) (by omega) _).mono ?_; rintro e w' ⟨rfl, rfl⟩) | (go_at_call 15; refine (floor_any _ (by omega) (by omega) _).mono ?_; rintro e w' ⟨rfl, rfl⟩) | (go_at_call 24; refine (add_any _ _ (by omega) (by omega) (by omega) (by omega) _).mono ?_; rintro e w' ⟨rfl, rfl⟩) | (go_at_call 12; refine (sub_any _ _ (by omega) (by omega) (by omega) (by omega) _).mono ?_; rintro e w' ⟨rfl, rfl⟩) | (go_at_call 27; refine (neg_any _ (by omega) (by omega) _).mono ?_; rintro e w' ⟨rfl, rfl⟩) | (go_at_call 13; refine (mul_on _ _ (by omega) (by omega) (by omega) (by omega) W _ hbl).mono ?_; clear hbl; rintro e w1 ⟨rfl, hbl⟩) | (go_at_call 10; refine (div_on _ _ (by omega) (by omega) (by omega) (by omega) W _ hbl).mono ?_; clear hbl; rintro e w1 ⟨rfl, hbl⟩) | (go_at_call 11; refine (sqrt_on _ (by omega) (by omega) W _ hbl).mono ?_; clear hbl; rintro e w1 ⟨rfl, hbl⟩) | (go_at_call 17; refine (sin_on _ (by omega) (by omega) W _ hbl).mono ?_; clear hbl; rintro e w1 ⟨rfl, hbl⟩) | (go_at_call 18; refine (cos_on _ (by omega) (by omega) W _ hbl).mono ?_; clear hbl; rintro e w1 ⟨rfl, hbl⟩) | (go_at_call 22; refine (rof_any _ (by omega) (by omega) _).mono ?_; rintro e w' ⟨rfl, rfl⟩) | (go_at_call 23; refine (rfloor_any _ (by omega) (by omega) _).mono ?_; rintro e w' ⟨rfl, rfl⟩) | (go_at_call 25; refine (radd_any _ _ (by omega) (by omega) (by omega) (by omega) _).mono ?_; rintro e w' ⟨rfl, rfl⟩) | (go_at_call 26; refine (rsub_any _ _ (by omega) (by omega) (by omega) (by omega) _).mono ?_; rintro e w' ⟨rfl, rfl⟩) | (go_at_call 28; refine (rneg_any _ (by omega) (by omega) _).mono ?_; rintro e w' ⟨rfl, rfl⟩) | (go_at_call 29; refine (rmul_any _ _ (by omega) (by omega) (by omega) (by omega) _).mono ?_; rintro e w' ⟨rfl, rfl⟩) | (go_at_call 30; refine (rdiv_any _ _ (by omega) (by omega) (by omega) (by omega) _).mono ?_; rintro e w' ⟨rfl, rfl⟩) | (go_at_call 31; refine (rsqrt_any _ (by omega) (by omega) _).mono ?_; rintro e w' ⟨rfl, rfl⟩) | (go_at_call 20; refine (rsin_any _ (by omega) (by omega) _).mono ?_; rintro e w' ⟨rfl, rfl⟩) | (go_at_call 19; refine (rcos_any _ (by omega) (by omega) _).mono ?_; rintro e w' ⟨rfl, rfl⟩) | (go_at_call 21; refine (awake_on W _ hbl).mono ?_; clear hbl; rintro e w1 ⟨rfl, hbl⟩))
      all_goals (go_ret; exact ⟨rfl, hbl⟩)
  · obtain ⟨s, p, u1, u2, v1, v2, n1, n2, r1, r2, f1, f2, m1, m2, d1, d2, d, e1, e2, e3, e4, e5, e6, e7, e8, e9, e10, e11, e12, e13, e14, e15, e16, e17, e18, e19, e20, e21, e22, e23, ed, q1, q2, q3, q4, q5, g1, g2, g3, g4, bd⟩ := order_facts ⟨hb, kb⟩ ⟨ha, ka⟩ ⟨hc, kc⟩ (by omega)
    by_cases hc1 : c < 0
    · have g2 := g2 hc1
      have g4 := g4 hc1
      clear g1 g3
      go_enter Try.func5, Try.ntmps5
      go_wp2_with (first | (go_at_call 14; refine (of_any _ (by omega) (by omega) _).mono ?_; rintro e w' ⟨rfl, rfl⟩) | (go_at_call 15; refine (floor_any _ (by omega) (by omega) _).mono ?_; rintro e w' ⟨rfl, rfl⟩) | (go_at_call 24; refine (add_any _ _ (by omega) (by omega) (by omega) (by omega) _).mono ?_; rintro e w' ⟨rfl, rfl⟩) | (go_at_call 12; refine (sub_any _ _ (by omega) (by omega) (by omega) (by omega) _).mono ?_; rintro e w' ⟨rfl, rfl⟩) | (go_at_call 27; refine (neg_any _ (by omega) (by omega) _).mono ?_; rintro e w' ⟨rfl, rfl⟩) | (go_at_call 13; refine (mul_on _ _ (by omega) (by omega) (by omega) (by omega) W _ hbl).mono ?_; clear hbl; rintro e w1 ⟨rfl, hbl⟩) | (go_at_call 10; refine (div_on _ _ (by omega) (by omega) (by omega) (by omega) W _ hbl).mono ?_; clear hbl; rintro e w1 ⟨rfl, hbl⟩) | (go_at_call 11; refine (sqrt_on _ (by omega) (by omega) W _ hbl).mono ?_; clear hbl; rintro e w1 ⟨rfl, hbl⟩) | (go_at_call 17; refine (sin_on _ (by omega) (by omega) W _ hbl).mono ?_; clear hbl; rintro e w1 ⟨rfl, hbl⟩) | (go_at_call 18; refine (cos_on _ (by omega) (by omega) W _ hbl).mono ?_; clear hbl; rintro e w1 ⟨rfl, hbl⟩) | (go_at_call 22; refine (rof_any _ (by omega) (by omega) _).mono ?_; rintro e w' ⟨rfl, rfl⟩) | (go_at_call 23; refine (rfloor_any _ (by omega) (by omega) _).mono ?_; rintro e w' ⟨rfl, rfl⟩) | (go_at_call 25; refine (radd_any _ _ (by omega) (by omega) (by omega) (by omega) _).mono ?_; rintro e w' ⟨rfl, rfl⟩) | (go_at_call 26; refine (rsub_any _ _ (by omega) (by omega) (by omega) (by omega) _).mono ?_; rintro e w' ⟨rfl, rfl⟩) | (go_at_call 28; refine (rneg_any _ (by omega) (by omega) _).mono ?_; rintro e w' ⟨rfl, rfl⟩) | (go_at_call 29; refine (rmul_any _ _ (by omega) (by omega) (by omega) (by omega) _).mono ?_; rintro e w' ⟨rfl, rfl⟩) | (go_at_call 30; refine (rdiv_any _ _ (by omega) (by omega) (by omega) (by omega) _).mono ?_; rintro e w' ⟨rfl, rfl⟩) | (go_at_call 31; refine (rsqrt_any _ (by omega) (by omega) _).mono ?_; rintro e w' ⟨rfl, rfl⟩) | (go_at_call 20; refine (rsin_any _ (by omega) (by omega) _).mono ?_; rintro e w' ⟨rfl, rfl⟩) | (go_at_call 19; refine (rcos_any _ (by omega) (by omega) _).mono ?_; rintro e w' ⟨rfl, rfl⟩) | (go_at_call 21; refine (awake_on W _ hbl).mono ?_; clear hbl; rintro e w1 ⟨rfl, hbl⟩))
      all_goals (go_ret; exact ⟨rfl, hbl⟩)
    · have g1 := g1 (by omega)
      clear g2 g4
      go_enter Try.func5, Try.ntmps5
      go_wp2_with (first | (go_at_call 14; refine (of_any _ (by omega) (by omega) _).mono ?_; rintro e w' ⟨rfl, rfl⟩) | (go_at_call 15; refine (floor_any _ (by omega) (by omega) _).mono ?_; rintro e w' ⟨rfl, rfl⟩) | (go_at_call 24; refine (add_any _ _ (by omega) (by omega) (by omega) (by omega) _).mono ?_; rintro e w' ⟨rfl, rfl⟩) | (go_at_call 12; refine (sub_any _ _ (by omega) (by omega) (by omega) (by omega) _).mono ?_; rintro e w' ⟨rfl, rfl⟩) | (go_at_call 27; refine (neg_any _ (by omega) (by omega) _).mono ?_; rintro e w' ⟨rfl, rfl⟩) | (go_at_call 13; refine (mul_on _ _ (by omega) (by omega) (by omega) (by omega) W _ hbl).mono ?_; clear hbl; rintro e w1 ⟨rfl, hbl⟩) | (go_at_call 10; refine (div_on _ _ (by omega) (by omega) (by omega) (by omega) W _ hbl).mono ?_; clear hbl; rintro e w1 ⟨rfl, hbl⟩) | (go_at_call 11; refine (sqrt_on _ (by omega) (by omega) W _ hbl).mono ?_; clear hbl; rintro e w1 ⟨rfl, hbl⟩) | (go_at_call 17; refine (sin_on _ (by omega) (by omega) W _ hbl).mono ?_; clear hbl; rintro e w1 ⟨rfl, hbl⟩) | (go_at_call 18; refine (cos_on _ (by omega) (by omega) W _ hbl).mono ?_; clear hbl; rintro e w1 ⟨rfl, hbl⟩) | (go_at_call 22; refine (rof_any _ (by omega) (by omega) _).mono ?_; rintro e w' ⟨rfl, rfl⟩) | (go_at_call 23; refine (rfloor_any _ (by omega) (by omega) _).mono ?_; rintro e w' ⟨rfl, rfl⟩) | (go_at_call 25; refine (radd_any _ _ (by omega) (by omega) (by omega) (by omega) _).mono ?_; rintro e w' ⟨rfl, rfl⟩) | (go_at_call 26; refine (rsub_any _ _ (by omega) (by omega) (by omega) (by omega) _).mono ?_; rintro e w' ⟨rfl, rfl⟩) | (go_at_call 28; refine (rneg_any _ (by omega) (by omega) _).mono ?_; rintro e w' ⟨rfl, rfl⟩) | (go_at_call 29; refine (rmul_any _ _ (by omega) (by omega) (by omega) (by omega) _).mono ?_; rintro e w' ⟨rfl, rfl⟩) | (go_at_call 30; refine (rdiv_any _ _ (by omega) (by omega) (by omega) (by omega) _).mono ?_; rintro e w' ⟨rfl, rfl⟩) | (go_at_call 31; refine (rsqrt_any _ (by omega) (by omega) _).mono ?_; rintro e w' ⟨rfl, rfl⟩) | (go_at_call 20; refine (rsin_any _ (by omega) (by omega) _).mono ?_; rintro e w' ⟨rfl, rfl⟩) | (go_at_call 19; refine (rcos_any _ (by omega) (by omega) _).mono ?_; rintro e w' ⟨rfl, rfl⟩) | (go_at_call 21; refine (awake_on W _ hbl).mono ?_; clear hbl; rintro e w1 ⟨rfl, hbl⟩))
      all_goals (go_ret; exact ⟨rfl, hbl⟩)
end Go.Proofs.Ytcdcmhndfbaikaa.Fx
