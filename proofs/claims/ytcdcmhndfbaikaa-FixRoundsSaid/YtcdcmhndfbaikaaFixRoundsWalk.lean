/-
  The walk of FixRounds: a quotient times what it was divided by is the number, or less by less than that; so with roots. The conditions are that the numbers are of their kinds.
-/
import Derived.Test.YtcdcmhndfbaikaaFixTurnsWalk
namespace Go.Proofs.Ytcdcmhndfbaikaa.Fx
open Go Go.RowKit
set_option linter.unusedVariables false
theorem mask43 (b : Int) : ∃ k : Int, bits .and .i64 b 8796093022207 = k ∧ 0 ≤ k ∧ k ≤ 8796093022207 := by
  refine ⟨_, rfl, ?_⟩
  change 0 ≤ IntKind.i64.wrap ((BitVec.ofInt 64 b &&& BitVec.ofInt 64 8796093022207).toNat : Int) ∧ IntKind.i64.wrap ((BitVec.ofInt 64 b &&& BitVec.ofInt 64 8796093022207).toNat : Int) ≤ 8796093022207
  have h : (BitVec.ofInt 64 b &&& BitVec.ofInt 64 8796093022207).toNat ≤ 8796093022207 := by
    rw [BitVec.toNat_and]
    exact Nat.and_le_right
  generalize (BitVec.ofInt 64 b &&& BitVec.ofInt 64 8796093022207).toNat = k at *
  rw [IntKind.wrap_i64]
  omega
theorem tmod44 (a : Int) : ∃ t : Int, a.tmod 17592186044416 = t ∧ -17592186044416 < t ∧ t < 17592186044416 := by
  refine ⟨_, rfl, ?_⟩
  by_cases h : a < 0
  · rw [(quo_low h).2]
    omega
  · rw [(quo_high (by omega)).2]
    omega
theorem quo_facts {t y : Int} (ht : -17592186044416 < t) (kt : t < 17592186044416) (hy : 1048576 ≤ y) (ky : y ≤ 8796094070783) :
    ∃ q m1 m2 : Int, div t y = q ∧ mul q y = m1 ∧ mul (q + 1) y = m2 ∧ m1 ≤ t ∧ t ≤ m2 ∧ -72057594037927937 ≤ q ∧ q ≤ 72057594037927936 := by
  have h1 := Int.mul_ediv_add_emod (t * 4294967296) y
  have h2 := Int.emod_nonneg (t * 4294967296) (b := y) (by omega)
  have h3 := Int.emod_lt_of_pos (t * 4294967296) (b := y) (by omega)
  have hq1 : -72057594037927937 ≤ t * 4294967296 / y := by
    rw [Int.le_ediv_iff_mul_le (by omega)]
    omega
  have hq2 : t * 4294967296 / y ≤ 72057594037927936 := by
    have : t * 4294967296 / y < 72057594037927937 := by
      rw [Int.ediv_lt_iff_lt_mul (by omega)]
      omega
    omega
  have e : div t y = t * 4294967296 / y := by
    unfold div
    rw [if_neg (by omega), Int.fdiv_eq_ediv_of_nonneg _ (by omega), bring_in (by unfold isI; omega)]
  generalize t * 4294967296 / y = q at *
  generalize t * 4294967296 % y = r at *
  rw [Int.mul_comm] at h1
  refine ⟨q, _, _, e, rfl, rfl, ?_, ?_, hq1, hq2⟩
  · unfold mul
    have hc := bring_cases (q * y / 4294967296)
    omega
  · unfold mul
    rw [Int.add_mul, Int.one_mul]
    have hc := bring_cases ((q * y + y) / 4294967296)
    omega
theorem root_facts {a : Int} (ha : isI a) (h : 0 < a) : ∃ r m1 m2 : Int, sqrt a = r ∧ mul r r = m1 ∧ mul (r + 1) (r + 1) = m2 ∧ m1 ≤ a ∧ a ≤ m2 ∧ 0 ≤ r ∧ r < 281474976710656 := by
  have hb := sqrt_bound ha
  unfold isI at ha
  obtain ⟨A, rfl⟩ : ∃ A : Nat, a = (A : Int) := ⟨a.toNat, by omega⟩
  have e : sqrt (A : Int) = (root (A * 4294967296) : Int) := by
    unfold sqrt
    rw [if_neg (by omega), Int.toNat_natCast]
  have h1 := root_le (A * 4294967296)
  have h2 := root_next (A * 4294967296)
  rw [e] at hb
  generalize root (A * 4294967296) = r at *
  refine ⟨(r : Int), _, _, e, rfl, rfl, ?_, ?_, by omega, by omega⟩
  · unfold mul
    rw [← Int.natCast_mul]
    have hc := bring_cases (((r * r : Nat) : Int) / 4294967296)
    omega
  · unfold mul
    rw [show ((r : Int) + 1) * ((r : Int) + 1) = (((r + 1) * (r + 1) : Nat) : Int) by rw [Int.natCast_mul]; rfl]
    have hc := bring_cases ((((r + 1) * (r + 1) : Nat) : Int) / 4294967296)
    omega
theorem wrap32_bd (n : Int) : ∃ m : Int, wrap32 n = m ∧ -2147483648 ≤ m ∧ m ≤ 2147483647 := ⟨_, rfl, by unfold wrap32; omega⟩
set_option maxHeartbeats 4000000 in
theorem rounds_walk (a b n : Int) (wa : (Lit.int .i64 a).wf = true) (wb : (Lit.int .i64 b).wf = true) (wn : (Lit.int .i64 n).wf = true) (W : World) :
    Calls Try.prog 6 #[.int .i64 a, .int .i64 b, .int .i64 n] W fun e w' => e = .returned (.bool true) ∧ Below W.heap.size W w' := by
  obtain ⟨ha, ka⟩ := wf_is wa
  obtain ⟨hb, kb⟩ := wf_is wb
  obtain ⟨hn, kn⟩ := wf_is wn
  clear wa wb wn
  obtain ⟨t, t1, t2, t3⟩ := tmod44 a
  obtain ⟨k, k1, k2, k3⟩ := mask43 b
  obtain ⟨q, m1, m2, q1, q2, q3, q4, q5, q6, q7⟩ := quo_facts (t := t) (y := 1048576 + k) (by omega) (by omega) (by omega) (by omega)
  have hs := sin_bd a
  obtain ⟨s, s1⟩ : ∃ s, sin a = s := ⟨_, rfl⟩
  rw [s1] at hs
  have hcb := sin_bd (add a 6746518852)
  obtain ⟨c, c1⟩ : ∃ c, cos a = c := ⟨_, rfl⟩
  change -4294967296 ≤ cos a ∧ cos a ≤ 4294967296 at hcb
  rw [c1] at hcb
  obtain ⟨m, w1, w2, w3⟩ := wrap32_bd n
  have hf : floor (whole m) = m := by
    unfold floor whole
    rw [bring_in (by unfold isI; omega)]
    omega
  have hw := whole_is m
  unfold isI at hw
  have hbl := Below.refl W.heap.size W
  by_cases h : 0 < a
  · obtain ⟨r, p1, p2, r1, r2, r3, r4, r5, r6, r7⟩ := root_facts ⟨ha, ka⟩ h
    go_enter Try.func6, Try.ntmps6
    go_wp2_with (first | (go_at_call 14; refine (of_any _ (by omega) (by omega) _).mono ?_; rintro e w' ⟨rfl, rfl⟩) | (go_at_call 15; refine (floor_any _ (by omega) (by omega) _).mono ?_; rintro e w' ⟨rfl, rfl⟩) | (go_at_call 24; refine (add_any _ _ (by omega) (by omega) (by omega) (by omega) _).mono ?_; rintro e w' ⟨rfl, rfl⟩) | (go_at_call 12; refine (sub_any _ _ (by omega) (by omega) (by omega) (by omega) _).mono ?_; rintro e w' ⟨rfl, rfl⟩) | (go_at_call 27; refine (neg_any _ (by omega) (by omega) _).mono ?_; rintro e w' ⟨rfl, rfl⟩) | (go_at_call 13; refine (mul_on _ _ (by omega) (by omega) (by omega) (by omega) W _ hbl).mono ?_; clear hbl; rintro e w1 ⟨rfl, hbl⟩) | (go_at_call 10; refine (div_on _ _ (by omega) (by omega) (by omega) (by omega) W _ hbl).mono ?_; clear hbl; rintro e w1 ⟨rfl, hbl⟩) | (go_at_call 11; refine (sqrt_on _ (by omega) (by omega) W _ hbl).mono ?_; clear hbl; rintro e w1 ⟨rfl, hbl⟩) | (go_at_call 17; refine (sin_on _ (by omega) (by omega) W _ hbl).mono ?_; clear hbl; rintro e w1 ⟨rfl, hbl⟩) | (go_at_call 18; refine (cos_on _ (by omega) (by omega) W _ hbl).mono ?_; clear hbl; rintro e w1 ⟨rfl, hbl⟩) | (go_at_call 22; refine (rof_any _ (by omega) (by omega) _).mono ?_; rintro e w' ⟨rfl, rfl⟩) | (go_at_call 23; refine (rfloor_any _ (by omega) (by omega) _).mono ?_; rintro e w' ⟨rfl, rfl⟩) | (go_at_call 25; refine (radd_any _ _ (by omega) (by omega) (by omega) (by omega) _).mono ?_; rintro e w' ⟨rfl, rfl⟩) | (go_at_call 26; refine (rsub_any _ _ (by omega) (by omega) (by omega) (by omega) _).mono ?_; rintro e w' ⟨rfl, rfl⟩) | (go_at_call 28; refine (rneg_any _ (by omega) (by omega) _).mono ?_; rintro e w' ⟨rfl, rfl⟩) | (go_at_call 29; refine (rmul_any _ _ (by omega) (by omega) (by omega) (by omega) _).mono ?_; rintro e w' ⟨rfl, rfl⟩) | (go_at_call 30; refine (rdiv_any _ _ (by omega) (by omega) (by omega) (by omega) _).mono ?_; rintro e w' ⟨rfl, rfl⟩) | (go_at_call 31; refine (rsqrt_any _ (by omega) (by omega) _).mono ?_; rintro e w' ⟨rfl, rfl⟩) | (go_at_call 20; refine (rsin_any _ (by omega) (by omega) _).mono ?_; rintro e w' ⟨rfl, rfl⟩) | (go_at_call 19; refine (rcos_any _ (by omega) (by omega) _).mono ?_; rintro e w' ⟨rfl, rfl⟩) | (go_at_call 21; refine (awake_on W _ hbl).mono ?_; clear hbl; rintro e w1 ⟨rfl, hbl⟩))
    all_goals (go_ret; exact ⟨rfl, hbl⟩)
  · have r1 : sqrt a = 0 := by
      unfold sqrt
      rw [if_pos (by omega)]
    go_enter Try.func6, Try.ntmps6
    go_wp2_with (first | (go_at_call 14; refine (of_any _ (by omega) (by omega) _).mono ?_; rintro e w' ⟨rfl, rfl⟩) | (go_at_call 15; refine (floor_any _ (by omega) (by omega) _).mono ?_; rintro e w' ⟨rfl, rfl⟩) | (go_at_call 24; refine (add_any _ _ (by omega) (by omega) (by omega) (by omega) _).mono ?_; rintro e w' ⟨rfl, rfl⟩) | (go_at_call 12; refine (sub_any _ _ (by omega) (by omega) (by omega) (by omega) _).mono ?_; rintro e w' ⟨rfl, rfl⟩) | (go_at_call 27; refine (neg_any _ (by omega) (by omega) _).mono ?_; rintro e w' ⟨rfl, rfl⟩) | (go_at_call 13; refine (mul_on _ _ (by omega) (by omega) (by omega) (by omega) W _ hbl).mono ?_; clear hbl; rintro e w1 ⟨rfl, hbl⟩) | (go_at_call 10; refine (div_on _ _ (by omega) (by omega) (by omega) (by omega) W _ hbl).mono ?_; clear hbl; rintro e w1 ⟨rfl, hbl⟩) | (go_at_call 11; refine (sqrt_on _ (by omega) (by omega) W _ hbl).mono ?_; clear hbl; rintro e w1 ⟨rfl, hbl⟩) | (go_at_call 17; refine (sin_on _ (by omega) (by omega) W _ hbl).mono ?_; clear hbl; rintro e w1 ⟨rfl, hbl⟩) | (go_at_call 18; refine (cos_on _ (by omega) (by omega) W _ hbl).mono ?_; clear hbl; rintro e w1 ⟨rfl, hbl⟩) | (go_at_call 22; refine (rof_any _ (by omega) (by omega) _).mono ?_; rintro e w' ⟨rfl, rfl⟩) | (go_at_call 23; refine (rfloor_any _ (by omega) (by omega) _).mono ?_; rintro e w' ⟨rfl, rfl⟩) | (go_at_call 25; refine (radd_any _ _ (by omega) (by omega) (by omega) (by omega) _).mono ?_; rintro e w' ⟨rfl, rfl⟩) | (go_at_call 26; refine (rsub_any _ _ (by omega) (by omega) (by omega) (by omega) _).mono ?_; rintro e w' ⟨rfl, rfl⟩) | (go_at_call 28; refine (rneg_any _ (by omega) (by omega) _).mono ?_; rintro e w' ⟨rfl, rfl⟩) | (go_at_call 29; refine (rmul_any _ _ (by omega) (by omega) (by omega) (by omega) _).mono ?_; rintro e w' ⟨rfl, rfl⟩) | (go_at_call 30; refine (rdiv_any _ _ (by omega) (by omega) (by omega) (by omega) _).mono ?_; rintro e w' ⟨rfl, rfl⟩) | (go_at_call 31; refine (rsqrt_any _ (by omega) (by omega) _).mono ?_; rintro e w' ⟨rfl, rfl⟩) | (go_at_call 20; refine (rsin_any _ (by omega) (by omega) _).mono ?_; rintro e w' ⟨rfl, rfl⟩) | (go_at_call 19; refine (rcos_any _ (by omega) (by omega) _).mono ?_; rintro e w' ⟨rfl, rfl⟩) | (go_at_call 21; refine (awake_on W _ hbl).mono ?_; clear hbl; rintro e w1 ⟨rfl, hbl⟩))
    all_goals (go_ret; exact ⟨rfl, hbl⟩)
end Go.Proofs.Ytcdcmhndfbaikaa.Fx
