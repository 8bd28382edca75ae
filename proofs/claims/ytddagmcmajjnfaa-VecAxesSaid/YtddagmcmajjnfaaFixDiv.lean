/-
  Div of package fix: the quotient, divided down, brought in. The conditions are that the numbers are of their kind.
-/
import Derived.Test.YtddagmcmajjnfaaFixMul
import Derived.Test.YtddagmcmajjnfaaFixDivB
namespace Go.Proofs.Ytddagmcmajjnfaa.Fx
open Go Go.RowKit
set_option linter.unusedVariables false
theorem div64_any (hi lo y : Nat) (hl : lo < 18446744073709551616) (hy : hi < y) (hy2 : y < 18446744073709551616) (w : World) :
    Calls Try.prog 52 #[.int .u64 (hi : Int), .int .u64 (lo : Int), .int .u64 (y : Int)] w fun e w' => e = .returned (.tuple #[.int .u64 (((hi * 18446744073709551616 + lo) / y : Nat) : Int), .int .u64 (((hi * 18446744073709551616 + lo) % y : Nat) : Int)]) ∧ Below w.heap.size w w' := by
  by_cases h : hi = 0
  · subst h
    rw [Nat.zero_mul, Nat.zero_add]
    exact div64_low lo y hl hy hy2 w
  · exact div64_high hi lo y (by omega) hl hy hy2 w
theorem signed_over (b : Bool) (hi lo : Nat) (rest : Bool) (h : hi ≠ 0) : signed b 1 0 false = signed b hi lo rest := by
  cases b <;> simp [signed, h]
theorem div_tail (H Lo D : Nat) (hlt : H < D) (hl : Lo < 18446744073709551616) :
    0 ≤ ((H : Int) * 18446744073709551616 + (Lo : Int)) / (D : Int) ∧ ((H : Int) * 18446744073709551616 + (Lo : Int)) / (D : Int) ≤ 18446744073709551615
    ∧ (((H : Int) * 18446744073709551616 + (Lo : Int)) / (D : Int)).toNat = (H * 18446744073709551616 + Lo) / D
    ∧ (((H : Int) * 18446744073709551616 + (Lo : Int)) % (D : Int) != 0) = decide ((H * 18446744073709551616 + Lo) % D ≠ 0)
    ∧ (H * 18446744073709551616 + Lo) / D < 18446744073709551616 := by
  have hq : (H * 18446744073709551616 + Lo) / D < 18446744073709551616 := by
    rw [Nat.div_lt_iff_lt_mul (by omega)]
    have := Nat.mul_le_mul_left 18446744073709551616 (show H + 1 ≤ D from hlt)
    omega
  have e : (H : Int) * 18446744073709551616 + (Lo : Int) = ((H * 18446744073709551616 + Lo : Nat) : Int) := by omega
  rw [e]
  generalize H * 18446744073709551616 + Lo = N at *
  rw [← Int.natCast_ediv, ← Int.natCast_emod]
  generalize N / D = q at *
  generalize N % D = r at *
  refine ⟨by omega, by omega, by omega, ?_, hq⟩
  rw [Bool.eq_iff_iff]
  simp only [bne_iff_ne, ne_eq, decide_eq_true_eq]
  omega
theorem div_limbs (X D : Nat) (hD : 0 < D) (hX : X ≤ 9223372036854775808) :
    ∃ H Lo : Nat, (X : Int) / 4294967296 = (H : Int) ∧ IntKind.u64.wrap ((X : Int) * 4294967296) = (Lo : Int) ∧ H * 18446744073709551616 + Lo = X * 4294967296 ∧ Lo < 18446744073709551616 ∧ H ≤ 2147483648 := by
  refine ⟨X / 4294967296, X * 4294967296 % 18446744073709551616, rfl, ?_, by omega, by omega, by omega⟩
  rw [IntKind.wrap_u64]
  omega
set_option maxHeartbeats 1000000 in
theorem div_any (a b : Int) (ha : -9223372036854775808 ≤ a) (ka : a ≤ 9223372036854775807) (hb : -9223372036854775808 ≤ b) (kb : b ≤ 9223372036854775807) (w : World) :
    Calls Try.prog 41 #[.int .i64 a, .int .i64 b] w fun e w' => e = .returned (.int .i64 (div a b)) ∧ Below w.heap.size w w' := by
  by_cases hb0 : b = 0
  · subst hb0
    by_cases ha0 : a = 0
    · subst ha0
      go_enter Try.func41, Try.ntmps41
      go_wp2
      go_ret
      exact ⟨ret_int (by rfl), Below.refl _ _⟩
    · have hae : (a == 0) = false := by simpa using ha0
      go_enter Try.func41, Try.ntmps41
      go_wp2_with (go_at_call 50; refine (end_any _ (by omega) (by omega) _).mono ?_; rintro e w' ⟨rfl, rfl⟩)
      go_ret
      exact ⟨ret_int (by unfold div; rw [if_pos rfl, if_neg ha0]), Below.refl _ _⟩
  · have hbe : (b == 0) = false := by simpa using hb0
    have hD : 0 < b.natAbs := by omega
    have hB : b.natAbs ≤ 9223372036854775808 := by omega
    have hX : a.natAbs ≤ 9223372036854775808 := by omega
    obtain ⟨H, Lo, e1, e2, e3, e4, e5⟩ := div_limbs a.natAbs b.natAbs hD hX
    have E3 := Lib.hid e3
    clear e3
    have HB0 := Lib.hid hb0
    clear hb0
    obtain ⟨D, eD⟩ : ∃ D, b.natAbs = D := ⟨_, rfl⟩
    rw [eD] at hD hB
    have ED : Hid (D = b.natAbs) := eD.symm
    by_cases hc : D ≤ H
    · have hcd : decide ((D : Int) ≤ (H : Int)) = true := decide_eq_true (by omega)
      go_enter Try.func41, Try.ntmps41
      go_wp2_with (first | (go_at_call 54; refine (signed_any _ _ (by omega) (by omega) (by omega) (by omega) _).mono ?_; rintro e w1 ⟨p, rfl, hp, hbl, hpb⟩) | (go_at_call 55; refine (size_any _ (by omega) (by omega) _).mono ?_; rintro e w' ⟨rfl, rfl⟩))
      refine (sign_any _ _ _ _ _ (by decide) (by decide) (by decide) (by decide) _ hp.out).mono ?_
      rintro e w' ⟨rfl, rfl⟩
      clear hp
      go_wp2
      go_ret
      refine ⟨ret_int ?_, hbl⟩
      rw [← div_sizes a b HB0.out _ _ _ _ rfl rfl rfl rfl]
      apply signed_over
      rw [← ED.out, ← E3.out]
      have h1 : 18446744073709551616 ≤ (H * 18446744073709551616 + Lo) / D := by
        rw [Nat.le_div_iff_mul_le hD]
        have := Nat.mul_le_mul_left 18446744073709551616 hc
        omega
      omega
    · have hcd : decide ((D : Int) ≤ (H : Int)) = false := decide_eq_false (by omega)
      go_enter Try.func41, Try.ntmps41
      go_wp2_with (first | (go_at_call 54; refine (signed_any _ _ (by omega) (by omega) (by omega) (by omega) _).mono ?_; rintro e w1 ⟨p, rfl, hp, hbl, hpb⟩) | (go_at_call 55; refine (size_any _ (by omega) (by omega) _).mono ?_; rintro e w' ⟨rfl, rfl⟩) | (go_at_call 52; refine (div64_any _ _ _ (by omega) (by omega) (by omega) _).mono ?_; rintro e w2 ⟨rfl, hb2⟩))
      obtain ⟨t1, t2, t3, t4, t5⟩ := div_tail H Lo D (by omega) e4
      refine (sign_any _ _ _ _ _ (by decide) (by decide) t1 t2 _ ((hb2.cell hpb).trans hp.out)).mono ?_
      rintro e w' ⟨rfl, rfl⟩
      have T4 := Lib.hid t4
      have T3 := Lib.hid t3
      clear hp t1 t2 t3 t4
      go_wp2
      go_ret
      refine ⟨ret_int ?_, hbl.trans (hb2.mono hbl.size)⟩
      rw [T3.out, T4.out]
      apply div_sizes a b HB0.out _ _ _ _ rfl
      · rw [← ED.out, ← E3.out]
        exact (Nat.div_eq_of_lt t5).symm
      · rw [← ED.out, ← E3.out]
        exact (Nat.mod_eq_of_lt t5).symm
      · rw [← ED.out, ← E3.out]
end Go.Proofs.Ytddagmcmajjnfaa.Fx
