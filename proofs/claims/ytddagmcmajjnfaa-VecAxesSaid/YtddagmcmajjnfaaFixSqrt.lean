/-
  Sqrt of package fix: the root, without its rest, by guesses that come down to it. The conditions are that the numbers are of their kind.
-/
import Derived.Test.YtddagmcmajjnfaaFixDiv
namespace Go.Proofs.Ytddagmcmajjnfaa.Fx
open Go Go.RowKit
set_option linter.unusedVariables false
/-! ### Plain numbers -/
theorem guess_next {N R s : Nat} (hs : s * s ≤ N) (hR : s ≤ R) (h0 : 0 < R) : s ≤ (R + N / R) / 2 := by
  have hz := Nat.zero_le (N / R)
  by_cases h : 2 * s ≤ R
  · omega
  · obtain ⟨d, rfl⟩ : ∃ d, R = s + d := ⟨R - s, by omega⟩
    obtain ⟨e, rfl⟩ : ∃ e, s = d + e := ⟨s - d, by omega⟩
    have : e ≤ N / (d + e + d) := by
      rw [Nat.le_div_iff_mul_le h0]
      have h1 : e * (d + e + d) ≤ (d + e) * (d + e) := by
        simp only [Nat.mul_add, Nat.add_mul]
        have := Nat.mul_comm d e
        omega
      omega
    omega
theorem guess_done {N R : Nat} (hR : root N ≤ R) (h : R ≤ (R + N / R) / 2) (h0 : 0 < R) : R = root N := by
  have h1 : R ≤ N / R := by omega
  rw [Nat.le_div_iff_mul_le h0] at h1
  have := root_most N R h1
  omega
theorem guess_fits {A R : Nat} (hR : root (A * 4294967296) ≤ R) (h0 : 0 < R) (hA : A ≤ 9223372036854775807) : A / 4294967296 < R := by
  by_cases h : A / 4294967296 = 0
  · omega
  · have : A / 4294967296 + 1 ≤ root (A * 4294967296) := by
      apply root_most
      have hk : A / 4294967296 ≤ 2147483647 := by omega
      generalize hg : A / 4294967296 = k at *
      have h1 : (k + 1) * (k + 1) ≤ (2 * k) * 2147483648 := Nat.mul_le_mul (by omega) (by omega)
      refine Nat.le_trans h1 ?_
      rw [Nat.mul_comm 2 k, Nat.mul_assoc]
      refine Nat.le_trans ?_ (Nat.mul_le_mul_right _ (show k ≤ A from by omega))
      exact Nat.le_refl _
    omega
theorem guess_bound {N R : Nat} (hR : root N ≤ R) (h0 : 0 < R) : N / R ≤ R + 2 := by
  have h1 := root_next N
  have h2 : (root N + 1) * (root N + 1) ≤ (R + 1) * (R + 1) := Nat.mul_le_mul (by omega) (by omega)
  apply Nat.le_of_lt_succ
  rw [Nat.div_lt_iff_lt_mul h0]
  refine Nat.lt_of_lt_of_le (Nat.lt_of_lt_of_le h1 h2) ?_
  rw [show (R + 2).succ = R + 1 + 2 from rfl, Nat.add_mul (R + 1) 2 R, Nat.mul_add (R + 1) R 1]
  omega
theorem guess_first {A : Nat} (hA : A ≤ 9223372036854775807) (h1 : 1 ≤ A) : ∃ K : Nat, IntKind.u64.wrap (2 ^ ((Lib.bitLen A + 32 + 1) / 2)) = (K : Int) ∧ root (A * 4294967296) ≤ K ∧ 0 < K ∧ K ≤ 281474976710656 := by
  obtain ⟨a, b, c⟩ := aux_spec 64 A (by omega)
  obtain ⟨b, d⟩ := b (by omega)
  change A < 2 ^ Lib.bitLen A at a
  change 2 ^ Lib.bitLen A ≤ 2 * A at b
  have c : Lib.bitLen A ≤ 63 := by
    have := Lib.bitLen_le A 63 (by decide) (by omega)
    exact this
  generalize Lib.bitLen A = k at *
  have h9 : 2 ^ ((k + 32 + 1) / 2) ≤ 2 ^ 48 := Nat.pow_le_pow_right (by decide) (by omega)
  refine ⟨2 ^ ((k + 32 + 1) / 2), ?_, ?_, Nat.two_pow_pos _, h9⟩
  · rw [← wrapN (Nat.lt_of_le_of_lt h9 (by decide)), Int.natCast_pow]
    rfl
  apply Nat.le_of_not_lt
  intro h
  have h2 := root_le (A * 4294967296)
  have h3 : 2 ^ ((k + 32 + 1) / 2) * 2 ^ ((k + 32 + 1) / 2) ≤ root (A * 4294967296) * root (A * 4294967296) := Nat.mul_le_mul (by omega) (by omega)
  rw [← Nat.pow_add] at h3
  have h4 : 2 ^ (k + 32) ≤ 2 ^ ((k + 32 + 1) / 2 + (k + 32 + 1) / 2) := Nat.pow_le_pow_right (by decide) (by omega)
  have h5 : A * 4294967296 < 2 ^ (k + 32) := by
    rw [Nat.pow_add]
    exact Nat.mul_lt_mul_of_pos_right a (by decide)
  omega
theorem sqrt_limbs (A : Nat) (hX : A ≤ 9223372036854775807) :
    ∃ H Lo : Nat, (A : Int) / 4294967296 = (H : Int) ∧ IntKind.u64.wrap ((A : Int) * 4294967296) = (Lo : Int) ∧ H * 18446744073709551616 + Lo = A * 4294967296 ∧ Lo < 18446744073709551616 ∧ H = A / 4294967296 := by
  refine ⟨A / 4294967296, A * 4294967296 % 18446744073709551616, rfl, ?_, by omega, by omega, rfl⟩
  rw [IntKind.wrap_u64]
  omega
/-! ### The walk -/
theorem len_any (y : Nat) (h : y < 18446744073709551616) (w : World) :
    Calls Try.prog 51 #[.int .u64 (y : Int)] w fun e w' => e = .returned (.int .i64 (Lib.bitLen y : Int)) ∧ w = w' := by
  refine (Try.bits_Len64 y w (by omega) (by omega)).mono ?_
  rintro e w' ⟨rfl, rfl⟩
  exact ⟨rfl, rfl⟩
theorem sqrt_low (a : Int) (h : a < 1) (w : World) :
    Calls Try.prog 38 #[.int .i64 a] w fun e w' => e = .returned (.int .i64 (sqrt a)) ∧ Below w.heap.size w w' := by
  go_enter Try.func38, Try.ntmps38
  go_wp2
  go_ret
  exact ⟨ret_int (by unfold sqrt; rw [if_pos (by omega)]), Below.refl _ _⟩
set_option maxHeartbeats 1000000 in
theorem sqrt_high (A : Nat) (h : 1 ≤ A) (hA : A ≤ 9223372036854775807) (w : World) :
    Calls Try.prog 38 #[.int .i64 (A : Int)] w fun e w' => e = .returned (.int .i64 (sqrt (A : Int))) ∧ Below w.heap.size w w' := by
  obtain ⟨K, k1, k2, k3, k4⟩ := guess_first hA h
  obtain ⟨H, Lo, e1, e2, e3, e4, e5⟩ := sqrt_limbs A hA
  have hL : Lib.bitLen A ≤ 64 := Lib.bitLen_le A 64 (by decide) (by omega)
  have E3 := Lib.hid e3
  have E5 := Lib.hid e5
  have K3 := Lib.hid k2
  clear k2
  clear e3 e5
  have hA1 : decide ((A : Int) < 1) = false := decide_eq_false (by omega)
  go_enter Try.func38, Try.ntmps38
  go_wp2_with (go_at_call 51; refine (len_any _ (by omega) _).mono ?_; rintro e w' ⟨rfl, rfl⟩)
  rw [k1]
  clear k1
  go_loopw [5] (fun r wr => ∃ R : Nat, Hid (root (A * 4294967296) ≤ R ∧ 0 < R ∧ R ≤ 281474976710656) ∧ r = .int .u64 R ∧ Below w.heap.size w wr) (fun r _ => (intOf r).toNat)
  case atStart => exact ⟨K, ⟨K3.out, k3, k4⟩, rfl, Below.refl _ _⟩
  case round =>
    obtain ⟨R, HR, rfl, hbl⟩ := hrel
    have hR0 : 0 < R := HR.out.2.1
    have hR1 : R ≤ 281474976710656 := HR.out.2.2
    have hHR : H < R := by rw [E5.out]; exact guess_fits HR.out.1 hR0 hA
    obtain ⟨q, hq1, hq2⟩ : ∃ q : Nat, ((H : Int) * 18446744073709551616 + (Lo : Int)) / (R : Int) = (q : Int) ∧ Hid (q = A * 4294967296 / R) := ⟨A * 4294967296 / R, by rw [← E3.out, Int.natCast_ediv]; congr 1, rfl⟩
    have hq3 : q ≤ R + 2 := by rw [hq2.out]; exact guess_bound HR.out.1 hR0
    by_cases hc : R ≤ (R + q) / 2
    · have hcd : decide ((R : Int) ≤ ((R : Int) + (q : Int)) / 2) = true := decide_eq_true (by omega)
      go_wp2_with (go_at_call 52; refine (div64_any _ _ _ (by omega) (by omega) (by omega) _).mono ?_; rintro e w2 ⟨rfl, hb2⟩)
      go_ret
      refine ⟨ret_int ?_, hbl.trans (hb2.mono hbl.size)⟩
      rw [hq2.out] at hc
      unfold sqrt
      rw [if_neg (by omega), Int.toNat_natCast, ← guess_done HR.out.1 hc hR0]
    · have hcd : decide ((R : Int) ≤ ((R : Int) + (q : Int)) / 2) = false := decide_eq_false (by omega)
      go_wp2_with (go_at_call 52; refine (div64_any _ _ _ (by omega) (by omega) (by omega) _).mono ?_; rintro e w2 ⟨rfl, hb2⟩)
      go_roundw
      case rel => exact ⟨(R + q) / 2, ⟨by rw [hq2.out]; exact guess_next (root_le _) HR.out.1 hR0, by have h5 := guess_next (root_le _) HR.out.1 hR0; have h6 := root_most (A * 4294967296) 1 (by omega); rw [← hq2.out] at h5; omega, by omega⟩, by go_num, hbl.trans (hb2.mono hbl.size)⟩
      case measure => simp [intOf]; omega
theorem sqrt_any (a : Int) (ha : -9223372036854775808 ≤ a) (ka : a ≤ 9223372036854775807) (w : World) :
    Calls Try.prog 38 #[.int .i64 a] w fun e w' => e = .returned (.int .i64 (sqrt a)) ∧ Below w.heap.size w w' := by
  by_cases h : a < 1
  · exact sqrt_low a h w
  · obtain ⟨A, rfl⟩ : ∃ A : Nat, a = (A : Int) := ⟨a.toNat, by omega⟩
    exact sqrt_high A (by omega) (by omega) w
end Go.Proofs.Ytddagmcmajjnfaa.Fx
