/-
  Bits of numbers of 64 bits: signs, shifts, halves. The conditions stand in each.
-/
import Derived.WalkKit
import Derived.Laws.Bits64b
import Derived.Test.YtddagmcmajjnfaaFixPlain
namespace Go.Proofs.Ytddagmcmajjnfaa.Fx
open Go Go.RowKit

theorem wrap_i64_toNat (x : BitVec 64) : IntKind.i64.wrap (x.toNat : Int) = x.toInt := by
  rw [BitVec.toInt_eq_toNat_bmod]
  simp only [IntKind.wrap, IntKind.bits, IntKind.signed, Int.bmod]
  have := x.isLt
  simp
  omega
theorem i64_below (x : BitVec 64) : decide (IntKind.i64.wrap (x.toNat : Int) < 0) = x.msb := by
  rw [wrap_i64_toNat, BitVec.msb_eq_toInt]
theorem msb_i64 {a : Int} (h : isI a) : (BitVec.ofInt 64 a).msb = decide (a < 0) := by
  unfold isI at h
  rw [BitVec.msb_eq_toInt, BitVec.toInt_ofInt]
  simp only [Int.bmod]
  congr 1
  simp
  omega
theorem xor_below {a b : Int} (ha : isI a) (hb : isI b) : decide (bits .xor .i64 a b < 0) = (decide (a < 0) ^^ decide (b < 0)) := by
  show decide (IntKind.i64.wrap ((BitVec.ofInt 64 a ^^^ BitVec.ofInt 64 b).toNat : Int) < 0) = _
  rw [i64_below, BitVec.msb_xor, msb_i64 ha, msb_i64 hb]
theorem and_below {a b : Int} (ha : isI a) (hb : isI b) : decide (bits .and .i64 a b < 0) = (decide (a < 0) && decide (b < 0)) := by
  show decide (IntKind.i64.wrap ((BitVec.ofInt 64 a &&& BitVec.ofInt 64 b).toNat : Int) < 0) = _
  rw [i64_below, BitVec.msb_and, msb_i64 ha, msb_i64 hb]
theorem xor_is (a b : Int) : isI (bits .xor .i64 a b) := by
  show isI (IntKind.i64.wrap ((BitVec.ofInt 64 a ^^^ BitVec.ofInt 64 b).toNat : Int))
  rw [wrap_i64_toNat]
  generalize BitVec.ofInt 64 a ^^^ BitVec.ofInt 64 b = x
  have h1 := BitVec.toInt_lt (x := x)
  have h2 := BitVec.le_toInt (x := x)
  unfold isI
  simp at h1 h2
  omega
theorem wrap_is (n : Int) : isI (wrap64 n) := by
  unfold wrap64 isI
  omega
theorem wrap_near {n : Int} (h : -18446744073709551616 ≤ n) (k : n ≤ 18446744073709551615) : wrap64 n = n ∨ wrap64 n = n - 18446744073709551616 ∨ wrap64 n = n + 18446744073709551616 := by
  unfold wrap64
  omega
theorem add_over {a b : Int} (ha : isI a) (hb : isI b) (hw : ((decide (a < 0) ^^ decide (wrap64 (a + b) < 0)) && (decide (b < 0) ^^ decide (wrap64 (a + b) < 0))) = true) : last a = add a b := by
  have hc := bring_cases (a + b)
  have hs := wrap_is (a + b)
  unfold isI at ha hb hs
  have hv := wrap_near (n := a + b) (by omega) (by omega)
  unfold add last
  simp only [Bool.and_eq_true, bne_iff_ne, ne_eq, decide_eq_decide] at hw
  by_cases h : a < 0
  · rw [if_pos h]
    omega
  · rw [if_neg h]
    omega
theorem add_fits {a b : Int} (ha : isI a) (hb : isI b) (hw : ((decide (a < 0) ^^ decide (wrap64 (a + b) < 0)) && (decide (b < 0) ^^ decide (wrap64 (a + b) < 0))) = false) : wrap64 (a + b) = add a b := by
  have hc := bring_cases (a + b)
  have hs := wrap_is (a + b)
  unfold isI at ha hb hs
  have hv := wrap_near (n := a + b) (by omega) (by omega)
  unfold add
  simp only [Bool.and_eq_false_iff, bne_eq_false_iff_eq, decide_eq_decide] at hw
  omega
theorem sub_over {a b : Int} (ha : isI a) (hb : isI b) (hw : ((decide (a < 0) ^^ decide (b < 0)) && (decide (a < 0) ^^ decide (wrap64 (a - b) < 0))) = true) : last a = sub a b := by
  have hc := bring_cases (a - b)
  have hs := wrap_is (a - b)
  unfold isI at ha hb hs
  have hv := wrap_near (n := a - b) (by omega) (by omega)
  unfold sub last
  simp only [Bool.and_eq_true, bne_iff_ne, ne_eq, decide_eq_decide] at hw
  by_cases h : a < 0
  · rw [if_pos h]
    omega
  · rw [if_neg h]
    omega
theorem sub_fits {a b : Int} (ha : isI a) (hb : isI b) (hw : ((decide (a < 0) ^^ decide (b < 0)) && (decide (a < 0) ^^ decide (wrap64 (a - b) < 0))) = false) : wrap64 (a - b) = sub a b := by
  have hc := bring_cases (a - b)
  have hs := wrap_is (a - b)
  unfold isI at ha hb hs
  have hv := wrap_near (n := a - b) (by omega) (by omega)
  unfold sub
  simp only [Bool.and_eq_false_iff, bne_eq_false_iff_eq, decide_eq_decide] at hw
  omega
/-- Go's quotient and rest of what is below 0. -/
theorem quo_low {a d : Int} (h : a < 0) : a.tdiv d = -((-a) / d) ∧ a.tmod d = -((-a) % d) := by
  have e : a = -(-a) := by omega
  constructor
  · rw [e, Int.neg_tdiv, Int.tdiv_eq_ediv_of_nonneg (by omega), Int.neg_neg]
  · rw [e, Int.neg_tmod, Int.tmod_eq_emod_of_nonneg (by omega), Int.neg_neg]
theorem quo_high {a d : Int} (h : 0 ≤ a) : a.tdiv d = a / d ∧ a.tmod d = a % d := ⟨Int.tdiv_eq_ediv_of_nonneg h, Int.tmod_eq_emod_of_nonneg h⟩
/-- The two halves of a product, joined. -/
theorem halves (H L : Nat) (_hH : H < 18446744073709551616) (hL : L < 18446744073709551616) :
    bits .or .u64 (((H * 4294967296 % 18446744073709551616 : Nat) : Int)) ((L / 4294967296 : Nat) : Int) = ((H * 18446744073709551616 + L) / 4294967296 % 18446744073709551616 : Nat) := by
  rw [bits_or_u64_nat _ _ (by omega) (by omega)]
  congr 1
  have e : H * 4294967296 % 18446744073709551616 = (H % 4294967296) <<< 32 := by
    rw [Nat.shiftLeft_eq]
    omega
  rw [e, ← Nat.shiftLeft_add_eq_or_of_lt (by omega : L / 4294967296 < 2 ^ 32), Nat.shiftLeft_eq]
  omega
/-- The limbs of Mul's product, as the walk spells them. -/
theorem mul_code (X Y : Nat) (hX : X ≤ 9223372036854775808) (hY : Y ≤ 9223372036854775808) :
    (0 ≤ (X : Int) * (Y : Int) / 18446744073709551616 / 4294967296 ∧ (X : Int) * (Y : Int) / 18446744073709551616 / 4294967296 ≤ 18446744073709551615)
    ∧ (0 ≤ bits .or .u64 (IntKind.u64.wrap ((X : Int) * (Y : Int) / 18446744073709551616 * 4294967296)) ((X : Int) * (Y : Int) % 18446744073709551616 / 4294967296) ∧ bits .or .u64 (IntKind.u64.wrap ((X : Int) * (Y : Int) / 18446744073709551616 * 4294967296)) ((X : Int) * (Y : Int) % 18446744073709551616 / 4294967296) ≤ 18446744073709551615)
    ∧ ((X : Int) * (Y : Int) / 18446744073709551616 / 4294967296).toNat = X * Y / 4294967296 / 18446744073709551616
    ∧ (bits .or .u64 (IntKind.u64.wrap ((X : Int) * (Y : Int) / 18446744073709551616 * 4294967296)) ((X : Int) * (Y : Int) % 18446744073709551616 / 4294967296)).toNat = X * Y / 4294967296 % 18446744073709551616
    ∧ (IntKind.u64.wrap ((X : Int) * (Y : Int) % 18446744073709551616 * 4294967296) != 0) = decide (X * Y % 4294967296 ≠ 0) := by
  have hN : X * Y ≤ 9223372036854775808 * 9223372036854775808 := Nat.mul_le_mul hX hY
  rw [← Int.natCast_mul]
  generalize X * Y = N at *
  have e : bits .or .u64 (IntKind.u64.wrap ((N : Int) / 18446744073709551616 * 4294967296)) ((N : Int) % 18446744073709551616 / 4294967296) = ((N / 4294967296 % 18446744073709551616 : Nat) : Int) := by
    have h := halves (N / 18446744073709551616) (N % 18446744073709551616) (by omega) (by omega)
    rw [show N / 18446744073709551616 * 18446744073709551616 + N % 18446744073709551616 = N from by omega] at h
    rw [← h, IntKind.wrap_u64]
    rfl
  rw [e, IntKind.wrap_u64]
  refine ⟨by omega, by omega, by omega, by omega, ?_⟩
  rw [Bool.eq_iff_iff]
  simp only [bne_iff_ne, ne_eq, decide_eq_true_eq]
  omega
end Go.Proofs.Ytddagmcmajjnfaa.Fx
