/-
  bits.Div64: the quotient and the rest of two limbs by one that is above the upper one. The conditions stand in each.
-/
import Derived.Deep.QuietTactic
import Derived.BigQuiet
import Derived.Test.YtddagmcmajjnfaaShelf
import Derived.Test.YtddagmcmajjnfaaFixSmall
import Derived.Test.YtddagmcmajjnfaaFixDivP
namespace Go.Proofs.Ytddagmcmajjnfaa.Fx
open Go Go.RowKit
set_option linter.unusedVariables false
def lz (y : Nat) : Nat := 64 - Lib.bitLen y
theorem aux_spec : ∀ f x : Nat, x < 2 ^ f → x < 2 ^ Lib.bitLenAux f x ∧ (x ≠ 0 → 2 ^ Lib.bitLenAux f x ≤ 2 * x ∧ 1 ≤ Lib.bitLenAux f x) ∧ Lib.bitLenAux f x ≤ f
  | 0, x, h => by
    simp only [Lib.bitLenAux]
    omega
  | f + 1, x, h => by
    unfold Lib.bitLenAux
    by_cases h0 : x = 0
    · rw [if_pos h0]
      subst h0
      simp
    · rw [if_neg h0]
      have ih := aux_spec f (x / 2) (by rw [Nat.pow_succ] at h; omega)
      rw [Nat.add_comm 1, Nat.pow_succ]
      refine ⟨by omega, fun _ => ⟨?_, by omega⟩, by omega⟩
      by_cases h1 : x / 2 = 0
      · have e : Lib.bitLenAux f (x / 2) = 0 := by
          rw [h1]
          cases f <;> simp [Lib.bitLenAux]
        rw [e]
        omega
      · have := (ih.2.1 h1).1
        omega
theorem lz_spec {y : Nat} (h0 : 0 < y) (h : y < 18446744073709551616) : lz y ≤ 63 ∧ 9223372036854775808 ≤ y * 2 ^ lz y ∧ y * 2 ^ lz y < 18446744073709551616 := by
  obtain ⟨a, b, c⟩ := aux_spec 64 y h
  obtain ⟨b, d⟩ := b (by omega)
  change y < 2 ^ Lib.bitLen y at a
  change 2 ^ Lib.bitLen y ≤ 2 * y at b
  change Lib.bitLen y ≤ 64 at c
  change 1 ≤ Lib.bitLen y at d
  unfold lz
  generalize Lib.bitLen y = k at *
  have e : 2 ^ k * 2 ^ (64 - k) = 18446744073709551616 := by
    rw [← Nat.pow_add, show k + (64 - k) = 64 from by omega]
  have hp : 0 < 2 ^ (64 - k) := Nat.two_pow_pos _
  have a' := Nat.mul_lt_mul_of_pos_right a hp
  have b' := Nat.mul_le_mul_right (2 ^ (64 - k)) b
  rw [e] at a' b'
  rw [Nat.mul_assoc] at b'
  omega
theorem lz_any (y : Nat) (h : y < 18446744073709551616) (w : World) :
    Calls Try.prog 59 #[.int .u64 (y : Int)] w fun e w' => e = .returned (.int .i64 (lz y : Int)) ∧ w = w' := by
  refine (Try.bits_LeadingZeros64 y w (by omega) (by omega)).mono ?_
  rintro e w' ⟨rfl, rfl⟩
  have := Lib.bitLen_le y 64 (by omega) (by omega)
  exact ⟨ret_int (by unfold lz; simp only [Int.toNat_natCast]; omega), rfl⟩
theorem wrapN {n : Nat} (h : n < 18446744073709551616) : IntKind.u64.wrap (n : Int) = n := by rw [IntKind.wrap_u64]; omega
theorem ret_two {k l : IntKind} {a b c d : Int} (h : a = c) (h' : b = d) : Ending.returned (.tuple #[.int k a, .int l b]) = .returned (.tuple #[.int k c, .int l d]) := by rw [h, h']
theorem below_drewN {B : Nat} {a w : World} (h : Below B a w) (n : Nat) : Below B a (w.drewN n) := ⟨h.os, h.tape, h.output, h.size, h.block⟩
theorem div64_low (lo y : Nat) (hl : lo < 18446744073709551616) (hy : 0 < y) (hy2 : y < 18446744073709551616) (w : World) :
    Calls Try.prog 52 #[.int .u64 0, .int .u64 (lo : Int), .int .u64 (y : Int)] w fun e w' => e = .returned (.tuple #[.int .u64 ((lo / y : Nat) : Int), .int .u64 ((lo % y : Nat) : Int)]) ∧ Below w.heap.size w w' := by
  go_enter Try.func52, Try.ntmps52
  go_wp2
  go_quiet (fail)
  go_wp2
  go_ret2
  have hq : lo / y ≤ lo := Nat.div_le_self lo y
  exact ⟨ret_two (by rw [← Int.natCast_ediv, wrapN (by omega)]) (by rw [Int.natCast_emod]), below_drewN (Below.refl _ _) _⟩
/-! ### The numbers that the walk meets, each under a name -/
theorem head_eqs {hi lo y s : Nat} (hl : lo < 18446744073709551616) (hh : hi < y) (hy : y * 2 ^ s < 18446744073709551616) (hy' : 9223372036854775808 ≤ y * 2 ^ s) (hs : s ≤ 63) :
    ∃ Y Y1 Y0 U L L1 L0 : Nat, IntKind.u64.wrap ((y : Int) * 2 ^ s) = (Y : Int) ∧ (Y : Int) / 4294967296 = (Y1 : Int) ∧ bits .and .u64 (Y : Int) 4294967295 = (Y0 : Int)
      ∧ bits .or .u64 (IntKind.u64.wrap ((hi : Int) * 2 ^ s)) ((lo : Int) / 2 ^ (64 - s)) = (U : Int) ∧ IntKind.u64.wrap ((lo : Int) * 2 ^ s) = (L : Int) ∧ (L : Int) / 4294967296 = (L1 : Int) ∧ bits .and .u64 (L : Int) 4294967295 = (L0 : Int)
      ∧ Y = y * 2 ^ s ∧ Y = Y1 * 4294967296 + Y0 ∧ Pre U L1 Y1 Y0 ∧ L = L1 * 4294967296 + L0 ∧ L0 < 4294967296 ∧ U * 18446744073709551616 + L = (hi * 18446744073709551616 + lo) * 2 ^ s ∧ U < 18446744073709551616 ∧ L < 18446744073709551616 ∧ Y < 18446744073709551616 := by
  obtain ⟨h1, h2⟩ := shift_two hl hh hy hs
  have hp : 0 < 2 ^ s := Nat.two_pow_pos s
  have hhi : hi * 2 ^ s < 18446744073709551616 := Nat.lt_trans (Nat.mul_lt_mul_of_pos_right hh hp) hy
  have hlo : lo / 2 ^ (64 - s) < 18446744073709551616 := Nat.lt_of_le_of_lt (Nat.div_le_self _ _) hl
  refine ⟨y * 2 ^ s, y * 2 ^ s / 4294967296, y * 2 ^ s % 4294967296, hi * 2 ^ s ||| lo / 2 ^ (64 - s), lo * 2 ^ s % 18446744073709551616, lo * 2 ^ s % 18446744073709551616 / 4294967296, lo * 2 ^ s % 18446744073709551616 % 4294967296, ?_, ?_, ?_, ?_, ?_, ?_, ?_, rfl, ?_, ?_, ?_, ?_, h1, ?_, ?_, hy⟩
  · rw [← wrapN hy, Int.natCast_mul, Int.natCast_pow]
    rfl
  · rfl
  · exact Mul64.maskN _ hy
  · rw [← bits_or_u64_nat _ _ hhi hlo, ← wrapN hhi, Int.natCast_mul, Int.natCast_pow, Int.natCast_ediv, Int.natCast_pow]
    rfl
  · rw [← Mul64.wrapM, Int.natCast_mul, Int.natCast_pow]
    rfl
  · rfl
  · exact Mul64.maskN _ (by omega)
  · omega
  · refine ⟨?_, ?_, ?_, ?_, ?_⟩
    · omega
    · omega
    · omega
    · omega
    · omega
  · omega
  · omega
  · omega
  · omega
theorem quo_eqs {U V Y1 Y0 : Nat} (h : Pre U V Y1 Y0) : ∃ Q P R : Nat, (U : Int) / (Y1 : Int) = (Q : Int) ∧ IntKind.u64.wrap ((Q : Int) * (Y1 : Int)) = (P : Int) ∧ IntKind.u64.wrap ((U : Int) - (P : Int)) = (R : Int) ∧ Inv U V Y1 Y0 Q R ∧ P < 18446744073709551616 := by
  have hi := inv_start h
  obtain ⟨h1, h2, h3, h4, h5⟩ := h
  have e : U / Y1 * Y1 + U % Y1 = U := by rw [Nat.mul_comm]; exact Nat.div_add_mod U Y1
  refine ⟨U / Y1, U / Y1 * Y1, U % Y1, rfl, ?_, ?_, hi, by omega⟩
  · rw [← Int.natCast_mul, wrapN (by omega)]
  · rw [← wrapN (n := U % Y1) (by omega)]
    congr 1
    omega
theorem rest_eqs {U V Y1 Y0 Y T : Nat} (h : Pre U V Y1 Y0) (hY : Y = Y1 * 4294967296 + Y0) (hT : T = (U * 4294967296 + V) / (Y1 * 4294967296 + Y0)) :
    ∃ F1 F2 F3 R : Nat, IntKind.u64.wrap ((U : Int) * 4294967296) = (F1 : Int) ∧ IntKind.u64.wrap ((F1 : Int) + (V : Int)) = (F2 : Int) ∧ IntKind.u64.wrap ((T : Int) * (Y : Int)) = (F3 : Int) ∧ IntKind.u64.wrap ((F2 : Int) - (F3 : Int)) = (R : Int)
      ∧ T * Y + R = U * 4294967296 + V ∧ R < Y ∧ T < 4294967296 ∧ F1 < 18446744073709551616 ∧ F2 < 18446744073709551616 ∧ F3 < 18446744073709551616 := by
  obtain ⟨a, b, c⟩ := quo_half h hT
  rw [← hY] at b c
  obtain ⟨h1, h2, h3, h4, h5⟩ := h
  generalize (U * 4294967296 + V) % Y = R at *
  refine ⟨U * 4294967296 % 18446744073709551616, (U * 4294967296 % 18446744073709551616 + V) % 18446744073709551616, T * Y % 18446744073709551616, R, ?_, ?_, ?_, ?_, b, c, a, by omega, by omega, by omega⟩
  · rw [← Mul64.wrapM]
    rfl
  · rw [← Mul64.wrapM]
    rfl
  · rw [← Mul64.wrapM, Int.natCast_mul]
  · rw [IntKind.wrap_u64]
    generalize T * Y = p at *
    omega
theorem end_eqs {T1 T0 : Nat} (h1 : T1 < 4294967296) (h0 : T0 < 4294967296) : ∃ G : Nat, IntKind.u64.wrap ((T1 : Int) * 4294967296) = (G : Int) ∧ IntKind.u64.wrap ((G : Int) + (T0 : Int)) = ((T1 * 4294967296 + T0 : Nat) : Int) ∧ G < 18446744073709551616 := by
  refine ⟨T1 * 4294967296, ?_, ?_, by omega⟩
  · rw [IntKind.wrap_u64]; omega
  · rw [IntKind.wrap_u64]; omega
end Go.Proofs.Ytddagmcmajjnfaa.Fx
