/-
  The document's own answer for quotients, bit by bit, and for roots, by halving the span. The conditions are that the numbers are of their kind.
-/
import Derived.Test.YtddagmcmajjnfaaFixRef
namespace Go.Proofs.Ytddagmcmajjnfaa.Fx
open Go Go.RowKit
set_option linter.unusedVariables false
/-! ### Plain numbers -/
/-- What stands when bits from k on are done. -/
def Done (X D k hi lo rest : Nat) : Prop := hi * 18446744073709551616 + lo = X * 4294967296 / 2 ^ k / D ∧ rest = X * 4294967296 / 2 ^ k % D ∧ lo < 18446744073709551616
theorem done_start {X D : Nat} (hX : X ≤ 9223372036854775808) : Done X D 96 0 0 0 := by
  have : X * 4294967296 / 2 ^ 96 = 0 := Nat.div_eq_of_lt (by have : (2 : Nat) ^ 96 = 79228162514264337593543950336 := by decide
                                                             omega)
  unfold Done
  rw [this]
  simp
theorem done_step {X D k hi lo rest b : Nat} (hD : 0 < D) (h : Done X D (k + 1) hi lo rest) (hb : b = X * 4294967296 / 2 ^ k % 2) :
    (D ≤ 2 * rest + b → (2 * hi + lo / 9223372036854775808) * 18446744073709551616 + (2 * lo % 18446744073709551616 + 1) = X * 4294967296 / 2 ^ k / D ∧ 2 * rest + b - D = X * 4294967296 / 2 ^ k % D)
    ∧ (2 * rest + b < D → (2 * hi + lo / 9223372036854775808) * 18446744073709551616 + 2 * lo % 18446744073709551616 = X * 4294967296 / 2 ^ k / D ∧ 2 * rest + b = X * 4294967296 / 2 ^ k % D) := by
  obtain ⟨h1, h2, h3⟩ := h
  rw [Nat.pow_succ, ← Nat.div_div_eq_div_mul] at h1 h2
  generalize X * 4294967296 / 2 ^ k = V at *
  have hv : V = 2 * (V / 2) + b := by omega
  have hq := Nat.div_add_mod (V / 2) D
  have hm := Nat.mod_lt (V / 2) hD
  rw [← h1, ← h2] at hq
  rw [← h2] at hm
  have hb1 : b ≤ 1 := by omega
  have hu : V = (hi * 18446744073709551616 + lo) * 2 * D + (2 * rest + b) := by
    rw [Nat.mul_right_comm, Nat.mul_comm _ D, Nat.mul_comm _ 2]
    omega
  have d1 : ∀ q r : Nat, V = q * D + r → r < D → V / D = q ∧ V % D = r := by
    intro q r h1 h2
    constructor
    · rw [h1, Nat.mul_comm, Nat.mul_add_div hD, Nat.div_eq_of_lt h2, Nat.add_zero]
    · rw [h1, Nat.mul_comm, Nat.mul_add_mod, Nat.mod_eq_of_lt h2]
  clear hv hq h1 h2
  constructor
  · intro hc
    have h9 := d1 ((hi * 18446744073709551616 + lo) * 2 + 1) (2 * rest + b - D) (by rw [Nat.add_mul, Nat.one_mul]; omega) (by omega)
    rw [h9.1, h9.2]
    exact ⟨by omega, rfl⟩
  · intro hc
    have h9 := d1 ((hi * 18446744073709551616 + lo) * 2) (2 * rest + b) hu hc
    rw [h9.1, h9.2]
    exact ⟨by omega, rfl⟩
theorem bit_high {X k : Nat} (hk : 32 ≤ k) : X / 2 ^ (k - 32) % 2 = X * 4294967296 / 2 ^ k % 2 := by
  have : (2 : Nat) ^ k = 2 ^ (k - 32) * 4294967296 := by
    rw [show (4294967296 : Nat) = 2 ^ 32 from rfl, ← Nat.pow_add]
    congr 1
    omega
  rw [this, Nat.mul_div_mul_right _ _ (by decide)]
theorem bit_low {X k : Nat} (hk : k < 32) : 0 = X * 4294967296 / 2 ^ k % 2 := by
  have : (4294967296 : Nat) = 2 ^ (31 - k) * 2 * 2 ^ k := by
    rw [show (4294967296 : Nat) = 2 ^ 32 from rfl, ← Nat.pow_succ, ← Nat.pow_add]
    congr 1
    omega
  rw [this, ← Nat.mul_assoc, Nat.mul_div_cancel _ (Nat.two_pow_pos _), ← Nat.mul_assoc, Nat.mul_mod_left]
theorem done_hi {X D k hi lo rest : Nat} (hX : X ≤ 9223372036854775808) (hD : 0 < D) (h : Done X D k hi lo rest) : hi ≤ 4294967296 ∧ rest < D := by
  obtain ⟨h1, h2, h3⟩ := h
  have a := Nat.div_le_self (X * 4294967296) (2 ^ k)
  have b := Nat.div_le_self (X * 4294967296 / 2 ^ k) D
  have c := Nat.mod_lt (X * 4294967296 / 2 ^ k) hD
  rw [← h1] at b
  rw [← h2] at c
  omega
/-! ### The walks -/
set_option maxHeartbeats 2000000 in
theorem rdiv_any (a b : Int) (ha : -9223372036854775808 ≤ a) (ka : a ≤ 9223372036854775807) (hb : -9223372036854775808 ≤ b) (kb : b ≤ 9223372036854775807) (w : World) :
    Calls Try.prog 49 #[.int .i64 a, .int .i64 b] w fun e w' => e = .returned (.int .i64 (div a b)) ∧ w = w' := by
  by_cases hb0 : b = 0
  · subst hb0
    by_cases ha0 : a = 0
    · subst ha0
      go_enter Try.func49, Try.ntmps49
      go_wp2
      go_ret
      exact ⟨ret_int (by rfl), rfl⟩
    · have hae : (a == 0) = false := by simpa using ha0
      by_cases h : 0 < a
      · go_enter Try.func49, Try.ntmps49
        go_wp2
        go_ret
        exact ⟨ret_int (by unfold div last; rw [if_pos rfl, if_neg ha0, if_neg (by omega)]), rfl⟩
      · go_enter Try.func49, Try.ntmps49
        go_wp2
        go_ret
        exact ⟨ret_int (by unfold div last; rw [if_pos rfl, if_neg ha0, if_pos (by omega)]), rfl⟩
  · have hbe : (b == 0) = false := by simpa using hb0
    have hD : 0 < b.natAbs := by omega
    have hB : b.natAbs ≤ 9223372036854775808 := by omega
    have hX : a.natAbs ≤ 9223372036854775808 := by omega
    have HB0 := Lib.hid hb0
    clear hb0
    obtain ⟨D, eD⟩ : ∃ D, b.natAbs = D := ⟨_, rfl⟩
    obtain ⟨X, eX⟩ : ∃ X, a.natAbs = X := ⟨_, rfl⟩
    rw [eD] at hD hB
    rw [eX] at hX
    have ED : Hid (D = b.natAbs) := eD.symm
    have EX : Hid (X = a.natAbs) := eX.symm
    go_enter Try.func49, Try.ntmps49
    go_wp2_with (go_at_call 57; refine (rsize_any _ (by omega) (by omega) _).mono ?_; rintro e w' ⟨rfl, rfl⟩)
    go_loop [7, 8, 9, 10] (fun h l r i => ∃ k H L R : Nat, Hid (Done X D k H L R) ∧ k ≤ 96 ∧ h = .int .u64 H ∧ l = .int .u64 L ∧ r = .int .u64 R ∧ i = .int .i64 ((k : Int) - 1)) (fun _ _ _ i => (intOf i + 1).toNat)
    case atStart => exact ⟨96, 0, 0, 0, done_start hX, by omega, rfl, rfl, rfl, rfl⟩
    case round =>
      obtain ⟨k, H, L, R, HD, hk, rfl, rfl, rfl, rfl⟩ := hrel
      have hh := done_hi hX hD HD.out
      obtain ⟨hH, hR⟩ := hh
      have hL : L < 18446744073709551616 := HD.out.2.2
      by_cases hz : k = 0
      · subst hz
        have hlo : L ≤ 18446744073709551615 := by omega
        go_wp2_with (go_at_call 58; refine (in_any _ _ _ _ (by omega) (by omega) (by omega) (by omega) _).mono ?_; rintro e w' ⟨rfl, rfl⟩)
        go_ret
        have h1 := HD.out.1
        have h2 := HD.out.2.1
        rw [Nat.pow_zero, Nat.div_one, ED.out, EX.out] at h1 h2
        refine ⟨ret_int ?_, rfl⟩
        exact (div_sizes a b HB0.out _ _ _ _ (unlike_eq a b) (by rw [← h1]; omega) (by rw [← h1]; omega) (by rw [← h2]; exact decide_eq_decide.mpr (by omega)))
      · obtain ⟨j, rfl⟩ : ∃ j, k = j + 1 := ⟨k - 1, by omega⟩
        clear hz
        obtain ⟨L2, l1, l2, l3⟩ : ∃ L2 : Nat, IntKind.u64.wrap (2 * (L : Int)) = (L2 : Int) ∧ L2 ≤ 18446744073709551614 ∧ Hid (L2 = 2 * L % 18446744073709551616) := ⟨2 * L % 18446744073709551616, by rw [IntKind.wrap_u64]; omega, by omega, rfl⟩
        by_cases hj : 32 ≤ j
        · obtain ⟨m, rfl⟩ : ∃ m, j = m + 32 := ⟨j - 32, by omega⟩
          obtain ⟨B, b1, b2, b3⟩ : ∃ B : Nat, bits .and .u64 ((X : Int) / 2 ^ m) 1 = (B : Int) ∧ B ≤ 1 ∧ Hid (B = X * 4294967296 / 2 ^ (m + 32) % 2) := by
            refine ⟨X / 2 ^ m % 2, ?_, by omega, ?_⟩
            · have h1 : X / 2 ^ m < 18446744073709551616 := Nat.lt_of_le_of_lt (Nat.div_le_self _ _) (by omega)
              have h2 := bits_and_u64_nat (X / 2 ^ m) 1 h1 (by decide)
              rw [Nat.and_one_is_mod] at h2
              rw [← h2, Int.natCast_ediv, Int.natCast_pow]
              rfl
            · have := bit_high (X := X) (k := m + 32) (by omega)
              rwa [Nat.add_sub_cancel] at this
          have hd := done_step hD HD.out b3.out
          have HS := Lib.hid hd
          clear hd
          by_cases hc : D ≤ 2 * R + B
          · have hcd : decide ((D : Int) ≤ 2 * (R : Int) + (B : Int)) = true := decide_eq_true (by omega)
            go_wp2
            go_round
            case rel => exact ⟨m + 32, 2 * H + L / 9223372036854775808, L2 + 1, 2 * R + B - D, ⟨by rw [l3.out]; exact (HS.out.1 hc).1, (HS.out.1 hc).2, by omega⟩, by omega, by go_num, by go_num, by go_num, by go_num⟩
            case measure => simp [intOf]; omega
          · have hcd : decide ((D : Int) ≤ 2 * (R : Int) + (B : Int)) = false := decide_eq_false (by omega)
            go_wp2
            go_round
            case rel => exact ⟨m + 32, 2 * H + L / 9223372036854775808, L2, 2 * R + B, ⟨by rw [l3.out]; exact (HS.out.2 (by omega)).1, (HS.out.2 (by omega)).2, by omega⟩, by omega, by go_num, by go_num, by go_num, by go_num⟩
            case measure => simp [intOf]; omega
        · have hjd : decide ((32 : Int) ≤ (j : Int)) = false := decide_eq_false (by omega)
          have hd := done_step hD HD.out (bit_low (by omega))
          have HS := Lib.hid hd
          clear hd
          by_cases hc : D ≤ 2 * R
          · have hcd : decide ((D : Int) ≤ 2 * (R : Int)) = true := decide_eq_true (by omega)
            go_wp2
            go_round
            case rel => exact ⟨j, 2 * H + L / 9223372036854775808, L2 + 1, 2 * R + 0 - D, ⟨by rw [l3.out]; exact (HS.out.1 hc).1, (HS.out.1 hc).2, by omega⟩, by omega, by go_num, by go_num, by go_num, by go_num⟩
            case measure => simp [intOf]
          · have hcd : decide ((D : Int) ≤ 2 * (R : Int)) = false := decide_eq_false (by omega)
            go_wp2
            go_round
            case rel => exact ⟨j, 2 * H + L / 9223372036854775808, L2, 2 * R + 0, ⟨by rw [l3.out]; exact (HS.out.2 (by omega)).1, (HS.out.2 (by omega)).2, by omega⟩, by omega, by go_num, by go_num, by go_num, by go_num⟩
            case measure => simp [intOf]
set_option maxHeartbeats 2000000 in
theorem rsqrt_high (A : Nat) (h : 1 ≤ A) (hA : A ≤ 9223372036854775807) (w : World) :
    Calls Try.prog 39 #[.int .i64 (A : Int)] w fun e w' => e = .returned (.int .i64 (sqrt (A : Int))) ∧ w = w' := by
  obtain ⟨H, Lo, e1, e2, e3, e4, e5⟩ := sqrt_limbs A hA
  have E3 := Lib.hid e3
  clear e3 e5
  have hA1 : decide ((A : Int) < 1) = false := decide_eq_false (by omega)
  have hr : root (A * 4294967296) < 281474976710656 := by
    have := sqrt_bound (a := (A : Int)) ⟨by omega, by omega⟩
    unfold sqrt at this
    rw [if_neg (by omega), Int.toNat_natCast] at this
    omega
  have HR := Lib.hid hr
  clear hr
  go_enter Try.func39, Try.ntmps39
  go_wp2
  go_loop [3, 4] (fun l h => ∃ x y : Nat, Hid (x ≤ root (A * 4294967296) ∧ root (A * 4294967296) < y) ∧ x < y ∧ y ≤ 281474976710656 ∧ l = .int .i64 x ∧ h = .int .i64 y) (fun l h => (intOf h - intOf l).toNat)
  case atStart => exact ⟨0, 281474976710656, ⟨by omega, HR.out⟩, by omega, by omega, rfl, rfl⟩
  case round =>
    obtain ⟨x, y, HX, hxy, hy, rfl, rfl⟩ := hrel
    by_cases hz : x + 1 < y
    · have hzd : decide (1 < (y : Int) - (x : Int)) = true := decide_eq_true (by omega)
      obtain ⟨M, m1, m2⟩ : ∃ M : Nat, ((x : Int) + (y : Int)) / 2 = (M : Int) ∧ Hid (M = (x + y) / 2) := ⟨(x + y) / 2, by omega, rfl⟩
      have hM : x < M ∧ M < y := by have := m2.out; omega
      obtain ⟨hM1, hM2⟩ := hM
      have hS : M * M ≤ 281474976710656 * 281474976710656 := Nat.mul_le_mul (by omega) (by omega)
      obtain ⟨S, s1, s2⟩ : ∃ S : Nat, (M : Int) * (M : Int) = (S : Int) ∧ Hid (S = M * M) := ⟨M * M, (Int.natCast_mul _ _).symm, rfl⟩
      obtain ⟨P1, P0, p1, p2, p3⟩ : ∃ P1 P0 : Nat, (S : Int) / 18446744073709551616 = (P1 : Int) ∧ (S : Int) % 18446744073709551616 = (P0 : Int) ∧ Hid (P1 * 18446744073709551616 + P0 = M * M ∧ P0 < 18446744073709551616) := ⟨S / 18446744073709551616, S % 18446744073709551616, by omega, by omega, by rw [← s2.out]; exact ⟨by omega, by omega⟩⟩
      have hp0 : P0 < 18446744073709551616 := p3.out.2
      have hp1 : P1 ≤ 4294967296 := by have := p3.out.1; omega
      clear hS
      by_cases hc : P1 < H
      · have hcd : decide ((P1 : Int) < (H : Int)) = true := decide_eq_true (by omega)
        go_wp2_with (go_at_call 53; refine (product_any M M (by omega) (by omega) _).mono ?_; rintro e w' ⟨rfl, rfl⟩)
        go_round
        case rel => exact ⟨M, y, ⟨root_most _ _ (by have := p3.out; have := E3.out; omega), HX.out.2⟩, by omega, by omega, rfl, rfl⟩
        case measure => simp [intOf]; omega
      · have hcd : decide ((P1 : Int) < (H : Int)) = false := decide_eq_false (by omega)
        by_cases hc2 : P1 = H
        · have hcd2 : ((P1 : Int) == (H : Int)) = true := by rw [hc2]; simp
          have HC2 := Lib.hid hc2
          clear hc2
          by_cases hc3 : P0 ≤ Lo
          · have hcd3 : decide ((P0 : Int) ≤ (Lo : Int)) = true := decide_eq_true (by omega)
            go_wp2_with (go_at_call 53; refine (product_any M M (by omega) (by omega) _).mono ?_; rintro e w' ⟨rfl, rfl⟩)
            go_round
            case rel => exact ⟨M, y, ⟨root_most _ _ (by have := p3.out; have := E3.out; have := HC2.out; omega), HX.out.2⟩, by omega, by omega, rfl, rfl⟩
            case measure => simp [intOf]; omega
          · have hcd3 : decide ((P0 : Int) ≤ (Lo : Int)) = false := decide_eq_false (by omega)
            have hlt : root (A * 4294967296) < M := by
              apply Nat.lt_of_not_le
              intro hle
              have h8 := Nat.mul_le_mul hle hle
              have h9 := root_le (A * 4294967296)
              have := p3.out
              have := E3.out
              have := HC2.out
              omega
            have HLT := Lib.hid hlt
            clear hlt
            go_wp2_with (go_at_call 53; refine (product_any M M (by omega) (by omega) _).mono ?_; rintro e w' ⟨rfl, rfl⟩)
            go_round
            case rel => exact ⟨x, M, ⟨HX.out.1, HLT.out⟩, by omega, by omega, rfl, rfl⟩
            case measure => simp [intOf]; omega
        · have hcd2 : ((P1 : Int) == (H : Int)) = false := by simp; omega
          have hlt : root (A * 4294967296) < M := by
            apply Nat.lt_of_not_le
            intro hle
            have h8 := Nat.mul_le_mul hle hle
            have h9 := root_le (A * 4294967296)
            have := p3.out
            have := E3.out
            omega
          have HLT := Lib.hid hlt
          clear hlt hc2
          go_wp2_with (go_at_call 53; refine (product_any M M (by omega) (by omega) _).mono ?_; rintro e w' ⟨rfl, rfl⟩)
          go_round
          case rel => exact ⟨x, M, ⟨HX.out.1, HLT.out⟩, by omega, by omega, rfl, rfl⟩
          case measure => simp [intOf]; omega
    · have hzd : decide (1 < (y : Int) - (x : Int)) = false := decide_eq_false (by omega)
      go_wp2
      go_ret
      exact ⟨ret_int (by unfold sqrt; rw [if_neg (by omega), Int.toNat_natCast]; have := HX.out; omega), rfl⟩
theorem rsqrt_any (a : Int) (ha : -9223372036854775808 ≤ a) (ka : a ≤ 9223372036854775807) (w : World) :
    Calls Try.prog 39 #[.int .i64 a] w fun e w' => e = .returned (.int .i64 (sqrt a)) ∧ w = w' := by
  by_cases h : a < 1
  · go_enter Try.func39, Try.ntmps39
    go_wp2
    go_ret
    exact ⟨ret_int (by unfold sqrt; rw [if_pos (by omega)]), rfl⟩
  · obtain ⟨A, rfl⟩ : ∃ A : Nat, a = (A : Int) := ⟨a.toNat, by omega⟩
    exact rsqrt_high A (by omega) (by omega) w
end Go.Proofs.Ytddagmcmajjnfaa.Fx
