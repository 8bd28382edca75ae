/-
  The document's own answer for products: Product, in, Of, Mul. The conditions are that the numbers are of their kinds.
-/
import Derived.Test.YtddagmcmajjnfaaFixSqrt
namespace Go.Proofs.Ytddagmcmajjnfaa.Fx
open Go Go.RowKit
set_option linter.unusedVariables false
theorem maskN (a : Nat) (ha : a < 18446744073709551616) : bits .and .u64 (a : Int) 4294967295 = ((a % 4294967296 : Nat) : Int) := Mul64.maskN a ha
theorem product_eqs (x y : Nat) (hx : x < 18446744073709551616) (hy : y < 18446744073709551616) :
    ∃ a b c d P Q R S M E : Nat, (x : Int) / 4294967296 = (a : Int) ∧ bits .and .u64 (x : Int) 4294967295 = (b : Int) ∧ (y : Int) / 4294967296 = (c : Int) ∧ bits .and .u64 (y : Int) 4294967295 = (d : Int)
      ∧ (b : Int) * (d : Int) = (S : Int) ∧ (a : Int) * (d : Int) = (Q : Int) ∧ (b : Int) * (c : Int) = (R : Int) ∧ (a : Int) * (c : Int) = (P : Int)
      ∧ bits .and .u64 ((Q : Int) + (S : Int) / 4294967296) 4294967295 = (M : Int) ∧ bits .and .u64 (S : Int) 4294967295 = (E : Int)
      ∧ S ≤ 18446744065119617025 ∧ Q ≤ 18446744065119617025 ∧ R ≤ 18446744065119617025 ∧ P ≤ 18446744065119617025 ∧ M ≤ 4294967295 ∧ E ≤ 4294967295
      ∧ P + (Q + S / 4294967296) / 4294967296 + (R + M) / 4294967296 ≤ 18446744073709551615
      ∧ Hid (x * y / 18446744073709551616 = P + (Q + S / 4294967296) / 4294967296 + (R + M) / 4294967296 ∧ x * y % 18446744073709551616 = ((R + M) * 4294967296 + E) % 18446744073709551616 ∧ M = (Q + S / 4294967296) % 4294967296 ∧ E = S % 4294967296) := by
  have hS : x % 4294967296 * (y % 4294967296) ≤ 4294967295 * 4294967295 := Nat.mul_le_mul (by omega) (by omega)
  have hQ : x / 4294967296 * (y % 4294967296) ≤ 4294967295 * 4294967295 := Nat.mul_le_mul (by omega) (by omega)
  have hR : x % 4294967296 * (y / 4294967296) ≤ 4294967295 * 4294967295 := Nat.mul_le_mul (by omega) (by omega)
  have hP : x / 4294967296 * (y / 4294967296) ≤ 4294967295 * 4294967295 := Nat.mul_le_mul (by omega) (by omega)
  have e : x * y = x / 4294967296 * (y / 4294967296) * 18446744073709551616 + (x / 4294967296 * (y % 4294967296) + x % 4294967296 * (y / 4294967296)) * 4294967296 + x % 4294967296 * (y % 4294967296) := by
    have ex : x = x / 4294967296 * 4294967296 + x % 4294967296 := by omega
    have ey : y = y / 4294967296 * 4294967296 + y % 4294967296 := by omega
    generalize x / 4294967296 = a at *
    generalize x % 4294967296 = b at *
    generalize y / 4294967296 = c at *
    generalize y % 4294967296 = d at *
    rw [ex, ey]
    simp only [Nat.mul_add, Nat.add_mul]
    rw [show a * 4294967296 * (c * 4294967296) = a * c * 18446744073709551616 by rw [Nat.mul_mul_mul_comm], show b * (c * 4294967296) = b * c * 4294967296 by rw [Nat.mul_assoc], Nat.mul_right_comm a 4294967296 d]
    omega
  refine ⟨x / 4294967296, x % 4294967296, y / 4294967296, y % 4294967296, x / 4294967296 * (y / 4294967296), x / 4294967296 * (y % 4294967296), x % 4294967296 * (y / 4294967296), x % 4294967296 * (y % 4294967296), (x / 4294967296 * (y % 4294967296) + x % 4294967296 * (y % 4294967296) / 4294967296) % 4294967296, x % 4294967296 * (y % 4294967296) % 4294967296, rfl, maskN x hx, rfl, maskN y hy, (Int.natCast_mul _ _).symm, (Int.natCast_mul _ _).symm, (Int.natCast_mul _ _).symm, (Int.natCast_mul _ _).symm, ?_, ?_, hS, hQ, hR, hP, ?_, ?_, ?_, ?_⟩
  · rw [← maskN _ (by omega)]
    rfl
  · exact maskN _ (by omega)
  · omega
  · omega
  · have : x * y ≤ 18446744073709551615 * 18446744073709551615 := Nat.mul_le_mul (by omega) (by omega)
    omega
  · show _ ∧ _
    have : x * y ≤ 18446744073709551615 * 18446744073709551615 := Nat.mul_le_mul (by omega) (by omega)
    generalize x * y = N at *
    refine ⟨by omega, by omega, rfl, rfl⟩
set_option maxHeartbeats 400000 in
theorem product_any (x y : Nat) (hx : x < 18446744073709551616) (hy : y < 18446744073709551616) (w : World) :
    Calls Try.prog 53 #[.int .u64 (x : Int), .int .u64 (y : Int)] w fun e w' => e = .returned (.tuple #[.int .u64 ((x * y / 18446744073709551616 : Nat) : Int), .int .u64 ((x * y % 18446744073709551616 : Nat) : Int)]) ∧ w = w' := by
  obtain ⟨a, b, c, d, P, Q, R, S, M, E, e1, e2, e3, e4, e5, e6, e7, e8, e9, e10, k1, k2, k3, k4, k5, k6, k7, HE⟩ := product_eqs x y hx hy
  go_enter Try.func53, Try.ntmps53
  go_wp2
  go_ret2
  exact ⟨ret_two (a := (P : Int) + ((Q : Int) + (S : Int) / 4294967296) / 4294967296 + ((R : Int) + (M : Int)) / 4294967296) (b := IntKind.u64.wrap (IntKind.u64.wrap (((R : Int) + (M : Int)) * 4294967296) + (E : Int))) (by have := HE.out; omega) (by have := HE.out; rw [IntKind.wrap_u64, IntKind.wrap_u64]; omega), rfl⟩
theorem in_any (hi lo : Int) (below rest : Bool) (h0 : 0 ≤ hi) (h1 : hi ≤ 18446744073709551614) (l0 : 0 ≤ lo) (l1 : lo ≤ 18446744073709551615) (w : World) :
    Calls Try.prog 58 #[.int .u64 hi, .int .u64 lo, .bool below, .bool rest] w fun e w' => e = .returned (.int .i64 (signed below hi.toNat lo.toNat rest)) ∧ w = w' := by
  by_cases h : hi = 0
  · subst h
    cases below
    · by_cases hl : 9223372036854775807 < lo
      · go_enter Try.func58, Try.ntmps58
        go_wp2
        go_ret
        exact ⟨ret_int (by unfold signed; rw [if_pos rfl, if_pos (by omega)]), rfl⟩
      · go_enter Try.func58, Try.ntmps58
        go_wp2
        go_ret
        exact ⟨ret_int (by unfold signed; rw [if_pos rfl, if_neg (by omega)]; omega), rfl⟩
    · cases rest
      · by_cases hl : 9223372036854775808 < lo
        · go_enter Try.func58, Try.ntmps58
          go_wp2
          go_ret
          exact ⟨ret_int (by unfold signed; rw [if_neg (by decide), if_pos (by omega)]), rfl⟩
        · go_enter Try.func58, Try.ntmps58
          go_wp2
          go_ret
          exact ⟨ret_int (a := wrap64 (IntKind.u64.wrap (-lo))) (by unfold signed; rw [if_neg (by decide), if_neg (c := false = true) (by decide), IntKind.wrap_u64]; unfold wrap64; split <;> omega), rfl⟩
      · by_cases hl : lo = 18446744073709551615
        · subst hl
          go_enter Try.func58, Try.ntmps58
          go_wp2
          go_ret
          exact ⟨ret_int (by unfold signed; rw [if_neg (by decide), if_pos (by omega)]), rfl⟩
        · by_cases hl2 : 9223372036854775808 < lo + 1
          · go_enter Try.func58, Try.ntmps58
            go_wp2
            go_ret
            exact ⟨ret_int (by unfold signed; rw [if_neg (by decide), if_pos (by omega)]), rfl⟩
          · go_enter Try.func58, Try.ntmps58
            go_wp2
            go_ret
            exact ⟨ret_int (a := wrap64 (IntKind.u64.wrap (-(lo + 1)))) (by unfold signed; rw [if_neg (by decide), if_neg (by omega), if_pos rfl, IntKind.wrap_u64]; unfold wrap64; omega), rfl⟩
  · have hp : 0 < hi := by omega
    clear h
    cases below
    · go_enter Try.func58, Try.ntmps58
      go_wp2
      go_ret
      exact ⟨ret_int (by unfold signed; rw [if_pos rfl, if_pos (by omega)]), rfl⟩
    · cases rest
      · go_enter Try.func58, Try.ntmps58
        go_wp2
        go_ret
        exact ⟨ret_int (by unfold signed; rw [if_neg (by decide), if_pos (by omega)]), rfl⟩
      · by_cases hl : lo = 18446744073709551615
        · subst hl
          go_enter Try.func58, Try.ntmps58
          go_wp2
          go_ret
          exact ⟨ret_int (by unfold signed; rw [if_neg (by decide), if_pos (by omega)]), rfl⟩
        · go_enter Try.func58, Try.ntmps58
          go_wp2
          go_ret
          exact ⟨ret_int (by unfold signed; rw [if_neg (by decide), if_pos (by omega)]), rfl⟩
theorem of_code (a : Int) (ha : isI a) : signed (decide (a < 0)) ((a.natAbs : Int) * 4294967296 / 18446744073709551616).toNat ((a.natAbs : Int) * 4294967296 % 18446744073709551616).toNat false = whole a := by
  unfold isI at ha
  unfold whole
  by_cases h : a < 0
  · rw [decide_eq_true h, signed_down (a.natAbs * 4294967296) _ _ _ (by omega) (by omega)]
    congr 1
    simp only [Bool.false_eq_true, if_false]
    omega
  · rw [decide_eq_false h, signed_up (a.natAbs * 4294967296) _ _ _ (by omega) (by omega)]
    congr 1
    omega
theorem rmul_code (X Y : Nat) (hX : X ≤ 9223372036854775808) (hY : Y ≤ 9223372036854775808) :
    (0 ≤ (X : Int) * (Y : Int) / 18446744073709551616 / 4294967296 ∧ (X : Int) * (Y : Int) / 18446744073709551616 / 4294967296 ≤ 18446744073709551614)
    ∧ (0 ≤ IntKind.u64.wrap (IntKind.u64.wrap ((X : Int) * (Y : Int) / 18446744073709551616 * 4294967296) + (X : Int) * (Y : Int) % 18446744073709551616 / 4294967296) ∧ IntKind.u64.wrap (IntKind.u64.wrap ((X : Int) * (Y : Int) / 18446744073709551616 * 4294967296) + (X : Int) * (Y : Int) % 18446744073709551616 / 4294967296) ≤ 18446744073709551615)
    ∧ ((X : Int) * (Y : Int) / 18446744073709551616 / 4294967296).toNat = X * Y / 4294967296 / 18446744073709551616
    ∧ (IntKind.u64.wrap (IntKind.u64.wrap ((X : Int) * (Y : Int) / 18446744073709551616 * 4294967296) + (X : Int) * (Y : Int) % 18446744073709551616 / 4294967296)).toNat = X * Y / 4294967296 % 18446744073709551616
    ∧ (bits .and .u64 ((X : Int) * (Y : Int) % 18446744073709551616) 4294967295 != 0) = decide (X * Y % 4294967296 ≠ 0) := by
  have hN : X * Y ≤ 9223372036854775808 * 9223372036854775808 := Nat.mul_le_mul hX hY
  rw [← Int.natCast_mul]
  generalize X * Y = N at *
  have e : bits .and .u64 ((N : Int) % 18446744073709551616) 4294967295 = ((N % 18446744073709551616 % 4294967296 : Nat) : Int) := by
    rw [← maskN _ (by omega)]
    rfl
  rw [e, IntKind.wrap_u64, IntKind.wrap_u64]
  refine ⟨by omega, by omega, by omega, by omega, ?_⟩
  rw [Bool.eq_iff_iff]
  simp only [bne_iff_ne, ne_eq, decide_eq_true_eq]
  omega
theorem unlike_eq (a b : Int) : (!(decide (a < 0) == decide (b < 0))) = unlike a b := by
  unfold unlike
  by_cases h : a < 0 <;> by_cases k : b < 0 <;> simp [h, k]
set_option maxHeartbeats 400000 in
theorem rmul_any (a b : Int) (ha : -9223372036854775808 ≤ a) (ka : a ≤ 9223372036854775807) (hb : -9223372036854775808 ≤ b) (kb : b ≤ 9223372036854775807) (w : World) :
    Calls Try.prog 48 #[.int .i64 a, .int .i64 b] w fun e w' => e = .returned (.int .i64 (mul a b)) ∧ w = w' := by
  go_enter Try.func48, Try.ntmps48
  go_wp2_with (first | (go_at_call 57; refine (rsize_any _ (by omega) (by omega) _).mono ?_; rintro e w' ⟨rfl, rfl⟩) | (go_at_call 53; refine (product_any a.natAbs b.natAbs (by omega) (by omega) _).mono ?_; rintro e w' ⟨rfl, rfl⟩))
  have hk := rmul_code a.natAbs b.natAbs (by omega) (by omega)
  have hs := mul_sizes a b _ _ _ _ (unlike_eq a b) hk.2.2.1 hk.2.2.2.1 hk.2.2.2.2
  refine (in_any _ _ _ _ hk.1.1 hk.1.2 hk.2.1.1 hk.2.1.2 _).mono ?_
  rintro e w' ⟨rfl, rfl⟩
  have HS := Lib.hid hs
  clear hk hs
  go_wp2
  go_ret
  exact ⟨ret_int HS.out, rfl⟩
end Go.Proofs.Ytddagmcmajjnfaa.Fx
