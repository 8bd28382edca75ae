/-
  The walk of ChanceNumbers: the draws of a picture, one by one, and the examples. No condition.
-/
import Derived.Test.YtaeehpenikmabaaChanceD
namespace Go.Proofs.Ytaeehpenikmabaa.Fx
open Go Go.RowKit
set_option linter.unusedVariables false
/-! ### How many of the draws are in the lower half, and their sum, each by itself -/
def lows (p : Nat) : Nat → Nat
  | 0 => 0
  | s + 1 => lows p s + (1 - draw 7 (p : Int) (s : Int) 0 / 2147483648)
def sums (p : Nat) : Nat → Nat
  | 0 => 0
  | s + 1 => sums p s + draw 7 (p : Int) (s : Int) 0 / 1024
def allLows : Nat → Nat
  | 0 => 0
  | p + 1 => allLows p + lows p 16
def allSums : Nat → Nat
  | 0 => 0
  | p + 1 => allSums p + sums p 16
theorem lows_next (P Q : Nat) : lows P (Q + 1) = lows P Q + (1 - draw 7 (P : Int) (Q : Int) 0 / 2147483648) := by
  rw [lows.eq_2]
theorem sums_next (P Q : Nat) : sums P (Q + 1) = sums P Q + draw 7 (P : Int) (Q : Int) 0 / 1024 := by
  rw [sums.eq_2]
theorem row_two (p s : Nat) : row p s = lows p s * 18446744073709551616 + sums p s := by
  induction s with
  | zero =>
    rw [row, lows, sums]
  | succ s ih =>
    rw [row, lows, sums, ih, one]
    omega
theorem rows_two (p : Nat) : rows p = allLows p * 18446744073709551616 + allSums p := by
  induction p with
  | zero =>
    rw [rows, allLows, allSums]
  | succ p ih =>
    rw [rows, allLows, allSums, ih, row_two]
    omega
theorem lows_few (p s : Nat) : lows p s ≤ s := by
  induction s with
  | zero => exact Nat.le_refl _
  | succ s ih =>
    rw [lows]
    omega
theorem sums_few (p s : Nat) : sums p s ≤ s * 4194304 := by
  induction s with
  | zero => exact Nat.le_refl _
  | succ s ih =>
    have := draw_below 7 (p : Int) (s : Int) 0
    rw [sums]
    omega
theorem allLows_few (p : Nat) : allLows p ≤ p * 16 := by
  induction p with
  | zero => exact Nat.le_refl _
  | succ p ih =>
    have := lows_few p 16
    rw [allLows]
    omega
theorem allSums_few (p : Nat) : allSums p ≤ p * 67108864 := by
  induction p with
  | zero => exact Nat.le_refl _
  | succ p ih =>
    have := sums_few p 16
    rw [allSums]
    omega
theorem spread : allLows 64 = 520 ∧ allSums 64 = 2170379258 := by
  have h := rows_two 64
  have k := allSums_few 64
  rw [rows_all] at h
  omega
theorem draw_seven (P Q : Nat) (hP : P ≤ 64) (hQ : Q ≤ 16) (W w : World) (hb : Below W.heap.size W w) :
    Calls Try.prog 8 #[.int .u64 7, .int .i64 (P : Int), .int .i64 (Q : Int), .int .i64 0] w fun e w' => e = .returned (.int .i64 (draw 7 (P : Int) (Q : Int) 0 : Nat)) ∧ Below W.heap.size W w' :=
  draw_on 7 (P : Int) (Q : Int) 0 (by omega) (by omega) (by omega) (by omega) (by omega) (by omega) (by omega) W w hb
theorem draw_ends : ∃ E : Nat, (∀ W w : World, Below W.heap.size W w → Calls Try.prog 8 #[.int .u64 18446744073709551615, .int .i64 (-1), .int .i64 (-9223372036854775808), .int .i64 9223372036854775807] w fun e w' => e = .returned (.int .i64 (E : Int)) ∧ Below W.heap.size W w')
    ∧ ∀ w : World, Calls Try.prog 9 #[.int .u64 18446744073709551615, .int .i64 (-1), .int .i64 (-9223372036854775808), .int .i64 9223372036854775807] w fun e w' => e = .returned (.int .i64 (E : Int)) ∧ w = w' :=
  ⟨draw 18446744073709551615 (-1) (-9223372036854775808) 9223372036854775807,
    fun W w hb => draw_on 18446744073709551615 (-1) (-9223372036854775808) 9223372036854775807 (by omega) (by omega) (by omega) (by omega) (by omega) (by omega) (by omega) W w hb,
    fun w => rdraw_any 18446744073709551615 (-1) (-9223372036854775808) 9223372036854775807 (by omega) (by omega) (by omega) (by omega) (by omega) (by omega) (by omega) w⟩
set_option maxRecDepth 100000 in
set_option maxHeartbeats 4000000 in
theorem numbers_law (w : World) :
    Calls Try.prog 3 #[] w fun e w' => e = .returned (.bool true) ∧ Below w.heap.size w w' := by
  have hbl := Below.refl w.heap.size w
  go_enter Try.func3, Try.ntmps3
  go_wp2
  go_loopw [1, 2, 3] (fun l s p wr => ∃ P L S : Nat, P ≤ 64 ∧ Hid (L = allLows P ∧ S = allSums P) ∧ L ≤ P * 16 ∧ S ≤ P * 67108864 ∧ l = .int .i64 L ∧ s = .int .i64 S ∧ p = .int .i64 P ∧ Below w.heap.size w wr) (fun _ _ p _ => 64 - (intOf p).toNat)
  case atStart => exact ⟨0, 0, 0, by omega, ⟨rfl, rfl⟩, by omega, by omega, rfl, rfl, rfl, hbl⟩
  case round =>
    clear hbl
    obtain ⟨P, L, S, hP, HE, hL, hS, rfl, rfl, rfl, hbl⟩ := hrel
    obtain ⟨wo, ewo⟩ : ∃ wo : World, wo = wr := ⟨_, rfl⟩
    subst ewo
    by_cases hz : P = 64
    · subst hz
      have e1 := spread.1
      have e2 := spread.2
      rw [← HE.out.1] at e1
      rw [← HE.out.2] at e2
      clear HE hL hS
      subst e1 e2
      obtain ⟨E, HA, HB⟩ := draw_ends
      have HA := Lib.hid HA
      have HB := Lib.hid HB
      have t1 : ((E : Int) == (E : Int)) = true := by simp
      clear hP
      go_wp2_with (first | (go_at_call 8; refine (HA.out w _ hbl).mono ?_; clear hbl; rintro e w1 ⟨rfl, hbl⟩) | (go_at_call 9; refine (HB.out _).mono ?_; rintro e w' ⟨rfl, rfl⟩) | (go_at_call 10; refine (awake_on w _ hbl).mono ?_; clear hbl; rintro e w1 ⟨rfl, hbl⟩))
      go_ret
      exact ⟨rfl, hbl⟩
    · have hd : decide ((P : Int) < 64) = true := decide_eq_true (by omega)
      go_wp2
      go_loopw [1, 2, 4] (fun l s q wr => ∃ Q L1 S1 : Nat, Q ≤ 16 ∧ Hid (L1 = lows P Q ∧ S1 = sums P Q) ∧ L1 ≤ Q ∧ S1 ≤ Q * 4194304 ∧ l = .int .i64 ((L : Int) + (L1 : Int)) ∧ s = .int .i64 ((S : Int) + (S1 : Int)) ∧ q = .int .i64 Q ∧ Below w.heap.size w wr) (fun _ _ q _ => 16 - (intOf q).toNat)
      case atStart => exact ⟨0, 0, 0, by omega, ⟨rfl, rfl⟩, by omega, by omega, by go_num, by go_num, rfl, hbl⟩
      case round =>
        clear hbl hd
        obtain ⟨Q, L1, S1, hQ, HI, hL1, hS1, rfl, rfl, rfl, hbl⟩ := hrel
        by_cases hy : Q = 16
        · subst hy
          have hd : decide ((16 : Int) < 16) = false := decide_eq_false (by omega)
          go_wp2
          go_roundw
          case rel => exact ⟨P + 1, L + L1, S + S1, by omega, ⟨by rw [allLows, HE.out.1, HI.out.1], by rw [allSums, HE.out.2, HI.out.2]⟩, by omega, by omega, by go_num, by go_num, by go_num, hbl⟩
          case measure => simp [intOf]; omega
        · have hd : decide ((Q : Int) < 16) = true := decide_eq_true (by omega)
          have hQ' : Q ≤ 15 := by omega
          have bD := draw_below 7 (P : Int) (Q : Int) 0
          have HC := Lib.hid (draw_seven P Q hP (by omega) w)
          have HL : Hid (lows P (Q + 1) = lows P Q + (1 - draw 7 (P : Int) (Q : Int) 0 / 2147483648)) := lows_next P Q
          have HS : Hid (sums P (Q + 1) = sums P Q + draw 7 (P : Int) (Q : Int) 0 / 1024) := sums_next P Q
          generalize draw 7 (P : Int) (Q : Int) 0 = D at *
          have t1 : decide ((D : Int) < 0) = false := decide_eq_false (by omega)
          have t2 : decide (4294967296 ≤ (D : Int)) = false := decide_eq_false (by omega)
          obtain ⟨R, hR, HR, bR⟩ : ∃ R : Nat, (D : Int) / 1024 = (R : Int) ∧ Hid (R = D / 1024) ∧ R ≤ 4194303 := ⟨D / 1024, by omega, rfl, by omega⟩
          by_cases hlow : D < 2147483648
          · have t3 : decide ((D : Int) < 2147483648) = true := decide_eq_true (by omega)
            go_wp2_with (go_at_call 8; refine (HC.out _ hbl).mono ?_; clear hbl; rintro e w1 ⟨rfl, hbl⟩)
            go_roundw
            case rel => exact ⟨Q + 1, L1 + 1, S1 + R, by omega, ⟨by rw [HL.out, HI.out.1]; omega, by rw [HS.out, HI.out.2, HR.out]⟩, by omega, by omega, by go_num, by go_num, by go_num, hbl⟩
            case measure => simp [intOf]; omega
          · have t3 : decide ((D : Int) < 2147483648) = false := decide_eq_false (by omega)
            go_wp2_with (go_at_call 8; refine (HC.out _ hbl).mono ?_; clear hbl; rintro e w1 ⟨rfl, hbl⟩)
            go_roundw
            case rel => exact ⟨Q + 1, L1, S1 + R, by omega, ⟨by rw [HL.out, HI.out.1]; omega, by rw [HS.out, HI.out.2, HR.out]⟩, by omega, by omega, by go_num, by go_num, by go_num, hbl⟩
            case measure => simp [intOf]; omega
end Go.Proofs.Ytaeehpenikmabaa.Fx
