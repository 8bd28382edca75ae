/-
  bits.Div64 where the upper limb is above 0: the school method in halves, walked. The conditions stand in the theorem.
-/
import Derived.Deep.CutBlock
import Derived.Deep.DeepCutAuto
import Derived.Test.YtddagmcmajjnfaaFixDivA
namespace Go.Proofs.Ytddagmcmajjnfaa.Fx
open Go Go.RowKit
set_option linter.unusedVariables false
set_option maxHeartbeats 4000000 in
set_option maxRecDepth 100000 in
theorem div64_high (hi lo y : Nat) (hh : 0 < hi) (hl : lo < 18446744073709551616) (hy : hi < y) (hy2 : y < 18446744073709551616) (w : World) :
    Calls Try.prog 52 #[.int .u64 (hi : Int), .int .u64 (lo : Int), .int .u64 (y : Int)] w fun e w' => e = .returned (.tuple #[.int .u64 (((hi * 18446744073709551616 + lo) / y : Nat) : Int), .int .u64 (((hi * 18446744073709551616 + lo) % y : Nat) : Int)]) ∧ Below w.heap.size w w' := by
  obtain ⟨hs1, hs2, hs3⟩ := lz_spec (y := y) (by omega) hy2
  obtain ⟨s, hs⟩ : ∃ s, lz y = s := ⟨_, rfl⟩
  rw [hs] at hs1 hs2 hs3
  obtain ⟨Y, Y1, Y0, U, L, L1, L0, e1, e2, e3, e4, e5, e6, e7, k1, k2, k3, k4, k5, k6, k7, k8, k9⟩ := head_eqs hl hy hs3 hs2 hs1
  obtain ⟨Q, P, R, q1, q2, q3, q4, q5⟩ := quo_eqs k3
  have HYs := Lib.hid k1
  have HY := Lib.hid k2
  have HP := Lib.hid k3
  have HL := Lib.hid k4
  have HU := Lib.hid k6
  have HI0 := Lib.hid q4
  have hY1 : 2147483648 ≤ Y1 ∧ Y1 < 4294967296 := ⟨HP.out.1, HP.out.2.1⟩
  have hY0 : Y0 < 4294967296 := HP.out.2.2.1
  have hQ : Q ≤ 4294967297 := HI0.out.2.2.2
  have hR : R < 4294967296 := HI0.out.2.2.1
  clear k1 k2 k3 k4 k6 q4 hs2 hs3
  go_enter Try.func52, Try.ntmps52
  go_upto_block 0 with (go_at_call 59; refine (lz_any _ (by omega) _).mono ?_; rintro e w' ⟨rfl, rfl⟩; rw [hs])
  go_cut [15, 16] from 67 to 85 (fun q r wx => ∃ T : Nat, Hid (T = (U * 4294967296 + L1) / (Y1 * 4294967296 + Y0)) ∧ q = .int .u64 T ∧ w = wx)
  case first =>
    go_wp2_with fail
    go_loop [15, 16] (fun q r => ∃ A B : Nat, Hid (Inv U L1 Y1 Y0 A B) ∧ q = .int .u64 A ∧ r = .int .u64 B) (fun q _ => (intOf q).toNat)
    case atStart => exact ⟨Q, R, HI0, rfl, rfl⟩
    case round =>
      obtain ⟨A, B, HI, rfl, rfl⟩ := hrel
      have hB : B < 4294967296 := HI.out.2.2.1
      have hA : A ≤ 4294967297 := HI.out.2.2.2
      have hV : L1 < 4294967296 := HP.out.2.2.2.1
      by_cases hc : 4294967296 ≤ A
      · have HC : Hid (4294967296 ≤ A ∨ 4294967296 * B + L1 < A * Y0) := .inl hc
        have hcd : decide ((4294967296 : Int) ≤ (A : Int)) = true := decide_eq_true (by omega)
        obtain ⟨T, eT⟩ : ∃ k : Nat, (A : Int) - 1 = (k : Int) := ⟨A - 1, by omega⟩
        by_cases hr : B + Y1 < 4294967296
        · have hrd : decide ((4294967296 : Int) ≤ (B : Int) + (Y1 : Int)) = false := decide_eq_false (by omega)
          go_wp2
          go_round
          case rel => exact ⟨T, B + Y1, by have := inv_round HP.out HI.out HC.out hr; rwa [show A - 1 = T by omega] at this, rfl, by go_num⟩
          case measure => simp [intOf]; omega
        · have HT : Hid (T = (U * 4294967296 + L1) / (Y1 * 4294967296 + Y0)) := by have := inv_break HP.out HI.out HC.out (by omega); rwa [show A - 1 = T by omega] at this
          have hrd : decide ((4294967296 : Int) ≤ (B : Int) + (Y1 : Int)) = true := decide_eq_true (by omega)
          go_wp2
          go_meet
          case rel => exact ⟨T, HT, rfl, rfl⟩
      · obtain ⟨P, eP⟩ : ∃ P : Nat, (A : Int) * (Y0 : Int) = (P : Int) := ⟨A * Y0, by rw [Int.natCast_mul]⟩
        have hcd : decide ((4294967296 : Int) ≤ (A : Int)) = false := decide_eq_false (by omega)
        have hP : P ≤ 18446744073709551615 := by
          have := inv_fits HP.out (q := A) (by omega)
          have e : P = A * Y0 := by rw [← Int.natCast_mul] at eP; omega
          omega
        by_cases hc2 : 4294967296 * B + L1 < P
        · have HC : Hid (4294967296 ≤ A ∨ 4294967296 * B + L1 < A * Y0) := .inr (by rw [← Int.natCast_mul] at eP; omega)
          have hpd : decide ((4294967296 : Int) * (B : Int) + (L1 : Int) < (P : Int)) = true := decide_eq_true (by omega)
          have hA1 : 1 ≤ A := inv_pos HP.out HI.out HC.out
          obtain ⟨T, eT⟩ : ∃ k : Nat, (A : Int) - 1 = (k : Int) := ⟨A - 1, by omega⟩
          by_cases hr : B + Y1 < 4294967296
          · have hrd : decide ((4294967296 : Int) ≤ (B : Int) + (Y1 : Int)) = false := decide_eq_false (by omega)
            go_wp2
            go_round
            case rel => exact ⟨T, B + Y1, by have := inv_round HP.out HI.out HC.out hr; rwa [show A - 1 = T by omega] at this, rfl, by go_num⟩
            case measure => simp [intOf]; omega
          · have HT : Hid (T = (U * 4294967296 + L1) / (Y1 * 4294967296 + Y0)) := by have := inv_break HP.out HI.out HC.out (by omega); rwa [show A - 1 = T by omega] at this
            have hrd : decide ((4294967296 : Int) ≤ (B : Int) + (Y1 : Int)) = true := decide_eq_true (by omega)
            go_wp2
            go_meet
            case rel => exact ⟨T, HT, rfl, rfl⟩
        · have HT : Hid (A = (U * 4294967296 + L1) / (Y1 * 4294967296 + Y0)) := inv_done HP.out HI.out (by rw [← Int.natCast_mul] at eP; omega)
          have hpd : decide ((4294967296 : Int) * (B : Int) + (L1 : Int) < (P : Int)) = false := decide_eq_false (by omega)
          go_wp2
          go_meet
          case rel => exact ⟨A, HT, rfl, rfl⟩
  case rest =>
    obtain ⟨T, HT, rfl, rfl⟩ := hcut
    obtain ⟨F1, F2, F3, U2, f1, f2, f3, f4, f5, f6, f7, f8, f9, f10⟩ := rest_eqs HP.out HY.out HT.out
    have hp2 : Pre U2 L0 Y1 Y0 := by
      have a := HP.out
      have b := HY.out
      unfold Pre at a ⊢
      omega
    have HP2 := Lib.hid hp2
    have F5 := Lib.hid f5
    have F6 := Lib.hid f6
    clear q1 q2 q3 q5 hQ hR
    obtain ⟨Q2, P2, R2, q1, q2, q3, q4, q5⟩ := quo_eqs hp2
    have q6 : U2 ≤ 18446744073709551615 := by omega
    have Q4 := Lib.hid q4
    clear q4 hp2 f5 f6
    have hQ2 : Q2 ≤ 4294967297 := Q4.out.2.2.2
    have hR2 : R2 < 4294967296 := Q4.out.2.2.1
    go_upto_block 2 with fail
    go_cut [18, 16] from 102 to 120 (fun q r wx => ∃ T : Nat, Hid (T = (U2 * 4294967296 + L0) / (Y1 * 4294967296 + Y0)) ∧ q = .int .u64 T ∧ w = wx)
    case first =>
      go_wp2_with fail
      go_loop [18, 16] (fun q r => ∃ A B : Nat, Hid (Inv U2 L0 Y1 Y0 A B) ∧ q = .int .u64 A ∧ r = .int .u64 B) (fun q _ => (intOf q).toNat)
      case atStart => exact ⟨Q2, R2, Q4, rfl, rfl⟩
      case round =>
        obtain ⟨A, B, HI, rfl, rfl⟩ := hrel
        have hB : B < 4294967296 := HI.out.2.2.1
        have hA : A ≤ 4294967297 := HI.out.2.2.2
        have hV : L0 < 4294967296 := HP2.out.2.2.2.1
        by_cases hc : 4294967296 ≤ A
        · have HC : Hid (4294967296 ≤ A ∨ 4294967296 * B + L0 < A * Y0) := .inl hc
          have hcd : decide ((4294967296 : Int) ≤ (A : Int)) = true := decide_eq_true (by omega)
          obtain ⟨T, eT⟩ : ∃ k : Nat, (A : Int) - 1 = (k : Int) := ⟨A - 1, by omega⟩
          by_cases hr : B + Y1 < 4294967296
          · have hrd : decide ((4294967296 : Int) ≤ (B : Int) + (Y1 : Int)) = false := decide_eq_false (by omega)
            go_wp2
            go_round
            case rel => exact ⟨T, B + Y1, by have := inv_round HP2.out HI.out HC.out hr; rwa [show A - 1 = T by omega] at this, rfl, by go_num⟩
            case measure => simp [intOf]; omega
          · have HT : Hid (T = (U2 * 4294967296 + L0) / (Y1 * 4294967296 + Y0)) := by have := inv_break HP2.out HI.out HC.out (by omega); rwa [show A - 1 = T by omega] at this
            have hrd : decide ((4294967296 : Int) ≤ (B : Int) + (Y1 : Int)) = true := decide_eq_true (by omega)
            go_wp2
            go_meet
            case rel => exact ⟨T, HT, rfl, rfl⟩
        · obtain ⟨P, eP⟩ : ∃ P : Nat, (A : Int) * (Y0 : Int) = (P : Int) := ⟨A * Y0, by rw [Int.natCast_mul]⟩
          have hcd : decide ((4294967296 : Int) ≤ (A : Int)) = false := decide_eq_false (by omega)
          have hP : P ≤ 18446744073709551615 := by
            have := inv_fits HP2.out (q := A) (by omega)
            have e : P = A * Y0 := by rw [← Int.natCast_mul] at eP; omega
            omega
          by_cases hc2 : 4294967296 * B + L0 < P
          · have HC : Hid (4294967296 ≤ A ∨ 4294967296 * B + L0 < A * Y0) := .inr (by rw [← Int.natCast_mul] at eP; omega)
            have hpd : decide ((4294967296 : Int) * (B : Int) + (L0 : Int) < (P : Int)) = true := decide_eq_true (by omega)
            have hA1 : 1 ≤ A := inv_pos HP2.out HI.out HC.out
            obtain ⟨T, eT⟩ : ∃ k : Nat, (A : Int) - 1 = (k : Int) := ⟨A - 1, by omega⟩
            by_cases hr : B + Y1 < 4294967296
            · have hrd : decide ((4294967296 : Int) ≤ (B : Int) + (Y1 : Int)) = false := decide_eq_false (by omega)
              go_wp2
              go_round
              case rel => exact ⟨T, B + Y1, by have := inv_round HP2.out HI.out HC.out hr; rwa [show A - 1 = T by omega] at this, rfl, by go_num⟩
              case measure => simp [intOf]; omega
            · have HT : Hid (T = (U2 * 4294967296 + L0) / (Y1 * 4294967296 + Y0)) := by have := inv_break HP2.out HI.out HC.out (by omega); rwa [show A - 1 = T by omega] at this
              have hrd : decide ((4294967296 : Int) ≤ (B : Int) + (Y1 : Int)) = true := decide_eq_true (by omega)
              go_wp2
              go_meet
              case rel => exact ⟨T, HT, rfl, rfl⟩
          · have HT : Hid (A = (U2 * 4294967296 + L0) / (Y1 * 4294967296 + Y0)) := inv_done HP2.out HI.out (by rw [← Int.natCast_mul] at eP; omega)
            have hpd : decide ((4294967296 : Int) * (B : Int) + (L0 : Int) < (P : Int)) = false := decide_eq_false (by omega)
            go_wp2
            go_meet
            case rel => exact ⟨A, HT, rfl, rfl⟩
    case rest =>
      obtain ⟨T2, HT2, rfl, rfl⟩ := hcut
      obtain ⟨G, g1, g2, g3⟩ := end_eqs f7 (quo_half HP2.out HT2.out).1
      have hz0 := quo_half HP2.out HT2.out
      obtain ⟨J1, J2, J3, RR, j1, j2, j3, j4, j5, j6, j7, j8, j9, j10⟩ := rest_eqs HP2.out HY.out HT2.out
      have J5 := Lib.hid j5
      have J6 := Lib.hid j6
      have jk : RR < 18446744073709551616 := by omega
      clear j5 j6 hz0
      obtain ⟨REM, je, jr⟩ : ∃ k : Nat, (RR : Int) / 2 ^ s = (k : Int) ∧ Hid (k = RR / 2 ^ s) := ⟨RR / 2 ^ s, by rw [Int.natCast_ediv, Int.natCast_pow]; rfl, rfl⟩
      go_wp2
      go_ret2
      have hz := quo_all HU.out HL.out (by rw [← HYs.out]; exact F5.out) (by rw [← HYs.out]; exact J5.out) (by rw [← HYs.out]; exact J6.out)
      exact ⟨ret_two (congrArg Nat.cast hz.1) (congrArg Nat.cast (jr.out.trans hz.2)), Below.refl _ _⟩
end Go.Proofs.Ytddagmcmajjnfaa.Fx
