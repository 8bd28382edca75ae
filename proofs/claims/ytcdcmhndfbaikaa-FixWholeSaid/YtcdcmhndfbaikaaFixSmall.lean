/-
  What the small calls of package fix, and those of the document's own answer, give: end, size, Of, Floor, Add, Sub, Neg. The conditions are that the numbers are of their kinds.
-/
import Derived.WalkKit
import Derived.WalkLawsBesides
import Derived.WalkSpells
import Derived.Outline
import Derived.Lib.Hide
import Derived.Handy
import Derived.Test.YtcdcmhndfbaikaaProg
import Derived.Test.YtcdcmhndfbaikaaFixLaws
namespace Go.Proofs.Ytcdcmhndfbaikaa.Fx
open Go Go.RowKit
set_option linter.unusedVariables false
theorem ret_int {k : IntKind} {a b : Int} (h : a = b) : Ending.returned (.int k a) = .returned (.int k b) := by rw [h]
theorem ret_bool {a b : Bool} (h : a = b) : Ending.returned (.bool a) = .returned (.bool b) := by rw [h]
theorem end_any (a : Int) (ha : -9223372036854775808 ≤ a) (ka : a ≤ 9223372036854775807) (w : World) :
    Calls Try.prog 32 #[.int .i64 a] w fun e w' => e = .returned (.int .i64 (last a)) ∧ w = w' := by
  by_cases h : a < 0
  · go_enter Try.func32, Try.ntmps32
    go_wp2
    go_ret
    exact ⟨ret_int (by unfold last; rw [if_pos (by omega)]), rfl⟩
  · go_enter Try.func32, Try.ntmps32
    go_wp2
    go_ret
    exact ⟨ret_int (by unfold last; rw [if_neg (by omega)]), rfl⟩
theorem floor_any (a : Int) (ha : -9223372036854775808 ≤ a) (ka : a ≤ 9223372036854775807) (w : World) :
    Calls Try.prog 15 #[.int .i64 a] w fun e w' => e = .returned (.int .i64 (floor a)) ∧ w = w' := by
  go_enter Try.func15, Try.ntmps15
  go_wp2
  go_ret
  exact ⟨ret_int (by unfold floor; omega), rfl⟩
theorem size_any (a : Int) (ha : -9223372036854775808 ≤ a) (ka : a ≤ 9223372036854775807) (w : World) :
    Calls Try.prog 34 #[.int .i64 a] w fun e w' => e = .returned (.int .u64 ((a.natAbs : Int))) ∧ w = w' := by
  by_cases h : a < 0
  · go_enter Try.func34, Try.ntmps34
    go_wp2
    go_ret
    exact ⟨ret_int (a := IntKind.u64.wrap (-IntKind.u64.wrap a)) (by rw [IntKind.wrap_u64, IntKind.wrap_u64]; omega), rfl⟩
  · go_enter Try.func34, Try.ntmps34
    go_wp2
    go_ret
    exact ⟨ret_int (by omega), rfl⟩
theorem rsize_any (a : Int) (ha : -9223372036854775808 ≤ a) (ka : a ≤ 9223372036854775807) (w : World) :
    Calls Try.prog 41 #[.int .i64 a] w fun e w' => e = .returned (.int .u64 ((a.natAbs : Int))) ∧ w = w' := by
  by_cases h : a < 0
  · go_enter Try.func41, Try.ntmps41
    go_wp2
    go_ret
    exact ⟨ret_int (a := IntKind.u64.wrap (-IntKind.u64.wrap a)) (by rw [IntKind.wrap_u64, IntKind.wrap_u64]; omega), rfl⟩
  · go_enter Try.func41, Try.ntmps41
    go_wp2
    go_ret
    exact ⟨ret_int (by omega), rfl⟩
theorem of_any (a : Int) (ha : -9223372036854775808 ≤ a) (ka : a ≤ 9223372036854775807) (w : World) :
    Calls Try.prog 14 #[.int .i64 a] w fun e w' => e = .returned (.int .i64 (whole a)) ∧ w = w' := by
  have hc := bring_cases (a * 4294967296)
  by_cases h : 2147483647 < a
  · go_enter Try.func14, Try.ntmps14
    go_wp2_with (go_at_call 32; refine (end_any _ (by omega) (by omega) _).mono ?_; rintro e w' ⟨rfl, rfl⟩)
    go_ret
    exact ⟨ret_int (by unfold whole last; rw [if_neg (by omega)]; omega), rfl⟩
  · by_cases h' : a < -2147483648
    · go_enter Try.func14, Try.ntmps14
      go_wp2_with (go_at_call 32; refine (end_any _ (by omega) (by omega) _).mono ?_; rintro e w' ⟨rfl, rfl⟩)
      go_ret
      exact ⟨ret_int (by unfold whole last; rw [if_pos (by omega)]; omega), rfl⟩
    · go_enter Try.func14, Try.ntmps14
      go_wp2
      go_ret
      exact ⟨ret_int (by unfold whole; omega), rfl⟩
theorem add_any (a : Int) (b : Int) (ha : -9223372036854775808 ≤ a) (ka : a ≤ 9223372036854775807) (hb : -9223372036854775808 ≤ b) (kb : b ≤ 9223372036854775807) (w : World) :
    Calls Try.prog 24 #[.int .i64 a, .int .i64 b] w fun e w' => e = .returned (.int .i64 (add a b)) ∧ w = w' := by
  have hs := wrap_is (a + b)
  have hl : decide (bits .and .i64 (bits .xor .i64 a (wrap64 (a + b))) (bits .xor .i64 b (wrap64 (a + b))) < 0) = ((decide (a < 0) ^^ decide (wrap64 (a + b) < 0)) && (decide (b < 0) ^^ decide (wrap64 (a + b) < 0))) := by
    rw [and_below (xor_is _ _) (xor_is _ _), xor_below ⟨ha, ka⟩ hs, xor_below ⟨hb, kb⟩ hs]
  clear hs
  by_cases hw : ((decide (a < 0) ^^ decide (wrap64 (a + b) < 0)) && (decide (b < 0) ^^ decide (wrap64 (a + b) < 0))) = true
  · rw [hw] at hl
    have HW := Lib.hid hw
    clear hw
    go_enter Try.func24, Try.ntmps24
    go_wp2_with (go_at_call 32; refine (end_any _ (by omega) (by omega) _).mono ?_; rintro e w' ⟨rfl, rfl⟩)
    go_ret
    exact ⟨ret_int (add_over ⟨ha, ka⟩ ⟨hb, kb⟩ HW.out), rfl⟩
  · rw [Bool.not_eq_true] at hw
    rw [hw] at hl
    have HW := Lib.hid hw
    clear hw
    go_enter Try.func24, Try.ntmps24
    go_wp2
    go_ret
    exact ⟨ret_int (a := wrap64 (a + b)) (add_fits ⟨ha, ka⟩ ⟨hb, kb⟩ HW.out), rfl⟩
theorem sub_any (a : Int) (b : Int) (ha : -9223372036854775808 ≤ a) (ka : a ≤ 9223372036854775807) (hb : -9223372036854775808 ≤ b) (kb : b ≤ 9223372036854775807) (w : World) :
    Calls Try.prog 12 #[.int .i64 a, .int .i64 b] w fun e w' => e = .returned (.int .i64 (sub a b)) ∧ w = w' := by
  have hs := wrap_is (a - b)
  have hl : decide (bits .and .i64 (bits .xor .i64 a b) (bits .xor .i64 a (wrap64 (a - b))) < 0) = ((decide (a < 0) ^^ decide (b < 0)) && (decide (a < 0) ^^ decide (wrap64 (a - b) < 0))) := by
    rw [and_below (xor_is _ _) (xor_is _ _), xor_below ⟨ha, ka⟩ ⟨hb, kb⟩, xor_below ⟨ha, ka⟩ hs]
  clear hs
  by_cases hw : ((decide (a < 0) ^^ decide (b < 0)) && (decide (a < 0) ^^ decide (wrap64 (a - b) < 0))) = true
  · rw [hw] at hl
    have HW := Lib.hid hw
    clear hw
    go_enter Try.func12, Try.ntmps12
    go_wp2_with (go_at_call 32; refine (end_any _ (by omega) (by omega) _).mono ?_; rintro e w' ⟨rfl, rfl⟩)
    go_ret
    exact ⟨ret_int (sub_over ⟨ha, ka⟩ ⟨hb, kb⟩ HW.out), rfl⟩
  · rw [Bool.not_eq_true] at hw
    rw [hw] at hl
    have HW := Lib.hid hw
    clear hw
    go_enter Try.func12, Try.ntmps12
    go_wp2
    go_ret
    exact ⟨ret_int (a := wrap64 (a - b)) (sub_fits ⟨ha, ka⟩ ⟨hb, kb⟩ HW.out), rfl⟩
theorem neg_any (a : Int) (ha : -9223372036854775808 ≤ a) (ka : a ≤ 9223372036854775807) (w : World) :
    Calls Try.prog 27 #[.int .i64 a] w fun e w' => e = .returned (.int .i64 (neg a)) ∧ w = w' := by
  go_enter Try.func27, Try.ntmps27
  go_wp2_with (go_at_call 12; refine (sub_any _ _ (by omega) (by omega) (by omega) (by omega) _).mono ?_; rintro e w' ⟨rfl, rfl⟩)
  go_ret
  exact ⟨ret_int (by unfold neg sub; rw [Int.zero_sub]), rfl⟩

/-! ### The document's own answer: the small ones -/
theorem rneg_any (a : Int) (ha : -9223372036854775808 ≤ a) (ka : a ≤ 9223372036854775807) (w : World) :
    Calls Try.prog 28 #[.int .i64 a] w fun e w' => e = .returned (.int .i64 (neg a)) ∧ w = w' := by
  have hc := bring_cases (-a)
  have HC := Lib.hid hc
  clear hc
  by_cases h : a = -9223372036854775808
  · subst h
    go_enter Try.func28, Try.ntmps28
    go_wp2
    go_ret
    exact ⟨ret_int (by rfl), rfl⟩
  · have h' : -9223372036854775808 < a := by omega
    clear h
    go_enter Try.func28, Try.ntmps28
    go_wp2
    go_ret
    exact ⟨ret_int (by unfold neg; have := HC.out; omega), rfl⟩
theorem radd_any (a b : Int) (ha : -9223372036854775808 ≤ a) (ka : a ≤ 9223372036854775807) (hb : -9223372036854775808 ≤ b) (kb : b ≤ 9223372036854775807) (w : World) :
    Calls Try.prog 25 #[.int .i64 a, .int .i64 b] w fun e w' => e = .returned (.int .i64 (add a b)) ∧ w = w' := by
  have hc := bring_cases (a + b)
  have HC := Lib.hid hc
  clear hc
  by_cases h : 0 ≤ a
  · by_cases h2 : 9223372036854775807 - a < b
    · go_enter Try.func25, Try.ntmps25
      go_wp2
      go_ret
      exact ⟨ret_int (by unfold add; have := HC.out; omega), rfl⟩
    · go_enter Try.func25, Try.ntmps25
      go_wp2
      go_ret
      exact ⟨ret_int (by unfold add; have := HC.out; omega), rfl⟩
  · by_cases h2 : b < -9223372036854775808 - a
    · go_enter Try.func25, Try.ntmps25
      go_wp2
      go_ret
      exact ⟨ret_int (by unfold add; have := HC.out; omega), rfl⟩
    · go_enter Try.func25, Try.ntmps25
      go_wp2
      go_ret
      exact ⟨ret_int (by unfold add; have := HC.out; omega), rfl⟩
theorem rsub_any (a b : Int) (ha : -9223372036854775808 ≤ a) (ka : a ≤ 9223372036854775807) (hb : -9223372036854775808 ≤ b) (kb : b ≤ 9223372036854775807) (w : World) :
    Calls Try.prog 26 #[.int .i64 a, .int .i64 b] w fun e w' => e = .returned (.int .i64 (sub a b)) ∧ w = w' := by
  have hc := bring_cases (a - b)
  have HC := Lib.hid hc
  clear hc
  by_cases h : 0 ≤ b
  · by_cases h2 : a < -9223372036854775808 + b
    · go_enter Try.func26, Try.ntmps26
      go_wp2
      go_ret
      exact ⟨ret_int (by unfold sub; have := HC.out; omega), rfl⟩
    · go_enter Try.func26, Try.ntmps26
      go_wp2
      go_ret
      exact ⟨ret_int (by unfold sub; have := HC.out; omega), rfl⟩
  · by_cases h2 : 9223372036854775807 + b < a
    · go_enter Try.func26, Try.ntmps26
      go_wp2
      go_ret
      exact ⟨ret_int (by unfold sub; have := HC.out; omega), rfl⟩
    · go_enter Try.func26, Try.ntmps26
      go_wp2
      go_ret
      exact ⟨ret_int (by unfold sub; have := HC.out; omega), rfl⟩
theorem rfloor_any (a : Int) (ha : -9223372036854775808 ≤ a) (ka : a ≤ 9223372036854775807) (w : World) :
    Calls Try.prog 23 #[.int .i64 a] w fun e w' => e = .returned (.int .i64 (floor a)) ∧ w = w' := by
  have hq : (a < 0 ∧ a.tdiv 4294967296 = -((-a) / 4294967296) ∧ a.tmod 4294967296 = -((-a) % 4294967296)) ∨ (0 ≤ a ∧ a.tdiv 4294967296 = a / 4294967296 ∧ a.tmod 4294967296 = a % 4294967296) := by
    by_cases h : a < 0
    · exact .inl ⟨h, quo_low h⟩
    · exact .inr ⟨by omega, quo_high (by omega)⟩
  have HQ := Lib.hid hq
  clear hq
  by_cases h : a.tmod 4294967296 < 0
  · go_enter Try.func23, Try.ntmps23
    go_wp2
    go_ret
    exact ⟨ret_int (a := wrap64 (a.tdiv 4294967296 - 1)) (by unfold floor wrap64; have := HQ.out; omega), rfl⟩
  · go_enter Try.func23, Try.ntmps23
    go_wp2
    go_ret
    exact ⟨ret_int (a := a.tdiv 4294967296) (by unfold floor; have := HQ.out; omega), rfl⟩
end Go.Proofs.Ytcdcmhndfbaikaa.Fx
