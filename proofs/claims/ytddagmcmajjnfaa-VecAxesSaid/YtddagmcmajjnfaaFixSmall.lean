/-
  What the small calls of package fix, and those of the document's own answer, give: end, size, Of, Floor, Add, Sub, Neg. The conditions are that the numbers are of their kinds.
-/
import Derived.WalkKit
import Derived.WalkLawsBesides
import Derived.WalkSpells
import Derived.Outline
import Derived.Lib.Hide
import Derived.Handy
import Derived.Test.YtddagmcmajjnfaaProg
import Derived.Test.YtddagmcmajjnfaaFixLaws
namespace Go.Proofs.Ytddagmcmajjnfaa.Fx
open Go Go.RowKit
set_option linter.unusedVariables false
theorem ret_int {k : IntKind} {a b : Int} (h : a = b) : Ending.returned (.int k a) = .returned (.int k b) := by rw [h]
theorem ret_bool {a b : Bool} (h : a = b) : Ending.returned (.bool a) = .returned (.bool b) := by rw [h]
theorem end_any (a : Int) (ha : -9223372036854775808 ≤ a) (ka : a ≤ 9223372036854775807) (w : World) :
    Calls Try.prog 50 #[.int .i64 a] w fun e w' => e = .returned (.int .i64 (last a)) ∧ w = w' := by
  by_cases h : a < 0
  · go_enter Try.func50, Try.ntmps50
    go_wp2
    go_ret
    exact ⟨ret_int (by unfold last; rw [if_pos (by omega)]), rfl⟩
  · go_enter Try.func50, Try.ntmps50
    go_wp2
    go_ret
    exact ⟨ret_int (by unfold last; rw [if_neg (by omega)]), rfl⟩
theorem size_any (a : Int) (ha : -9223372036854775808 ≤ a) (ka : a ≤ 9223372036854775807) (w : World) :
    Calls Try.prog 55 #[.int .i64 a] w fun e w' => e = .returned (.int .u64 ((a.natAbs : Int))) ∧ w = w' := by
  by_cases h : a < 0
  · go_enter Try.func55, Try.ntmps55
    go_wp2
    go_ret
    exact ⟨ret_int (a := IntKind.u64.wrap (-IntKind.u64.wrap a)) (by rw [IntKind.wrap_u64, IntKind.wrap_u64]; omega), rfl⟩
  · go_enter Try.func55, Try.ntmps55
    go_wp2
    go_ret
    exact ⟨ret_int (by omega), rfl⟩
theorem rsize_any (a : Int) (ha : -9223372036854775808 ≤ a) (ka : a ≤ 9223372036854775807) (w : World) :
    Calls Try.prog 57 #[.int .i64 a] w fun e w' => e = .returned (.int .u64 ((a.natAbs : Int))) ∧ w = w' := by
  by_cases h : a < 0
  · go_enter Try.func57, Try.ntmps57
    go_wp2
    go_ret
    exact ⟨ret_int (a := IntKind.u64.wrap (-IntKind.u64.wrap a)) (by rw [IntKind.wrap_u64, IntKind.wrap_u64]; omega), rfl⟩
  · go_enter Try.func57, Try.ntmps57
    go_wp2
    go_ret
    exact ⟨ret_int (by omega), rfl⟩
theorem add_any (a : Int) (b : Int) (ha : -9223372036854775808 ≤ a) (ka : a ≤ 9223372036854775807) (hb : -9223372036854775808 ≤ b) (kb : b ≤ 9223372036854775807) (w : World) :
    Calls Try.prog 36 #[.int .i64 a, .int .i64 b] w fun e w' => e = .returned (.int .i64 (add a b)) ∧ w = w' := by
  have hs := wrap_is (a + b)
  have hl : decide (bits .and .i64 (bits .xor .i64 a (wrap64 (a + b))) (bits .xor .i64 b (wrap64 (a + b))) < 0) = ((decide (a < 0) ^^ decide (wrap64 (a + b) < 0)) && (decide (b < 0) ^^ decide (wrap64 (a + b) < 0))) := by
    rw [and_below (xor_is _ _) (xor_is _ _), xor_below ⟨ha, ka⟩ hs, xor_below ⟨hb, kb⟩ hs]
  clear hs
  by_cases hw : ((decide (a < 0) ^^ decide (wrap64 (a + b) < 0)) && (decide (b < 0) ^^ decide (wrap64 (a + b) < 0))) = true
  · rw [hw] at hl
    have HW := Lib.hid hw
    clear hw
    go_enter Try.func36, Try.ntmps36
    go_wp2_with (go_at_call 50; refine (end_any _ (by omega) (by omega) _).mono ?_; rintro e w' ⟨rfl, rfl⟩)
    go_ret
    exact ⟨ret_int (add_over ⟨ha, ka⟩ ⟨hb, kb⟩ HW.out), rfl⟩
  · rw [Bool.not_eq_true] at hw
    rw [hw] at hl
    have HW := Lib.hid hw
    clear hw
    go_enter Try.func36, Try.ntmps36
    go_wp2
    go_ret
    exact ⟨ret_int (a := wrap64 (a + b)) (add_fits ⟨ha, ka⟩ ⟨hb, kb⟩ HW.out), rfl⟩
theorem sub_any (a : Int) (b : Int) (ha : -9223372036854775808 ≤ a) (ka : a ≤ 9223372036854775807) (hb : -9223372036854775808 ≤ b) (kb : b ≤ 9223372036854775807) (w : World) :
    Calls Try.prog 37 #[.int .i64 a, .int .i64 b] w fun e w' => e = .returned (.int .i64 (sub a b)) ∧ w = w' := by
  have hs := wrap_is (a - b)
  have hl : decide (bits .and .i64 (bits .xor .i64 a b) (bits .xor .i64 a (wrap64 (a - b))) < 0) = ((decide (a < 0) ^^ decide (b < 0)) && (decide (a < 0) ^^ decide (wrap64 (a - b) < 0))) := by
    rw [and_below (xor_is _ _) (xor_is _ _), xor_below ⟨ha, ka⟩ ⟨hb, kb⟩, xor_below ⟨ha, ka⟩ hs]
  clear hs
  by_cases hw : ((decide (a < 0) ^^ decide (b < 0)) && (decide (a < 0) ^^ decide (wrap64 (a - b) < 0))) = true
  · rw [hw] at hl
    have HW := Lib.hid hw
    clear hw
    go_enter Try.func37, Try.ntmps37
    go_wp2_with (go_at_call 50; refine (end_any _ (by omega) (by omega) _).mono ?_; rintro e w' ⟨rfl, rfl⟩)
    go_ret
    exact ⟨ret_int (sub_over ⟨ha, ka⟩ ⟨hb, kb⟩ HW.out), rfl⟩
  · rw [Bool.not_eq_true] at hw
    rw [hw] at hl
    have HW := Lib.hid hw
    clear hw
    go_enter Try.func37, Try.ntmps37
    go_wp2
    go_ret
    exact ⟨ret_int (a := wrap64 (a - b)) (sub_fits ⟨ha, ka⟩ ⟨hb, kb⟩ HW.out), rfl⟩
theorem neg_any (a : Int) (ha : -9223372036854775808 ≤ a) (ka : a ≤ 9223372036854775807) (w : World) :
    Calls Try.prog 34 #[.int .i64 a] w fun e w' => e = .returned (.int .i64 (neg a)) ∧ w = w' := by
  go_enter Try.func34, Try.ntmps34
  go_wp2_with (go_at_call 37; refine (sub_any _ _ (by omega) (by omega) (by omega) (by omega) _).mono ?_; rintro e w' ⟨rfl, rfl⟩)
  go_ret
  exact ⟨ret_int (by unfold neg sub; rw [Int.zero_sub]), rfl⟩

/-! ### The document's own answer: the small ones -/
theorem rneg_any (a : Int) (ha : -9223372036854775808 ≤ a) (ka : a ≤ 9223372036854775807) (w : World) :
    Calls Try.prog 47 #[.int .i64 a] w fun e w' => e = .returned (.int .i64 (neg a)) ∧ w = w' := by
  have hc := bring_cases (-a)
  have HC := Lib.hid hc
  clear hc
  by_cases h : a = -9223372036854775808
  · subst h
    go_enter Try.func47, Try.ntmps47
    go_wp2
    go_ret
    exact ⟨ret_int (by rfl), rfl⟩
  · have h' : -9223372036854775808 < a := by omega
    clear h
    go_enter Try.func47, Try.ntmps47
    go_wp2
    go_ret
    exact ⟨ret_int (by unfold neg; have := HC.out; omega), rfl⟩
theorem radd_any (a b : Int) (ha : -9223372036854775808 ≤ a) (ka : a ≤ 9223372036854775807) (hb : -9223372036854775808 ≤ b) (kb : b ≤ 9223372036854775807) (w : World) :
    Calls Try.prog 45 #[.int .i64 a, .int .i64 b] w fun e w' => e = .returned (.int .i64 (add a b)) ∧ w = w' := by
  have hc := bring_cases (a + b)
  have HC := Lib.hid hc
  clear hc
  by_cases h : 0 ≤ a
  · by_cases h2 : 9223372036854775807 - a < b
    · go_enter Try.func45, Try.ntmps45
      go_wp2
      go_ret
      exact ⟨ret_int (by unfold add; have := HC.out; omega), rfl⟩
    · go_enter Try.func45, Try.ntmps45
      go_wp2
      go_ret
      exact ⟨ret_int (by unfold add; have := HC.out; omega), rfl⟩
  · by_cases h2 : b < -9223372036854775808 - a
    · go_enter Try.func45, Try.ntmps45
      go_wp2
      go_ret
      exact ⟨ret_int (by unfold add; have := HC.out; omega), rfl⟩
    · go_enter Try.func45, Try.ntmps45
      go_wp2
      go_ret
      exact ⟨ret_int (by unfold add; have := HC.out; omega), rfl⟩
theorem rsub_any (a b : Int) (ha : -9223372036854775808 ≤ a) (ka : a ≤ 9223372036854775807) (hb : -9223372036854775808 ≤ b) (kb : b ≤ 9223372036854775807) (w : World) :
    Calls Try.prog 46 #[.int .i64 a, .int .i64 b] w fun e w' => e = .returned (.int .i64 (sub a b)) ∧ w = w' := by
  have hc := bring_cases (a - b)
  have HC := Lib.hid hc
  clear hc
  by_cases h : 0 ≤ b
  · by_cases h2 : a < -9223372036854775808 + b
    · go_enter Try.func46, Try.ntmps46
      go_wp2
      go_ret
      exact ⟨ret_int (by unfold sub; have := HC.out; omega), rfl⟩
    · go_enter Try.func46, Try.ntmps46
      go_wp2
      go_ret
      exact ⟨ret_int (by unfold sub; have := HC.out; omega), rfl⟩
  · by_cases h2 : 9223372036854775807 + b < a
    · go_enter Try.func46, Try.ntmps46
      go_wp2
      go_ret
      exact ⟨ret_int (by unfold sub; have := HC.out; omega), rfl⟩
    · go_enter Try.func46, Try.ntmps46
      go_wp2
      go_ret
      exact ⟨ret_int (by unfold sub; have := HC.out; omega), rfl⟩
end Go.Proofs.Ytddagmcmajjnfaa.Fx
