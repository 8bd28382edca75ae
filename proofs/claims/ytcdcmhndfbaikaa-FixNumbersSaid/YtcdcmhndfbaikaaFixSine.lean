/-
  Sines of package fix, and the document's own. The conditions are that the numbers are of their kind.
-/
import Derived.Test.YtcdcmhndfbaikaaFixLoops
namespace Go.Proofs.Ytcdcmhndfbaikaa.Fx
open Go Go.RowKit
set_option linter.unusedVariables false
theorem turn_rest (a : Int) : ∃ t : Int, a.tmod 26986075409 = t ∧ -26986075409 < t ∧ t < 26986075409 ∧ Hid ((t < 0 ∧ a % 26986075409 = t + 26986075409) ∨ (0 ≤ t ∧ a % 26986075409 = t)) := by
  refine ⟨_, rfl, ?_⟩
  by_cases h : a < 0
  · rw [(quo_low h).2]
    exact ⟨by omega, by omega, by show _ ∨ _; omega⟩
  · rw [(quo_high (by omega)).2]
    exact ⟨by omega, by omega, by show _ ∨ _; omega⟩
theorem fold_any (a : Int) (ha : -9223372036854775808 ≤ a) (ka : a ≤ 9223372036854775807) (w : World) :
    Calls Try.prog 38 #[.int .i64 a] w fun e w' => e = .returned (.int .i64 (fold a)) ∧ w = w' := by
  obtain ⟨t, t1, t2, t3, t4⟩ := turn_rest a
  by_cases c1 : t < 0
  · by_cases c2 : 13493037704 < t + 26986075409
    · by_cases c3 : t < -6746518852
      · go_enter Try.func38, Try.ntmps38
        go_wp2
        go_ret
        exact ⟨ret_int (by unfold fold fold1 fold2; have := t4.out; repeat (split) <;> omega), rfl⟩
      · go_enter Try.func38, Try.ntmps38
        go_wp2
        go_ret
        exact ⟨ret_int (by unfold fold fold1 fold2; have := t4.out; repeat (split) <;> omega), rfl⟩
    · by_cases c3 : 6746518852 < t + 26986075409
      · go_enter Try.func38, Try.ntmps38
        go_wp2
        go_ret
        exact ⟨ret_int (by unfold fold fold1 fold2; have := t4.out; repeat (split) <;> omega), rfl⟩
      · go_enter Try.func38, Try.ntmps38
        go_wp2
        go_ret
        exact ⟨ret_int (by unfold fold fold1 fold2; have := t4.out; repeat (split) <;> omega), rfl⟩
  · by_cases c2 : 13493037704 < t
    · by_cases c3 : t - 26986075409 < -6746518852
      · go_enter Try.func38, Try.ntmps38
        go_wp2
        go_ret
        exact ⟨ret_int (by unfold fold fold1 fold2; have := t4.out; repeat (split) <;> omega), rfl⟩
      · go_enter Try.func38, Try.ntmps38
        go_wp2
        go_ret
        exact ⟨ret_int (by unfold fold fold1 fold2; have := t4.out; repeat (split) <;> omega), rfl⟩
    · by_cases c3 : 6746518852 < t
      · go_enter Try.func38, Try.ntmps38
        go_wp2
        go_ret
        exact ⟨ret_int (by unfold fold fold1 fold2; have := t4.out; repeat (split) <;> omega), rfl⟩
      · go_enter Try.func38, Try.ntmps38
        go_wp2
        go_ret
        exact ⟨ret_int (by unfold fold fold1 fold2; have := t4.out; repeat (split) <;> omega), rfl⟩
/-- The names that the sine's steps go by. -/
theorem sine_steps (a : Int) : ∃ r q x2 x3 x4 x5 : Int, fold a = r ∧ mul r r = q ∧ mul q (4294967296 - q / 72) = x2 ∧ mul q (4294967296 - x2 / 42) = x3 ∧ mul q (4294967296 - x3 / 20) = x4 ∧ mul r (4294967296 - x4 / 6) = x5
    ∧ (-6746518852 ≤ r ∧ r ≤ 6746518852) ∧ (0 ≤ q ∧ q ≤ 10597417040) ∧ (0 ≤ x2 ∧ x2 ≤ 10597417040) ∧ (0 ≤ x3 ∧ x3 ≤ 10597417040) ∧ (0 ≤ x4 ∧ x4 ≤ 10597417040) ∧ (-9223372036854775808 ≤ x5 ∧ x5 ≤ 9223372036854775807) ∧ Hid (sin a = clamp x5) := by
  have hr := fold_bd a
  have hq := sq_bd hr.1 hr.2
  have b1 := s1_bd hq.1 hq.2
  have b2 := mul_part hq.1 hq.2 b1.1 b1.2
  have c2 := s2_bd hq.1 hq.2 b1
  have b3 := mul_part hq.1 hq.2 c2.1 c2.2
  have c3 := s3_bd hq.1 hq.2 c2
  have b4 := mul_part hq.1 hq.2 c3.1 c3.2
  exact ⟨_, _, _, _, _, _, rfl, rfl, rfl, rfl, rfl, rfl, hr, hq, ⟨b2.1, Int.le_trans b2.2 hq.2⟩, ⟨b3.1, Int.le_trans b3.2 hq.2⟩, ⟨b4.1, Int.le_trans b4.2 hq.2⟩, mul_is _ _, rfl⟩
/-- A product, behind whatever has been laid before. -/
theorem mul_on (a b : Int) (ha : -9223372036854775808 ≤ a) (ka : a ≤ 9223372036854775807) (hb : -9223372036854775808 ≤ b) (kb : b ≤ 9223372036854775807) (W w : World) (h : Below W.heap.size W w) :
    Calls Try.prog 13 #[.int .i64 a, .int .i64 b] w fun e w' => e = .returned (.int .i64 (mul a b)) ∧ Below W.heap.size W w' :=
  (mul_any a b ha ka hb kb w).mono fun _ _ ⟨he, hw⟩ => ⟨he, h.trans (hw.mono h.size)⟩
set_option maxHeartbeats 1000000 in
theorem sin_any (a : Int) (ha : -9223372036854775808 ≤ a) (ka : a ≤ 9223372036854775807) (w : World) :
    Calls Try.prog 17 #[.int .i64 a] w fun e w' => e = .returned (.int .i64 (sin a)) ∧ Below w.heap.size w w' := by
  obtain ⟨r, q, x2, x3, x4, x5, e1, e2, e3, e4, e5, e6, br, bq, b2, b3, b4, b5, hs⟩ := sine_steps a
  have hbl := Below.refl w.heap.size w
  · go_enter Try.func17, Try.ntmps17
    go_wp2_with (first | (go_at_call 38; refine (fold_any _ (by omega) (by omega) _).mono ?_; rintro e w' ⟨rfl, rfl⟩) | (go_at_call 13; refine (mul_on _ _ (by omega) (by omega) (by omega) (by omega) w _ hbl).mono ?_; clear hbl; rintro e w1 ⟨rfl, hbl⟩))
    go_ret
    exact ⟨ret_int (a := min (max x5 (-4294967296)) 4294967296) (by rw [hs.out]; unfold clamp; omega), hbl⟩
theorem down_any (a n : Int) (ha : 0 ≤ a) (ka : a ≤ 9223372036854775807) (hn : 1 ≤ n) (kn : n ≤ 100) (w : World) :
    Calls Try.prog 39 #[.int .i64 a, .int .i64 n] w fun e w' => e = .returned (.int .i64 (a / n)) ∧ w = w' := by
  have h1 := Int.emod_nonneg a (b := n) (by omega)
  have h2 := Int.emod_lt_of_pos a (b := n) (by omega)
  have h3 : a % n ≤ a := by
    have h4 := Int.mul_ediv_add_emod a n
    have h5 : 0 ≤ n * (a / n) := Int.mul_nonneg (by omega) (Int.ediv_nonneg ha (by omega))
    omega
  obtain ⟨m, hm⟩ : ∃ m, a % n = m := ⟨_, rfl⟩
  rw [hm] at h1 h2 h3
  obtain ⟨d, hd, hd2⟩ : ∃ d, (a - m) / n = d ∧ Hid (d = a / n) := by
    refine ⟨_, rfl, ?_⟩
    show _ = _
    rw [← hm]
    have h4 := Int.mul_ediv_add_emod a n
    rw [show a - a % n = n * (a / n) by omega, Int.mul_ediv_cancel_left _ (by omega)]
  go_enter Try.func39, Try.ntmps39
  go_wp2
  go_ret
  exact ⟨ret_int (a := (a - m) / n) (hd.trans hd2.out), rfl⟩
set_option maxHeartbeats 4000000 in
theorem rsin_any (a : Int) (ha : -9223372036854775808 ≤ a) (ka : a ≤ 9223372036854775807) (w : World) :
    Calls Try.prog 20 #[.int .i64 a] w fun e w' => e = .returned (.int .i64 (sin a)) ∧ w = w' := by
  obtain ⟨r, q, x2, x3, x4, x5, e1, e2, e3, e4, e5, e6, br, bq, b2, b3, b4, b5, hs⟩ := sine_steps a
  obtain ⟨t, t1, t2, t3, t4⟩ := turn_rest a
  have E1 := Lib.hid e1
  clear e1
  by_cases c1 : t < 0
  · by_cases c2 : 13493037704 < t + 26986075409
    · by_cases c3 : t < -6746518852
      · have hE : -13493037704 - t = r := by
          rw [← E1.out]; unfold fold fold1 fold2; have := t4.out; repeat (split) <;> omega
        have HE := Lib.hid hE
        clear hE
        go_enter Try.func20, Try.ntmps20
        go_upto_region 10 with fail
        rw [HE.out]
        clear t1 t2 t3 c1 c2 c3
        go_wp2_with (first | (go_at_call 39; refine (down_any _ _ (by omega) (by omega) (by omega) (by omega) _).mono ?_; rintro e w' ⟨rfl, rfl⟩) | (go_at_call 29; refine (rmul_any _ _ (by omega) (by omega) (by omega) (by omega) _).mono ?_; rintro e w' ⟨rfl, rfl⟩))
        all_goals (go_ret; exact ⟨ret_int (by rw [hs.out]; unfold clamp; repeat (split) <;> omega), rfl⟩)
      · have hE : t = r := by
          rw [← E1.out]; unfold fold fold1 fold2; have := t4.out; repeat (split) <;> omega
        have HE := Lib.hid hE
        clear hE
        go_enter Try.func20, Try.ntmps20
        go_upto_region 10 with fail
        rw [HE.out]
        clear t1 t2 t3 c1 c2 c3
        go_wp2_with (first | (go_at_call 39; refine (down_any _ _ (by omega) (by omega) (by omega) (by omega) _).mono ?_; rintro e w' ⟨rfl, rfl⟩) | (go_at_call 29; refine (rmul_any _ _ (by omega) (by omega) (by omega) (by omega) _).mono ?_; rintro e w' ⟨rfl, rfl⟩))
        all_goals (go_ret; exact ⟨ret_int (by rw [hs.out]; unfold clamp; repeat (split) <;> omega), rfl⟩)
    · by_cases c3 : 6746518852 < t + 26986075409
      · have hE : 13493037704 - (t + 26986075409) = r := by
          rw [← E1.out]; unfold fold fold1 fold2; have := t4.out; repeat (split) <;> omega
        have HE := Lib.hid hE
        clear hE
        go_enter Try.func20, Try.ntmps20
        go_upto_region 10 with fail
        rw [HE.out]
        clear t1 t2 t3 c1 c2 c3
        go_wp2_with (first | (go_at_call 39; refine (down_any _ _ (by omega) (by omega) (by omega) (by omega) _).mono ?_; rintro e w' ⟨rfl, rfl⟩) | (go_at_call 29; refine (rmul_any _ _ (by omega) (by omega) (by omega) (by omega) _).mono ?_; rintro e w' ⟨rfl, rfl⟩))
        all_goals (go_ret; exact ⟨ret_int (by rw [hs.out]; unfold clamp; repeat (split) <;> omega), rfl⟩)
      · have hE : t + 26986075409 = r := by
          rw [← E1.out]; unfold fold fold1 fold2; have := t4.out; repeat (split) <;> omega
        have HE := Lib.hid hE
        clear hE
        go_enter Try.func20, Try.ntmps20
        go_upto_region 10 with fail
        rw [HE.out]
        clear t1 t2 t3 c1 c2 c3
        go_wp2_with (first | (go_at_call 39; refine (down_any _ _ (by omega) (by omega) (by omega) (by omega) _).mono ?_; rintro e w' ⟨rfl, rfl⟩) | (go_at_call 29; refine (rmul_any _ _ (by omega) (by omega) (by omega) (by omega) _).mono ?_; rintro e w' ⟨rfl, rfl⟩))
        all_goals (go_ret; exact ⟨ret_int (by rw [hs.out]; unfold clamp; repeat (split) <;> omega), rfl⟩)
  · by_cases c2 : 13493037704 < t
    · by_cases c3 : t - 26986075409 < -6746518852
      · have hE : -13493037704 - (t - 26986075409) = r := by
          rw [← E1.out]; unfold fold fold1 fold2; have := t4.out; repeat (split) <;> omega
        have HE := Lib.hid hE
        clear hE
        go_enter Try.func20, Try.ntmps20
        go_upto_region 10 with fail
        rw [HE.out]
        clear t1 t2 t3 c1 c2 c3
        go_wp2_with (first | (go_at_call 39; refine (down_any _ _ (by omega) (by omega) (by omega) (by omega) _).mono ?_; rintro e w' ⟨rfl, rfl⟩) | (go_at_call 29; refine (rmul_any _ _ (by omega) (by omega) (by omega) (by omega) _).mono ?_; rintro e w' ⟨rfl, rfl⟩))
        all_goals (go_ret; exact ⟨ret_int (by rw [hs.out]; unfold clamp; repeat (split) <;> omega), rfl⟩)
      · have hE : t - 26986075409 = r := by
          rw [← E1.out]; unfold fold fold1 fold2; have := t4.out; repeat (split) <;> omega
        have HE := Lib.hid hE
        clear hE
        go_enter Try.func20, Try.ntmps20
        go_upto_region 10 with fail
        rw [HE.out]
        clear t1 t2 t3 c1 c2 c3
        go_wp2_with (first | (go_at_call 39; refine (down_any _ _ (by omega) (by omega) (by omega) (by omega) _).mono ?_; rintro e w' ⟨rfl, rfl⟩) | (go_at_call 29; refine (rmul_any _ _ (by omega) (by omega) (by omega) (by omega) _).mono ?_; rintro e w' ⟨rfl, rfl⟩))
        all_goals (go_ret; exact ⟨ret_int (by rw [hs.out]; unfold clamp; repeat (split) <;> omega), rfl⟩)
    · by_cases c3 : 6746518852 < t
      · have hE : 13493037704 - t = r := by
          rw [← E1.out]; unfold fold fold1 fold2; have := t4.out; repeat (split) <;> omega
        have HE := Lib.hid hE
        clear hE
        go_enter Try.func20, Try.ntmps20
        go_upto_region 10 with fail
        rw [HE.out]
        clear t1 t2 t3 c1 c2 c3
        go_wp2_with (first | (go_at_call 39; refine (down_any _ _ (by omega) (by omega) (by omega) (by omega) _).mono ?_; rintro e w' ⟨rfl, rfl⟩) | (go_at_call 29; refine (rmul_any _ _ (by omega) (by omega) (by omega) (by omega) _).mono ?_; rintro e w' ⟨rfl, rfl⟩))
        all_goals (go_ret; exact ⟨ret_int (by rw [hs.out]; unfold clamp; repeat (split) <;> omega), rfl⟩)
      · have hE : t = r := by
          rw [← E1.out]; unfold fold fold1 fold2; have := t4.out; repeat (split) <;> omega
        have HE := Lib.hid hE
        clear hE
        go_enter Try.func20, Try.ntmps20
        go_upto_region 10 with fail
        rw [HE.out]
        clear t1 t2 t3 c1 c2 c3
        go_wp2_with (first | (go_at_call 39; refine (down_any _ _ (by omega) (by omega) (by omega) (by omega) _).mono ?_; rintro e w' ⟨rfl, rfl⟩) | (go_at_call 29; refine (rmul_any _ _ (by omega) (by omega) (by omega) (by omega) _).mono ?_; rintro e w' ⟨rfl, rfl⟩))
        all_goals (go_ret; exact ⟨ret_int (by rw [hs.out]; unfold clamp; repeat (split) <;> omega), rfl⟩)
theorem cos_any (a : Int) (ha : -9223372036854775808 ≤ a) (ka : a ≤ 9223372036854775807) (w : World) :
    Calls Try.prog 18 #[.int .i64 a] w fun e w' => e = .returned (.int .i64 (cos a)) ∧ Below w.heap.size w w' := by
  have hs := add_is a 6746518852
  unfold isI at hs
  obtain ⟨hs1, hs2⟩ := hs
  go_enter Try.func18, Try.ntmps18
  go_wp2_with (first | (go_at_call 24; refine (add_any _ _ (by omega) (by omega) (by omega) (by omega) _).mono ?_; rintro e w' ⟨rfl, rfl⟩) | (go_at_call 17; refine (sin_any _ (by omega) (by omega) _).mono ?_; rintro e w1 ⟨rfl, hbl⟩))
  go_ret
  exact ⟨rfl, hbl⟩
theorem rcos_any (a : Int) (ha : -9223372036854775808 ≤ a) (ka : a ≤ 9223372036854775807) (w : World) :
    Calls Try.prog 19 #[.int .i64 a] w fun e w' => e = .returned (.int .i64 (cos a)) ∧ w = w' := by
  have hs := add_is a 6746518852
  unfold isI at hs
  obtain ⟨hs1, hs2⟩ := hs
  go_enter Try.func19, Try.ntmps19
  go_wp2_with (first | (go_at_call 25; refine (radd_any _ _ (by omega) (by omega) (by omega) (by omega) _).mono ?_; rintro e w' ⟨rfl, rfl⟩) | (go_at_call 20; refine (rsin_any _ (by omega) (by omega) _).mono ?_; rintro e w' ⟨rfl, rfl⟩))
  go_ret
  exact ⟨rfl, rfl⟩
end Go.Proofs.Ytcdcmhndfbaikaa.Fx
