/-
  The chapter's examples, as each statement asks them (awake). The condition is what the document's Pieces does.
-/
import Derived.Test.YtefdlidjdmlnaaaPngD
namespace Go.Proofs.Ytefdlidjdmlnaaa.Fx
open Go Go.RowKit Go.Joins
set_option linter.unusedVariables false
set_option maxHeartbeats 4000000 in
set_option maxRecDepth 100000 in
theorem pawake_any (D : PDoes) (W : World) : Calls Try.prog 15 #[] W fun e w' => e = .returned (.bool true) ∧ Hid (Below W.heap.size W w') := by
  go_enter Try.func15, Try.ntmps15
  go_wp2_with fail
  go_at_call 10
  refine (new_at 1 1 (fun _ => px1) W (by decide) (by decide) (by decide) (by decide)).mono ?_
  rintro e w1 ⟨va, O1, rfl, HE1, HO1, HB1⟩
  go_wp2_with fail
  go_at_call 17
  refine (put_at w1 (.pointer va) 1 1 (fun _ => px1) 0 O1 px1_ok HE1.out (by decide) (by decide)).mono ?_
  rintro e w2 ⟨o2, n2, c2, O2, rfl, HN2, HU2, HE2, HO2, HP2⟩
  have HB2 : Hid (Below W.heap.size W w2) := HB1.out.trans (HP2.out.below HO1.out HB1.out.size)
  have hn2 : 57 < n2 := by
    rw [← HN2.out]
    exact piece_last 1 1 _ rfl
  clear HE1 HP2
  go_wp2_with fail
  go_at_call 17
  refine (over_at w2 (.pointer va) 1 1 (fun _ => px1) O2 ⟨0, 0, 0, 0⟩ HE2.out).mono ?_
  rintro e w3 ⟨rfl, HB3⟩
  have HU3 : Hid (bytesIn w3 (.slice o2 n2 c2) (pieceAt 1 1 (fun _ => px1) 0)) := listed_on HU2.out HB3.out
  have HBW3 : Hid (Below W.heap.size W w3) := HB2.out.trans (HB3.out.mono HB2.out.size)
  have HUW : Hid (∀ w', Below w3.heap.size w3 w' → bytesIn w' (.slice o2 n2 c2) (pieceAt 1 1 (fun _ => px1) 0)) := fun w' h => listed_on HU3.out h
  clear HB3 HU2 HE2
  go_wp2_with fail
  go_at_call 10
  refine (pnew_none 0 1 w3 (by decide)).mono ?_
  rintro e w4 ⟨rfl, rfl⟩
  go_wp2_with fail
  go_at_call 11
  refine (order_code 3 2 w3 (by decide) (by decide) (by decide) (by decide)).mono ?_
  rintro e w5 ⟨o5, n5, c5, rfl, HN5, HR5, HB5⟩
  have HI5 : Hid (numsList w5 (.slice o5 6 c5) [0, 2, 1, 3, 4, 5] ∧ Below w3.heap.size w3 w5) := by
    have h1 : numsList w5 (.slice o5 n5 c5) (orderOf 3 2) := own_listed HR5.out.1
    have h2 := HN5.out
    rw [ex32] at h1
    subst h2
    exact ⟨h1, HB5.out⟩
  obtain rfl : n5 = 6 := HN5.out
  clear HR5 HB5 HN5
  go_wp2_with fail
  go_at_call 13
  refine (sameints_new w3 w5 _ #[.int .i64 0, .int .i64 2, .int .i64 1, .int .i64 3, .int .i64 4, .int .i64 5] [0, 2, 1, 3, 4, 5] 6 HI5.out.1 rfl rfl (by decide) HI5.out.2).mono ?_
  rintro e w6 ⟨rfl, HB6⟩
  have HU6 : Hid (bytesIn w6 (.slice o2 n2 c2) (pieceAt 1 1 (fun _ => px1) 0)) := HUW.out w6 HB6.out
  clear HI5
  go_wp2_with fail
  go_at_call 11
  refine (order_code 1 1 w6 (by decide) (by decide) (by decide) (by decide)).mono ?_
  rintro e w7 ⟨o7, n7, c7, rfl, HN7, HR7, HB7⟩
  have HI7 : Hid (numsList w7 (.slice o7 1 c7) [0] ∧ Below w3.heap.size w3 w7) := by
    have h1 : numsList w7 (.slice o7 n7 c7) (orderOf 1 1) := own_listed HR7.out.1
    have h2 := HN7.out
    rw [ex11] at h1
    subst h2
    exact ⟨h1, HB6.out.trans (HB7.out.mono HB6.out.size)⟩
  obtain rfl : n7 = 1 := HN7.out
  clear HR7 HB7 HN7
  go_wp2_with fail
  go_at_call 13
  refine (sameints_new w3 w7 _ #[.int .i64 0] [0] 1 HI7.out.1 rfl rfl (by decide) HI7.out.2).mono ?_
  rintro e w8 ⟨rfl, HB8⟩
  clear HI7
  go_wp2_with fail
  go_at_call 11
  refine (order_code 9 1 w8 (by decide) (by decide) (by decide) (by decide)).mono ?_
  rintro e w9 ⟨o9, n9, c9, rfl, HN9, HR9, HB9⟩
  have HI9 : Hid (numsList w9 (.slice o9 9 c9) [0, 8, 4, 2, 6, 1, 3, 5, 7] ∧ Below w3.heap.size w3 w9) := by
    have h1 : numsList w9 (.slice o9 n9 c9) (orderOf 9 1) := own_listed HR9.out.1
    have h2 := HN9.out
    rw [ex91] at h1
    subst h2
    exact ⟨h1, HB8.out.trans (HB9.out.mono HB8.out.size)⟩
  obtain rfl : n9 = 9 := HN9.out
  clear HR9 HB9 HN9
  go_wp2_with fail
  go_at_call 13
  refine (sameints_new w3 w9 _ #[.int .i64 0, .int .i64 8, .int .i64 4, .int .i64 2, .int .i64 6, .int .i64 1, .int .i64 3, .int .i64 5, .int .i64 7] [0, 8, 4, 2, 6, 1, 3, 5, 7] 9 HI9.out.1 rfl rfl (by decide) HI9.out.2).mono ?_
  rintro e w10 ⟨rfl, HB10⟩
  clear HI9
  have d57 : decide ((57 : Int) < (n2 : Int)) = true := decide_eq_true (by omega)
  have d57' : decide (57 < n2) = true := decide_eq_true hn2
  obtain ⟨w11, ew11⟩ : ∃ v, v = w10.alloc (.cells px1.cells 39) := ⟨_, rfl⟩
  have hpx : pixIn w11 (.slice (some ⟨w10.heap.size, 0, none⟩) 1 1) 1 (fun _ => px1) := by rw [ew11]; exact pix_fresh
  have hb11 : Below w10.heap.size w10 w11 := by rw [ew11]; exact below_alloc1 _ _
  have KP := D.pieces 1 1 1 (fun _ => px1) _ w11 (by decide) (by decide) (by decide) (by decide) px1_ok hpx (by decide) (by decide)
  have HB11 : Hid (Below w3.heap.size w3 w11) := HB10.out.trans (hb11.mono HB10.out.size)
  rw [ew11] at KP
  clear hpx hb11
  go_wp2_with fail
  go_at_call 16
  refine KP.mono ?_
  clear KP
  rintro e w12 ⟨o12, c12, rfl, HL12, _, HB12⟩
  rw [← ew11] at HB12
  clear ew11
  have HBW12 : Hid (Below w3.heap.size w3 w12) := HB11.out.trans (HB12.out.mono HB11.out.size)
  obtain ⟨lb, lo, uo, uc, rfl, llt, lc, lr⟩ := lists_at HL12.out 0 (pieceAt 1 1 (fun _ => px1) 0) rfl
  have HLR := Lib.hid lr
  rw [HN2.out] at lc HLR
  rw [Nat.add_zero] at lc
  have HU12 := Lib.hid (HUW.out w12 HBW12.out)
  clear lr HL12 HB12 llt
  go_wp2_with fail
  go_at_call 18
  refine (same_yes _ _ (pieceAt 1 1 (fun _ => px1) 0) _ HU12.out HLR.out).mono ?_
  rintro e w13 ⟨rfl, rfl⟩
  go_wp2_with fail
  go_ret
  exact ⟨rfl, HBW3.out.trans (HBW12.out.mono HBW3.out.size)⟩
end Go.Proofs.Ytefdlidjdmlnaaa.Fx
