/-
  The walk of PngNumbers. The condition is what the document's Pieces does.
-/
import Derived.Test.YtefdlidjdmlnaaaPngA
namespace Go.Proofs.Ytefdlidjdmlnaaa.Fx
open Go Go.RowKit Go.Joins
set_option linter.unusedVariables false
set_option maxHeartbeats 4000000 in
set_option maxRecDepth 100000 in
theorem pnumbers_law (D : PDoes) (W : World) :
    Calls Try.prog 3 #[] W fun e w' => e = .returned (.bool true) ∧ Below W.heap.size W w' := by
  go_enter Try.func3, Try.ntmps3
  go_upto_region 2 with fail
  obtain ⟨w1, e1⟩ : ∃ v, v = W.alloc (.cells #[.int .i64 0, .int .i64 0, .int .i64 (-1), .int .i64 5, .int .i64 5, .int .i64 0, .int .i64 1025, .int .i64 1, .int .i64 1, .int .i64 1025] 22) := ⟨_, rfl⟩
  have HB1 : Hid (Below W.heap.size W w1) := by
    show Below _ _ _
    rw [e1]
    exact below_alloc1 _ _
  have hx : w1.heap[W.heap.size]? = some (.cells #[.int .i64 0, .int .i64 0, .int .i64 (-1), .int .i64 5, .int .i64 5, .int .i64 0, .int .i64 1025, .int .i64 1, .int .i64 1, .int .i64 1025] 22 (0, 0)) := by rw [e1]; exact heap_alloc_new _ _
  have HX := Lib.hid hx
  rw [← e1]
  clear e1 hx
  go_loopw [18] (fun s18 wk => ∃ k : Nat, k ≤ 5 ∧ s18 = .int .i64 (k : Int) ∧ Hid (Below w1.heap.size w1 wk)) (fun s18 _ => 5 - (intOf s18).toNat)
  case atStart => exact ⟨0, by omega, rfl, Below.refl _ _⟩
  case round =>
    obtain ⟨k, hk, rfl, HB⟩ := hrel
    by_cases hk5 : k < 5
    · have d1 : decide ((k : Int) < 5) = true := decide_eq_true (by omega)
      have d1' : decide (k < 5) = true := decide_eq_true hk5
      have hbx := (HB.out.block W.heap.size (Array.getElem?_eq_some_iff.1 HX.out).1).trans HX.out
      obtain ⟨x, y, c0, c1, hn⟩ : ∃ x y : Int, wr.cell? ⟨W.heap.size, k * 2, none⟩ = some (.int .i64 x) ∧ wr.cell? ⟨W.heap.size, k * 2 + 1, none⟩ = some (.int .i64 y) ∧ ¬ (1 ≤ x ∧ x ≤ 1024 ∧ 1 ≤ y ∧ y ≤ 1024) := by
        match k, hk5 with
        | 0, _ => exact ⟨0, 0, cell_of_block hbx 0, cell_of_block hbx 1, by decide⟩
        | 1, _ => exact ⟨-1, 5, cell_of_block hbx 2, cell_of_block hbx 3, by decide⟩
        | 2, _ => exact ⟨5, 0, cell_of_block hbx 4, cell_of_block hbx 5, by decide⟩
        | 3, _ => exact ⟨1025, 1, cell_of_block hbx 6, cell_of_block hbx 7, by decide⟩
        | 4, _ => exact ⟨1, 1025, cell_of_block hbx 8, cell_of_block hbx 9, by decide⟩
      have KN : Hid (∀ w', Calls Try.prog 10 #[.int .i64 x, .int .i64 y] w' fun e w'' => e = .returned (.tuple #[.pointer none, .int .i64 2]) ∧ w' = w'') := fun w' => pnew_none x y w' hn
      have KO : Hid (∀ w', Calls Try.prog 11 #[.int .i64 x, .int .i64 y] w' fun e w'' => e = .returned (.slice none 0 0) ∧ w' = w'') := fun w' => order_none x y w' hn
      have HBN : Hid (∀ o, Below w1.heap.size w1 (wr.alloc o)) := fun o => HB.out.alloc HB.out.size o
      clear hbx hn
      go_wp2_with fail
      go_at_call 10
      refine (KN.out _).mono ?_
      rintro e w' ⟨rfl, rfl⟩
      go_wp2_with fail
      go_at_call 11
      refine (KO.out _).mono ?_
      rintro e w' ⟨rfl, rfl⟩
      go_wp2_with fail
      go_roundw
      case rel => exact ⟨k + 1, by omega, by first | rfl | go_num, HBN.out _⟩
      case measure => simp [intOf]; omega
    · have d1 : decide ((k : Int) < 5) = false := decide_eq_false (by omega)
      have d1' : decide (k < 5) = false := decide_eq_false hk5
      have HBW : Hid (Below W.heap.size W wr) := HB1.out.trans (HB.out.mono HB1.out.size)
      clear HX HB1 HB
      go_wp2_with fail
      go_loopw [5] (fun s5 wy => ∃ w : Nat, 1 ≤ w ∧ w ≤ 12 ∧ s5 = .int .i64 (w : Int) ∧ Hid (Below W.heap.size W wy)) (fun s5 _ => 12 - (intOf s5).toNat)
      case atStart => exact ⟨1, by omega, by omega, by first | rfl | trivial, HBW.out⟩
      case round =>
        clear HBW
        obtain ⟨w, hw1, hw, rfl, HB⟩ := hrel
        by_cases hw12 : w < 12
        · have d2 : decide ((w : Int) < 12) = true := decide_eq_true (by omega)
          have d2' : decide (w < 12) = true := decide_eq_true hw12
          go_wp2_with fail
          go_loopw [6] (fun s6 wx => ∃ h : Nat, 1 ≤ h ∧ h ≤ 12 ∧ s6 = .int .i64 (h : Int) ∧ Hid (Below W.heap.size W wx)) (fun s6 _ => 12 - (intOf s6).toNat)
          case atStart => exact ⟨1, by omega, by omega, by first | rfl | trivial, HB.out⟩
          case round =>
            clear HB
            obtain ⟨h, hh1, hh, rfl, HB⟩ := hrel
            by_cases hh12 : h < 12
            · have d3 : decide ((h : Int) < 12) = true := decide_eq_true (by omega)
              have d3' : decide (h < 12) = true := decide_eq_true hh12
              obtain ⟨M, eM⟩ : ∃ M, w * h = M := ⟨_, rfl⟩
              have hM : M ≤ 144 := by
                have : w * h ≤ 12 * 12 := Nat.mul_le_mul hw hh
                omega
              have hmul : (w : Int) * (h : Int) = (M : Int) := by rw [← eM]; exact (Int.natCast_mul w h).symm
              have HM := Lib.hid eM
              clear eM
              go_wp2_with fail
              go_at_call 10
              refine (new_at w h (fun _ => px1) wr hw1 (by omega) hh1 (by omega)).mono ?_
              rintro e w2 ⟨va, O2, rfl, HE2, HO2, HB2⟩
              go_wp2_with fail
              go_at_call 12
              refine (left_at w2 (.pointer va) w h (fun _ => px1) 0 O2 HE2.out (Nat.zero_le _)).mono ?_
              rintro e w' ⟨rfl, rfl⟩
              rw [Nat.sub_zero, HM.out]
              have HBA : Hid (Below W.heap.size W w2) := HB.out.trans (HB2.out.mono HB.out.size)
              clear HE2 HO2 HB2
              go_wp2_with fail
              go_at_call 11
              refine (order_code w h w2 hw1 (by omega) hh1 (by omega)).mono ?_
              rintro e w3 ⟨o3, n3, c3, rfl, HN3, HR3, HB3⟩
              have HL3 : Hid (numsList w3 (.slice o3 n3 c3) (orderOf w h)) := own_listed HR3.out.1
              have HBB : Hid (Below W.heap.size W w3) := HBA.out.trans (HB3.out.mono HBA.out.size)
              go_wp2_with fail
              go_at_call 14
              refine (rorder_any w h w3 hw1 (by omega) hh1 (by omega)).mono ?_
              rintro e w4 ⟨o4, n4, c4, rfl, HN4, HR4, HB4⟩
              have HL4 : Hid (numsList w4 (.slice o3 n3 c3) (orderOf w h) ∧ numsList w4 (.slice o4 n4 c4) (orderOf w h)) := ⟨listed_on HL3.out HB4.out, own_listed HR4.out.1⟩
              have HBC : Hid (Below W.heap.size W w4) := HBB.out.trans (HB4.out.mono HBB.out.size)
              clear HR3 HR4 HB3 HB4 HL3 HN3 HN4
              go_wp2_with fail
              go_at_call 13
              refine (sameInts_code _ _ (orderOf w h) w4 HL4.out.1 HL4.out.2 (by rw [order_length, HM.out]; omega)).mono ?_
              rintro e w5 ⟨rfl, HB5⟩
              have HBD : Hid (Below W.heap.size W w5) := HBC.out.trans (HB5.out.mono HBC.out.size)
              go_wp2_with fail
              go_roundw
              case rel => exact ⟨h + 1, by omega, by omega, by first | rfl | go_num, HBD.out⟩
              case measure => simp [intOf]; omega
            · obtain rfl : h = 12 := by omega
              have d3 : decide (((12 : Nat) : Int) < 12) = false := by decide
              go_wp2_with fail
              go_roundw
              case rel => exact ⟨w + 1, by omega, by omega, by first | rfl | go_num, HB.out⟩
              case measure => simp [intOf]; omega
        · obtain rfl : w = 12 := by omega
          have d2 : decide (((12 : Nat) : Int) < 12) = false := by decide
          go_wp2_with fail
          go_at_call 10
          refine (new_at 1024 1 (fun _ => px1) wr (by decide) (by decide) (by decide) (by decide)).mono ?_
          rintro e w2 ⟨va, O2, rfl, HE2, HO2, HB2⟩
          have KL := left_at w2 (.pointer va) 1024 1 (fun _ => px1) 0 O2 HE2.out (Nat.zero_le _)
          have e1024 : ((1024 * 1 - 0 : Nat) : Int) = 1024 := rfl
          rw [e1024] at KL
          clear e1024
          go_wp2_with fail
          go_at_call 12
          refine KL.mono ?_
          rintro e w' ⟨rfl, rfl⟩
          clear KL
          have HBA : Hid (Below W.heap.size W w2) := HB.out.trans (HB2.out.mono HB.out.size)
          go_wp2_with fail
          go_at_call 11
          refine (order_code 1 1024 w2 (by decide) (by decide) (by decide) (by decide)).mono ?_
          rintro e w3 ⟨o3, n3, c3, rfl, HN3, HR3, HB3⟩
          obtain rfl : n3 = 1024 := HN3.out
          have HBB : Hid (Below W.heap.size W w3) := HBA.out.trans (HB3.out.mono HBA.out.size)
          clear HR3 HN3
          go_wp2_with fail
          go_at_call 15
          refine (pawake_any D w3).mono ?_
          rintro e w4 ⟨rfl, HB4⟩
          go_wp2_with fail
          go_ret
          exact ⟨rfl, HBB.out.trans (HB4.out.mono HBB.out.size)⟩
end Go.Proofs.Ytefdlidjdmlnaaa.Fx
