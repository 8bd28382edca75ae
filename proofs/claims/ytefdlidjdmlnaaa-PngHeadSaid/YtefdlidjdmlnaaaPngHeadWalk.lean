/-
  The walk of PngHead. The conditions are that the numbers are of their kinds, and what the document's Pieces does.
-/
import Derived.Test.YtefdlidjdmlnaaaPngA
namespace Go.Proofs.Ytefdlidjdmlnaaa.Fx
open Go Go.RowKit Go.Joins
set_option linter.unusedVariables false
def beginOf (w h : Nat) : List Nat := [137, 80, 78, 71, 13, 10, 26, 10, 0, 0, 0, 13, 73, 72, 68, 82, 0, 0, 0, w, 0, 0, 0, h, 8, 6, 0, 0, 1]
theorem fourOf_small (n : Nat) (h : n < 256) : fourOf n = [0, 0, 0, n] := by
  unfold fourOf
  have h1 : n / 16777216 = 0 := by omega
  have h2 : n / 65536 = 0 := by omega
  have h3 : n / 256 = 0 := by omega
  have h4 : n % 256 = n := by omega
  rw [h1, h2, h3, h4]
theorem piece_begin (w h : Nat) (px : Nat → Px) (hw : w < 256) (hh : h < 256) : (pieceAt w h px 0).take 29 = beginOf w h ∧ 33 ≤ (pieceAt w h px 0).length := by
  have h0 : headAt w h 0 = pngHeadOf w h := rfl
  have hl := head_length w h
  obtain ⟨X, eX⟩ : ∃ X, pieceAt w h px 0 = pngHeadOf w h ++ X := ⟨_, by unfold pieceAt pieceOf; rw [h0, List.append_assoc]⟩
  rw [eX]
  constructor
  · rw [List.take_append_of_le_length (by rw [hl]; decide)]
    unfold pngHeadOf chunkOf
    rw [says_length]
    have hs : saysOf w h = [0, 0, 0, w, 0, 0, 0, h, 8, 6, 0, 0, 1] := by
      unfold saysOf
      rw [fourOf_small w hw, fourOf_small h hh]
      rfl
    rw [hs]
    have e13 : fourOf 13 = [0, 0, 0, 13] := fourOf_small 13 (by decide)
    rw [e13]
    unfold signOf kindHead beginOf
    simp
  · rw [List.length_append, hl]
    omega
set_option maxHeartbeats 4000000 in
set_option maxRecDepth 100000 in
theorem phead_law (D : PDoes) (W : World) (wa ha : Int) (a b c d : Nat) (a1 : -9223372036854775808 ≤ wa) (a2 : wa ≤ 9223372036854775807) (b1 : -9223372036854775808 ≤ ha) (b2 : ha ≤ 9223372036854775807) (pa : a ≤ 255) (pb : b ≤ 255) (pc : c ≤ 255) (pd : d ≤ 255) :
    Calls Try.prog 8 #[.int .i64 wa, .int .i64 ha, .agg (px4 a b c d)] W fun e w' => e = .returned (.bool true) ∧ Below W.heap.size W w' := by
  obtain ⟨px, epx⟩ : ∃ px : Nat → Px, px = fun _ => ⟨a, b, c, d⟩ := ⟨_, rfl⟩
  have HOK : Hid (∀ k, (px k).ok) := by
    intro k
    rw [epx]
    exact ⟨by show a < 256; omega, by show b < 256; omega, by show c < 256; omega, by show d < 256; omega⟩
  have HCL : Hid (∀ k, (px k).cells = px4 a b c d) := by
    intro k
    rw [epx]
  obtain ⟨w0, ew0⟩ : ∃ v, v = W.alloc (.cells (px4 a b c d) 39) := ⟨_, rfl⟩
  have HB0 : Hid (Below W.heap.size W w0) := by
    show Below _ _ _
    rw [ew0]
    exact below_alloc1 _ _
  have hx0 : w0.heap[W.heap.size]? = some (.cells (px4 a b c d) 39 (0, 0)) := by rw [ew0]; exact heap_alloc_new _ _
  have hs0 : W.heap.size < w0.heap.size := (Array.getElem?_eq_some_iff.1 hx0).1
  have HX : Hid (∀ w', Below w0.heap.size w0 w' → w'.heap[W.heap.size]? = some (.cells (px4 a b c d) 39 (0, 0))) := fun w' h => (h.block _ hs0).trans hx0
  have K1 : Hid (∀ w', Calls Try.prog 19 #[.int .i64 wa, .int .i64 12] w' fun e w'' => (∃ p : Nat, e = .returned (.int .i64 (p : Int)) ∧ ((1 : Int) ≤ 12 → (p : Int) < 12)) ∧ w' = w'') := fun w' => pick_any wa 12 ⟨a1, a2⟩ (by decide) (by decide) w'
  have K2 : Hid (∀ w', Calls Try.prog 19 #[.int .i64 ha, .int .i64 12] w' fun e w'' => (∃ p : Nat, e = .returned (.int .i64 (p : Int)) ∧ ((1 : Int) ≤ 12 → (p : Int) < 12)) ∧ w' = w'') := fun w' => pick_any ha 12 ⟨b1, b2⟩ (by decide) (by decide) w'
  clear a1 a2 b1 b2 pa pb pc pd epx hx0 hs0
  go_enter Try.func8, Try.ntmps8
  go_upto_region 1 with fail
  rw [← ew0]
  clear ew0
  go_wp2_with fail
  go_at_call 19
  refine (K1.out _).mono ?_
  rintro e w' ⟨⟨p, rfl, hp⟩, rfl⟩
  have hp := hp (by decide)
  clear K1
  obtain ⟨w, ew⟩ : ∃ w, p + 1 = w := ⟨_, rfl⟩
  have hw : 1 + (p : Int) = (w : Int) := by omega
  have hw1 : 1 ≤ w := by omega
  have hw2 : w ≤ 12 := by omega
  clear ew
  go_wp2_with fail
  go_at_call 19
  refine (K2.out _).mono ?_
  rintro e w' ⟨⟨q, rfl, hq⟩, rfl⟩
  have hq := hq (by decide)
  clear K2
  obtain ⟨h, eh⟩ : ∃ h, q + 1 = h := ⟨_, rfl⟩
  have hh : 1 + (q : Int) = (h : Int) := by omega
  have hh1 : 1 ≤ h := by omega
  have hh2 : h ≤ 12 := by omega
  obtain ⟨M, eM⟩ : ∃ M, w * h = M := ⟨_, rfl⟩
  have hM : M ≤ 144 := by
    have : w * h ≤ 12 * 12 := Nat.mul_le_mul hw2 hh2
    omega
  have hM1 : 1 ≤ M := by rw [← eM]; exact Nat.mul_pos hw1 hh1
  have hmul : (w : Int) * (h : Int) = (M : Int) := by rw [← eM]; exact (Int.natCast_mul w h).symm
  have HM := Lib.hid eM
  clear eh eM
  have KL : Hid (∀ (v : Value) (k : Nat) (O : Nat → Prop) (w' : World), encAt w' v w h px k O → k ≤ M → Calls Try.prog 12 #[v] w' fun e w'' => e = .returned (.int .i64 ((M - k : Nat) : Int)) ∧ w' = w'') := fun v k O w' hE hk => by
    have h1 := left_at w' v w h px k O hE (by rw [HM.out]; exact hk)
    rw [HM.out] at h1
    exact h1
  have KP : Hid (∀ (v : Value) (k : Nat) (O : Nat → Prop) (w' : World), encAt w' v w h px k O → k < M → Calls Try.prog 17 #[v, .agg (px4 a b c d)] w' fun e w'' => ∃ o n c O', e = .returned (.tuple #[.slice o n c, .int .i64 0]) ∧ Hid ((pieceAt w h px k).length = n) ∧ Hid (bytesIn w'' (.slice o n c) (pieceAt w h px k)) ∧ Hid (encAt w'' v w h px (k + 1) O') ∧ Hid (∀ q, O' q → O q ∨ w'.heap.size ≤ q) ∧ Hid (Past O w' w'')) := fun v k O w' hE hk => by
    have h1 := put_at w' v w h px k O HOK.out hE (by rw [HM.out]; exact hk) (by rw [HM.out]; omega)
    rw [HCL.out] at h1
    exact h1
  go_wp2_with fail
  go_at_call 10
  refine (new_at w h px w0 hw1 (by omega) hh1 (by omega)).mono ?_
  rintro e w1 ⟨va, O1, rfl, HE1, HO1, HB1⟩
  clear hp hq hw hh
  go_wp2_with fail
  go_at_call 12
  refine (KL.out _ 0 O1 w1 HE1.out (Nat.zero_le _)).mono ?_
  rintro e w' ⟨rfl, rfl⟩
  rw [Nat.sub_zero]
  have hx1 := HX.out w1 HB1.out
  have x0 := cell_of_block hx1 0
  have x1 := cell_of_block hx1 1
  have x2 := cell_of_block hx1 2
  have x3 := cell_of_block hx1 3
  clear hx1
  go_wp2_with fail
  go_at_call 17
  refine (KP.out _ 0 O1 w1 HE1.out (by omega)).mono ?_
  rintro e w2 ⟨o2, n2, c2, O2, rfl, HN2, HU2, HE2, HO2, HP2⟩
  have HB2 : Hid (Below w0.heap.size w0 w2) := HB1.out.trans (HP2.out.below HO1.out HB1.out.size)
  have HOO2 : Hid (∀ q, O2 q → w0.heap.size ≤ q) := fun q hq => (HO2.out q hq).elim (HO1.out q) (fun h' => Nat.le_trans HB1.out.size h')
  have hpb := piece_begin w h px (by omega) (by omega)
  have hn2 : 33 ≤ n2 := by rw [← HN2.out]; exact hpb.2
  obtain ⟨u, hsl, hu, _⟩ := listed_take bytes_type bytes_one HU2.out 29 (by rw [HN2.out]; omega)
  have hsl2 : ∀ w, (Instr.slice 36 (.slice o2 n2 c2) none (some (.int .i64 29)) none).run Try.prog w = .ok u w := hsl
  have hu : bytesIn w2 u (beginOf w h) := by rw [← hpb.1]; exact hu
  have HU := Lib.hid hu
  have d33 : decide ((n2 : Int) < 33) = false := decide_eq_false (by omega)
  have d33' : decide (n2 < 33) = false := decide_eq_false (by omega)
  have cw : IntKind.u8.wrap (w : Int) = (w : Int) := by rw [IntKind.wrap_u8']; omega
  have ch : IntKind.u8.wrap (h : Int) = (h : Int) := by rw [IntKind.wrap_u8']; omega
  clear hpb hsl hu x0 x1 x2 x3 HU2 HP2 HO2 HE1 HB1 HO1
  have HL : Hid (bytesIn (w2.alloc (.cells #[.int .u8 137, .int .u8 80, .int .u8 78, .int .u8 71, .int .u8 13, .int .u8 10, .int .u8 26, .int .u8 10, .int .u8 0, .int .u8 0, .int .u8 0, .int .u8 13, .int .u8 73, .int .u8 72, .int .u8 68, .int .u8 82, .int .u8 0, .int .u8 0, .int .u8 0, .int .u8 (w : Int), .int .u8 0, .int .u8 0, .int .u8 0, .int .u8 (h : Int), .int .u8 8, .int .u8 6, .int .u8 0, .int .u8 0, .int .u8 1] 5)) (.slice (some ⟨w2.heap.size, 0, none⟩) 29 29) (beginOf w h) ∧ Below w2.heap.size w2 (w2.alloc (.cells #[.int .u8 137, .int .u8 80, .int .u8 78, .int .u8 71, .int .u8 13, .int .u8 10, .int .u8 26, .int .u8 10, .int .u8 0, .int .u8 0, .int .u8 0, .int .u8 13, .int .u8 73, .int .u8 72, .int .u8 68, .int .u8 82, .int .u8 0, .int .u8 0, .int .u8 0, .int .u8 (w : Int), .int .u8 0, .int .u8 0, .int .u8 0, .int .u8 (h : Int), .int .u8 8, .int .u8 6, .int .u8 0, .int .u8 0, .int .u8 1] 5))) := by
    obtain ⟨h1, _, h3⟩ := block_fresh (w := w2) (zs := beginOf w h) (n := 29) 5 (vals := #[.int .u8 137, .int .u8 80, .int .u8 78, .int .u8 71, .int .u8 13, .int .u8 10, .int .u8 26, .int .u8 10, .int .u8 0, .int .u8 0, .int .u8 0, .int .u8 13, .int .u8 73, .int .u8 72, .int .u8 68, .int .u8 82, .int .u8 0, .int .u8 0, .int .u8 0, .int .u8 (w : Int), .int .u8 0, .int .u8 0, .int .u8 0, .int .u8 (h : Int), .int .u8 8, .int .u8 6, .int .u8 0, .int .u8 0, .int .u8 1]) rfl rfl
    exact ⟨h1, h3⟩
  go_upto_region 7 with fail
  generalize w2.alloc (.cells #[.int .u8 137, .int .u8 80, .int .u8 78, .int .u8 71, .int .u8 13, .int .u8 10, .int .u8 26, .int .u8 10, .int .u8 0, .int .u8 0, .int .u8 0, .int .u8 13, .int .u8 73, .int .u8 72, .int .u8 68, .int .u8 82, .int .u8 0, .int .u8 0, .int .u8 0, .int .u8 (w : Int), .int .u8 0, .int .u8 0, .int .u8 0, .int .u8 (h : Int), .int .u8 8, .int .u8 6, .int .u8 0, .int .u8 0, .int .u8 1] 5) = w3 at HL ⊢
  have HE3 : Hid (encAt w3 (.pointer va) w h px 1 O2) := encAt_below HE2.out HL.out.2
  have HU3 : Hid (bytesIn w3 u (beginOf w h)) := listed_on HU.out HL.out.2
  have HB3 : Hid (Below w0.heap.size w0 w3) := HB2.out.trans (HL.out.2.mono HB2.out.size)
  clear HE2 HU HB2
  obtain ⟨uo, uc, eu⟩ := listed_length HU3.out
  subst eu
  go_wp2_with fail
  go_at_call 18
  refine (same_yes _ _ (beginOf w h) _ HU3.out HL.out.1).mono ?_
  rintro e w' ⟨rfl, rfl⟩
  obtain ⟨M1, eM1⟩ : ∃ v, M - 1 = v := ⟨_, rfl⟩
  have hM2 : (M : Int) - 1 = (M1 : Int) := by omega
  go_wp2_with fail
  go_at_call 12
  refine (KL.out _ 1 O2 w3 HE3.out hM1).mono ?_
  rintro e w' ⟨rfl, rfl⟩
  rw [eM1]
  go_wp2_with fail
  go_loopw [12] (fun s12 wk => ∃ (k : Nat) (O : Nat → Prop), 1 ≤ k ∧ k ≤ M ∧ s12 = .int .i64 (k : Int) ∧ Hid (encAt wk (.pointer va) w h px k O) ∧ Hid (∀ q, O q → w0.heap.size ≤ q) ∧ Hid (Below w0.heap.size w0 wk)) (fun s12 _ => M - (intOf s12).toNat)
  case atStart => exact ⟨1, O2, Nat.le_refl _, hM1, rfl, HE3.out, HOO2.out, HB3.out⟩
  case round =>
    clear HE3 HOO2 HB3 hsl2 HN2 HL HU3
    obtain ⟨k, O, hk1, hk, rfl, HE, HO, HB⟩ := hrel
    have hx1 := HX.out wr HB.out
    have x0 := cell_of_block hx1 0
    have x1 := cell_of_block hx1 1
    have x2 := cell_of_block hx1 2
    have x3 := cell_of_block hx1 3
    clear hx1
    by_cases hkM : k < M
    · have d1 : decide ((k : Int) < (M : Int)) = true := decide_eq_true (by omega)
      have d1' : decide (k < M) = true := decide_eq_true hkM
      go_wp2_with fail
      go_at_call 17
      refine (KP.out _ k O wr HE.out hkM).mono ?_
      rintro e w5 ⟨o5, n5, c5, O5, rfl, HN5, HU5, HE5, HO5, HP5⟩
      have HB5 : Hid (Below w0.heap.size w0 w5) := HB.out.trans (HP5.out.below HO.out HB.out.size)
      have HOO5 : Hid (∀ q, O5 q → w0.heap.size ≤ q) := fun q hq => (HO5.out q hq).elim (HO.out q) (fun h' => Nat.le_trans HB.out.size h')
      obtain ⟨R, eR⟩ : ∃ v, M - (k + 1) = v := ⟨_, rfl⟩
      have hR : (M1 : Int) - (k : Int) = (R : Int) := by omega
      clear x0 x1 x2 x3 HN5 HU5 HO5 HP5
      go_wp2_with fail
      go_at_call 12
      refine (KL.out _ (k + 1) O5 w5 HE5.out (by omega)).mono ?_
      rintro e w' ⟨rfl, rfl⟩
      rw [eR]
      go_wp2_with fail
      go_roundw
      case rel => exact ⟨k + 1, O5, by omega, by omega, by first | rfl | go_num, HE5.out, HOO5.out, HB5.out⟩
      case measure => simp [intOf]; omega
    · obtain rfl : k = M := by omega
      have d1 : decide ((k : Int) < (k : Int)) = false := decide_eq_false (by omega)
      have KO : Hid (Calls Try.prog 17 #[.pointer va, .agg (px4 a b c d)] wr fun e w' => e = .returned (.tuple #[.slice none 0 0, .int .i64 23]) ∧ Hid (Below wr.heap.size wr w')) := by
        have hE := HE.out
        rw [← HM.out] at hE
        exact over_at wr (.pointer va) w h px O ⟨a, b, c, d⟩ hE
      go_wp2_with fail
      go_at_call 17
      refine KO.out.mono ?_
      rintro e w5 ⟨rfl, HB5⟩
      have HE5 : Hid (encAt w5 (.pointer va) w h px k O) := encAt_below HE.out HB5.out
      clear x0 x1 x2 x3 KO
      go_wp2_with fail
      go_at_call 12
      refine (KL.out _ k O w5 HE5.out (Nat.le_refl _)).mono ?_
      rintro e w' ⟨rfl, rfl⟩
      rw [Nat.sub_self]
      go_wp2_with fail
      go_at_call 15
      refine (pawake_any D w5).mono ?_
      rintro e w6 ⟨rfl, HB6⟩
      go_wp2_with fail
      go_ret
      have h1 := HB.out.trans (HB5.out.mono HB.out.size)
      exact ⟨rfl, HB0.out.trans ((h1.trans (HB6.out.mono h1.size)).mono HB0.out.size)⟩
end Go.Proofs.Ytefdlidjdmlnaaa.Fx
