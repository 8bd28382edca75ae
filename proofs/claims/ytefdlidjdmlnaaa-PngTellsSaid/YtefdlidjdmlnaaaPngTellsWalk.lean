/-
  Pixels that are put tell the document's pieces. The conditions stand in each.
-/
import Derived.Test.YtefdlidjdmlnaaaPngA
import Derived.Test.YtefdlidjdmlnaaaPngY
import Derived.Test.YtefdlidjdmlnaaaPngT
import Derived.Test.YtefdlidjdmlnaaaPngO
namespace Go.Proofs.Ytefdlidjdmlnaaa.Fx
open Go Go.RowKit Go.Joins
set_option linter.unusedVariables false
set_option maxRecDepth 100000 in
theorem fours_type : Try.prog.underlying 33 = some (.slice (Try.prog.elem 33)) := Try.underlying33
set_option maxRecDepth 100000 in
theorem fours_size (w : World) : (sizeOf (Try.prog.elem 33)).run Try.prog w = .ok 4 w := by rfl
/-- The first pixels of a list. -/
theorem pix_take {W : World} {o : Option Addr} {n c : Nat} {px : Nat → Px} (h : pixIn W (.slice o n c) n px) (M : Nat) (hM : M < n) :
    (∀ w, (Instr.slice 33 (.slice o n c) none (some (.int .i64 (M : Int))) none).run Try.prog w = .ok (.slice o M c) w) ∧ pixIn W (.slice o M c) M px := by
  rcases h with ⟨rfl, _⟩ | ⟨b, off, cap, e, hc, hlt, hi⟩
  · omega
  · simp only [Value.slice.injEq] at e
    obtain ⟨rfl, _, rfl⟩ := e
    refine ⟨fun w => ?_, .inr ⟨b, off, c, rfl, by omega, hlt, fun i hM2 => hi i (by omega)⟩⟩
    rw [run_slice_h w 33 (some ⟨b, off, none⟩) n c fours_type .i64 M (by omega) (by omega), fours_size]
    simp [sliced, Result.andThen, addr_add_zero]
def pxNil : Px := ⟨0, 0, 0, 0⟩
set_option maxHeartbeats 4000000 in
set_option maxRecDepth 100000 in
theorem ptells_law (D : PDoes) (W : World) (wa ha : Int) (v : Value) (n : Nat) (px : Nat → Px) (a1 : -9223372036854775808 ≤ wa) (a2 : wa ≤ 9223372036854775807) (b1 : -9223372036854775808 ≤ ha) (b2 : ha ≤ 9223372036854775807) (hr : pixIn W v n px) (h8 : ∀ k, (px k).ok) :
    Calls Try.prog 4 #[.int .i64 wa, .int .i64 ha, v] W fun e w' => e = .returned (.bool true) ∧ Below W.heap.size W w' := by
  obtain ⟨po, pc, rfl⟩ := pixIn_shape hr
  have HP := Lib.hid hr
  have HPX := Lib.hid h8
  clear hr h8
  go_enter Try.func4, Try.ntmps4
  by_cases h12 : 12 < wa
  · have d1 : decide ((12 : Int) < wa) = true := decide_eq_true h12
    go_wp2_with fail
    go_at_call 15
    refine (pawake_any D W).mono ?_
    rintro e w4 ⟨rfl, HB4⟩
    go_wp2_with fail
    go_ret
    exact ⟨rfl, HB4.out⟩
  have d1 : decide ((12 : Int) < wa) = false := decide_eq_false h12
  by_cases h13 : 12 < ha
  · have d2 : decide ((12 : Int) < ha) = true := decide_eq_true h13
    go_wp2_with fail
    go_at_call 15
    refine (pawake_any D W).mono ?_
    rintro e w4 ⟨rfl, HB4⟩
    go_wp2_with fail
    go_ret
    exact ⟨rfl, HB4.out⟩
  have d2 : decide ((12 : Int) < ha) = false := decide_eq_false h13
  by_cases hin : 1 ≤ wa ∧ 1 ≤ ha
  case neg =>
    have hn : ¬ (1 ≤ wa ∧ wa ≤ 1024 ∧ 1 ≤ ha ∧ ha ≤ 1024) := fun h => hin ⟨h.1, h.2.2.1⟩
    have KN : Hid (∀ w', Calls Try.prog 10 #[.int .i64 wa, .int .i64 ha] w' fun e w'' => e = .returned (.tuple #[.pointer none, .int .i64 2]) ∧ w' = w'') := fun w' => pnew_none wa ha w' hn
    have KO : Hid (∀ w', Calls Try.prog 11 #[.int .i64 wa, .int .i64 ha] w' fun e w'' => e = .returned (.slice none 0 0) ∧ w' = w'') := fun w' => order_none wa ha w' hn
    have KA := Lib.hid (pawake_any D W)
    have fin : (decide ((1 : Int) ≤ wa) = false) ∨ (decide ((1 : Int) ≤ wa) = true ∧ decide ((1 : Int) ≤ ha) = false) := by
      by_cases h1 : 1 ≤ wa
      · exact .inr ⟨decide_eq_true h1, decide_eq_false (fun h => hin ⟨h1, h⟩)⟩
      · exact .inl (decide_eq_false h1)
    clear hn hin h12 h13 a1 a2 b1 b2
    rcases fin with d3 | ⟨d3, d4⟩
    · go_wp2_with fail
      go_at_call 10
      refine (KN.out _).mono ?_
      rintro e w' ⟨rfl, rfl⟩
      go_wp2_with fail
      go_at_call 11
      refine (KO.out _).mono ?_
      rintro e w' ⟨rfl, rfl⟩
      go_wp2_with fail
      go_at_call 15
      refine KA.out.mono ?_
      rintro e w4 ⟨rfl, HB4⟩
      go_wp2_with fail
      go_ret
      exact ⟨rfl, HB4.out⟩
    · go_wp2_with fail
      go_at_call 10
      refine (KN.out _).mono ?_
      rintro e w' ⟨rfl, rfl⟩
      go_wp2_with fail
      go_at_call 11
      refine (KO.out _).mono ?_
      rintro e w' ⟨rfl, rfl⟩
      go_wp2_with fail
      go_at_call 15
      refine KA.out.mono ?_
      rintro e w4 ⟨rfl, HB4⟩
      go_wp2_with fail
      go_ret
      exact ⟨rfl, HB4.out⟩
  case pos =>
    obtain ⟨w, rfl⟩ : ∃ w : Nat, wa = (w : Int) := ⟨wa.toNat, by omega⟩
    obtain ⟨h, rfl⟩ : ∃ h : Nat, ha = (h : Int) := ⟨ha.toNat, by omega⟩
    have hw1 : 1 ≤ w := by omega
    have hw2 : w ≤ 12 := by omega
    have hh1 : 1 ≤ h := by omega
    have hh2 : h ≤ 12 := by omega
    obtain ⟨M, eM⟩ : ∃ M, w * h = M := ⟨_, rfl⟩
    have hM : M ≤ 144 := by
      have : w * h ≤ 12 * 12 := Nat.mul_le_mul hw2 hh2
      omega
    have hM1 : 1 ≤ M := by rw [← eM]; exact Nat.mul_pos hw1 hh1
    have hmul : (w : Int) * (h : Int) = (M : Int) := by rw [← eM]; exact (Int.natCast_mul w h).symm
    have HM := Lib.hid eM
    have d1' : decide (12 < w) = false := decide_eq_false (by omega)
    have d2' : decide (12 < h) = false := decide_eq_false (by omega)
    have d3 : decide ((1 : Int) ≤ (w : Int)) = true := decide_eq_true (by omega)
    have d3' : decide (1 ≤ w) = true := decide_eq_true hw1
    have d4 : decide ((1 : Int) ≤ (h : Int)) = true := decide_eq_true (by omega)
    have d4' : decide (1 ≤ h) = true := decide_eq_true hh1
    clear eM hin h12 h13 a1 a2 b1 b2
    go_wp2_with fail
    go_at_call 10
    refine (new_at w h px W hw1 (by omega) hh1 (by omega)).mono ?_
    rintro e w1 ⟨va, O1, rfl, HE1, HO1, HB1⟩
    go_upto_if 62 with fail
    go_cut [2] (fun s2 wx => ∃ m c, s2 = .slice po m c ∧ m ≤ M ∧ wx = w1 ∧ Hid (pixIn W (.slice po m c) m px))
    case first =>
      by_cases hn : M < n
      · have e1 : decide ((M : Int) < (n : Int)) = true := decide_eq_true (by omega)
        have e1' : decide (M < n) = true := decide_eq_true hn
        obtain ⟨hsl, hpm⟩ := pix_take HP.out M hn
        have HPM := Lib.hid hpm
        clear hpm
        go_wp2_with fail
        go_meet
        exact ⟨M, pc, rfl, Nat.le_refl _, rfl, HPM.out⟩
      · have e1 : decide ((M : Int) < (n : Int)) = false := decide_eq_false (by omega)
        have e1' : decide (M < n) = false := decide_eq_false hn
        go_wp2_with fail
        go_meet
        exact ⟨n, pc, rfl, by omega, rfl, HP.out⟩
    case rest =>
      obtain ⟨m, pd, rfl, hm, rfl, HPM⟩ := hcut
      rename World => w1
      have KP := rpieces_new w h m px (.slice po m pd) w1 hw1 (by omega) hh1 (by omega) HPX.out (pixIn_on HPM.out HB1.out) (by rw [HM.out]; exact hm) (by omega)
      clear d1 d2 d1' d2' d3 d3' d4 d4'
      go_wp2_with fail
      go_at_call 16
      refine KP.mono ?_
      clear KP
      rintro e w2 ⟨qo, qc, rfl, HL, HB2⟩
      have HE2 : Hid (encAt w2 (.pointer va) w h px 0 O1) := encAt_below HE1.out HB2.out
      have HBW : Hid (Below W.heap.size W w2) := HB1.out.trans (HB2.out.mono HB1.out.size)
      have HOL : Hid (∀ q, O1 q → q < w1.heap.size) := encAt_lt HE1.out
      have HS12 : Hid (w1.heap.size ≤ w2.heap.size) := HB2.out.size
      obtain ⟨M1, eM1⟩ : ∃ v, M - 1 = v := ⟨_, rfl⟩
      have hM2 : (M : Int) - 1 = (M1 : Int) := by omega
      clear HE1
      go_wp2_with fail
      go_loopw [11] (fun s11 wk => ∃ (k : Nat) (O : Nat → Prop), k ≤ m ∧ s11 = .int .i64 (k : Int) ∧ Hid (encAt wk (.pointer va) w h px k O) ∧ Hid (∀ q, O q → W.heap.size ≤ q ∧ (q < w1.heap.size ∨ w2.heap.size ≤ q)) ∧ Hid (Below W.heap.size W wk) ∧ Hid (w2.heap.size ≤ wk.heap.size ∧ ∀ q, w1.heap.size ≤ q → q < w2.heap.size → wk.heap[q]? = w2.heap[q]?)) (fun s11 _ => m - (intOf s11).toNat)
      case atStart => exact ⟨0, O1, Nat.zero_le _, rfl, HE2.out, fun q hq => ⟨HO1.out q hq, .inl (HOL.out q hq)⟩, HBW.out, Nat.le_refl _, fun _ _ _ => rfl⟩
      case round =>
        clear HE2 HBW HOL HO1
        obtain ⟨k, O, hk, rfl, HE, HO, HB, HK⟩ := hrel
        by_cases hkm : k < m
        · have e1 : decide ((k : Int) < (m : Int)) = true := decide_eq_true (by omega)
          have e1' : decide (k < m) = true := decide_eq_true hkm
          obtain ⟨pb, pof, rfl, plt, x0, x1, x2, x3⟩ := pixIn_get (pixIn_on HPM.out HB.out) k hkm
          have KPut : Calls Try.prog 17 #[.pointer va, .agg (px4 (px k).a (px k).b (px k).c (px k).d)] wr fun e w' => ∃ o n c O', e = .returned (.tuple #[.slice o n c, .int .i64 0]) ∧ Hid ((pieceAt w h px k).length = n) ∧ Hid (bytesIn w' (.slice o n c) (pieceAt w h px k)) ∧ Hid (encAt w' (.pointer va) w h px (k + 1) O') ∧ Hid (∀ q, O' q → O q ∨ wr.heap.size ≤ q) ∧ Hid (Past O wr w') := put_at wr (.pointer va) w h px k O HPX.out HE.out (by rw [HM.out]; omega) (by rw [HM.out]; omega)
          go_wp2_with fail
          go_at_call 17
          refine KPut.mono ?_
          clear KPut x0 x1 x2 x3 plt
          rintro e w5 ⟨o5, n5, c5, O5, rfl, HN5, HU5, HE5, HO5, HP5⟩
          have HK5 : Hid (w2.heap.size ≤ w5.heap.size ∧ ∀ q, w1.heap.size ≤ q → q < w2.heap.size → w5.heap[q]? = w2.heap[q]?) := ⟨Nat.le_trans HK.out.1 HP5.out.size, fun q h1 h2 => (HP5.out.block q (by have := HK.out.1; omega) (fun hq => by have := (HO.out q hq).2; omega)).trans (HK.out.2 q h1 h2)⟩
          have HB5 : Hid (Below W.heap.size W w5) := HB.out.trans (HP5.out.below (fun q hq => (HO.out q hq).1) HB.out.size)
          have HOO5 : Hid (∀ q, O5 q → W.heap.size ≤ q ∧ (q < w1.heap.size ∨ w2.heap.size ≤ q)) := fun q hq => (HO5.out q hq).elim (HO.out q) (fun h' => ⟨Nat.le_trans HB.out.size h', .inr (Nat.le_trans HK.out.1 h')⟩)
          have hL5 : listsIn w5 (.slice qo m qc) (piecesTo w h px m) := (HL.out.on HK5.out.1 HK5.out.2).lists
          have hgk : (piecesTo w h px m)[k]? = some (pieceAt w h px k) := by
            unfold piecesTo
            rw [List.getElem?_map, List.getElem?_range hkm]
            rfl
          obtain ⟨lb, lof, uo, uc, rfl, llt, lc, lr⟩ := lists_at hL5 k (pieceAt w h px k) hgk
          rw [HN5.out] at lc lr
          have HLR := Lib.hid lr
          obtain ⟨R, eR⟩ : ∃ v, M - (k + 1) = v := ⟨_, rfl⟩
          have hR : (M1 : Int) - (k : Int) = (R : Int) := by omega
          have KL : Hid (Calls Try.prog 12 #[.pointer va] w5 fun e w'' => e = .returned (.int .i64 (R : Int)) ∧ w5 = w'') := by
            have h1 := left_at w5 (.pointer va) w h px (k + 1) O5 HE5.out (by rw [HM.out]; omega)
            rw [HM.out, eR] at h1
            exact h1
          clear HN5 HO5 HP5 hL5 hgk lr eR HE HO HK HB
          go_wp2_with fail
          go_at_call 18
          refine (same_yes _ _ (pieceAt w h px k) _ HU5.out HLR.out).mono ?_
          rintro e w' ⟨rfl, rfl⟩
          go_wp2_with fail
          go_at_call 12
          refine KL.out.mono ?_
          rintro e w' ⟨rfl, rfl⟩
          go_wp2_with fail
          go_roundw
          case rel => exact ⟨k + 1, O5, by omega, by first | rfl | go_num, HE5.out, HOO5.out, HB5.out, HK5.out⟩
          case measure => simp [intOf]; omega
        · obtain rfl : k = m := by omega
          have e1 : decide ((k : Int) < (k : Int)) = false := decide_eq_false (by omega)
          go_upto_if 108 with fail
          go_cut [14, 15] (fun s14 s15 wx => Hid (Below W.heap.size W wx))
          case first =>
            by_cases hkM : k = M
            · subst hkM
              have hE := HE.out
              rw [← HM.out] at hE
              have KO : Calls Try.prog 17 #[.pointer va, .agg #[.int .u8 0, .int .u8 0, .int .u8 0, .int .u8 0]] wr fun e w' => e = .returned (.tuple #[.slice none 0 0, .int .i64 23]) ∧ Hid (Below wr.heap.size wr w') := over_at wr (.pointer va) w h px O pxNil hE
              clear hE
              have f1 : ((k : Int) == (k : Int)) = true := by simp
              have f2 : decide ((k : Int) = (k : Int)) = true := decide_eq_true rfl
              go_wp2_with fail
              go_at_call 17
              refine KO.mono ?_
              rintro e w5 ⟨rfl, HB5⟩
              go_wp2_with fail
              go_meet
              exact HB.out.trans (HB5.out.mono HB.out.size)
            · have f1 : ((k : Int) == (M : Int)) = false := by simp; omega
              have f2 : decide ((k : Int) = (M : Int)) = false := decide_eq_false (by omega)
              have f3 : decide (k = M) = false := decide_eq_false hkM
              go_wp2_with fail
              go_meet
              exact HB.out
          case rest =>
            rename World => w6
            have HB6 : Hid (Below W.heap.size W w6) := hcut
            clear hcut HE HO HB HK HL e1
            go_wp2_with fail
            go_at_call 11
            refine (order_code w h w6 hw1 (by omega) hh1 (by omega)).mono ?_
            rintro e w7 ⟨o3, n3, c3, rfl, HN3, HR3, HB3⟩
            have HL3 : Hid (numsList w7 (.slice o3 n3 c3) (orderOf w h)) := own_listed HR3.out.1
            have HBB : Hid (Below W.heap.size W w7) := HB6.out.trans (HB3.out.mono HB6.out.size)
            go_wp2_with fail
            go_at_call 14
            refine (rorder_any w h w7 hw1 (by omega) hh1 (by omega)).mono ?_
            rintro e w8 ⟨o4, n4, c4, rfl, HN4, HR4, HB4⟩
            have HL4 : Hid (numsList w8 (.slice o3 n3 c3) (orderOf w h) ∧ numsList w8 (.slice o4 n4 c4) (orderOf w h)) := ⟨listed_on HL3.out HB4.out, own_listed HR4.out.1⟩
            have HBC : Hid (Below W.heap.size W w8) := HBB.out.trans (HB4.out.mono HBB.out.size)
            clear HR3 HR4 HB3 HB4 HL3 HN3 HN4
            go_wp2_with fail
            go_at_call 13
            refine (sameInts_code _ _ (orderOf w h) w8 HL4.out.1 HL4.out.2 (by rw [order_length, HM.out]; omega)).mono ?_
            rintro e w9 ⟨rfl, HB5⟩
            have HBD : Hid (Below W.heap.size W w9) := HBC.out.trans (HB5.out.mono HBC.out.size)
            go_wp2_with fail
            go_at_call 15
            refine (pawake_any D w9).mono ?_
            rintro e w10 ⟨rfl, HB10⟩
            go_wp2_with fail
            go_ret
            exact ⟨rfl, HBD.out.trans (HB10.out.mono HBD.out.size)⟩
end Go.Proofs.Ytefdlidjdmlnaaa.Fx
