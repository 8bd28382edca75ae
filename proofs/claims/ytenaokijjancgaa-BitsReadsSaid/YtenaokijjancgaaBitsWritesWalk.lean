/-
  The walk of BitsWrites, over what the calls do. The conditions are that the script reads as one.
-/
import Derived.StillTailTactics
import Derived.Test.YtenaokijjancgaaBitsOps
import Derived.Test.YtenaokijjancgaaBitsA
namespace Go.Proofs.Ytenaokijjancgaa.Fx
open Go Go.RowKit Go.Joins
set_option linter.unusedVariables false
set_option maxHeartbeats 4000000 in
set_option maxRecDepth 100000 in
theorem writes_any {isW isR : World → Value → List Bool → Nat → (Nat → Prop) → Prop} (D : Does isW isR) (DB : ∀ w v l t O, isW w v l t O → Calls Try.prog 12 #[v] w fun e w' => e = .returned (.int .i64 (l.length : Int)) ∧ w = w')
    (W : World) (v : Value) (cs : List Call) (hc : scriptIn W v cs) (hok : ∀ c ∈ cs, c.ok) :
    Calls Try.prog 4 #[v] W fun e w' => e = .returned (.bool true) ∧ Below W.heap.size W w' := by
  obtain ⟨so, sc, rfl⟩ := script_length hc
  have HC := Lib.hid hc
  have HOK := Lib.hid hok
  obtain ⟨n, en⟩ : ∃ n, cs.length = n := ⟨_, rfl⟩
  have EN := Lib.hid en
  rw [en] at HC ⊢
  clear hc hok en
  go_enter Try.func4, Try.ntmps4
  go_wp2_with (go_at_call 10; refine (D.wnew W).mono ?_; rintro e w1 ⟨vW, O, rfl, k1, k2, k3⟩)
  have hbox : (w1.alloc (.cells #[.slice none 0 0, .int .i64 0] 40)).heap[w1.heap.size]? = some (.cells #[.slice none 0 0, .int .i64 0] 40 (0, 0)) := heap_alloc_new w1 _
  obtain ⟨gV, eg⟩ : ∃ gV, w1.heap.size = gV := ⟨_, rfl⟩
  have hB0 : Both isW 40 W.heap.size (w1.alloc (.cells #[.slice none 0 0, .int .i64 0] 40)) vW gV [] 0 O (.slice none 0 0) [] 0 := by
    have hal : Below w1.heap.size w1 (w1.alloc (.cells #[.slice none 0 0, .int .i64 0] 40)) := (Below.refl _ _).alloc (Nat.le_refl _) _
    have hlt := D.wlt _ _ _ _ _ k1
    refine ⟨D.wkeep _ _ _ _ _ _ k1 hal.size (fun k hk => hal.block k (hlt k hk)), fun k hk => Nat.lt_of_lt_of_le (hlt k hk) hal.size, k2, by rw [← eg]; exact hbox, listed_none _ _, fun b hb => ?_, by rw [← eg]; exact k3.size, fun ho => ?_⟩
    · obtain ⟨off, m, cap, h, _⟩ := hb
      cases h
    · have := hlt gV ho
      omega
  have hbl : Below W.heap.size W (w1.alloc (.cells #[.slice none 0 0, .int .i64 0] 40)) := k3.alloc k3.size _
  obtain ⟨w2, e2⟩ : ∃ w2, w2 = w1.alloc (.cells #[.slice none 0 0, .int .i64 0] 40) := ⟨_, rfl⟩
  rw [eg]
  rw [← e2] at hB0 hbl ⊢
  clear e2 eg hbox k1 k2 k3
  go_loopw [5] (fun i wr => ∃ (k : Nat) (L : List Bool) (t : Nat) (O : Nat → Prop) (u : Value), k ≤ n ∧ k ≤ 100 ∧ i = .int .i64 k ∧ Both isW 40 W.heap.size wr vW gV L t O u L t ∧ L.length ≤ 32 * k ∧ 8 * t ≤ L.length ∧ Below W.heap.size W wr) (fun i _ => 100 - (intOf i).toNat)
  case atStart => exact ⟨0, [], 0, O, .slice none 0 0, Nat.zero_le _, Nat.zero_le _, rfl, hB0, Nat.zero_le _, Nat.le_refl _, hbl⟩
  case round =>
    clear hB0 hbl
    obtain ⟨k, L, t, O, u, hkn, hk1, rfl, hBo, hLk, htL, hbl⟩ := hrel
    have HBO := Lib.hid hBo
    have HBL := Lib.hid hbl
    clear hBo hbl
    by_cases hgo : k < n ∧ k < 100
    · obtain ⟨hk2, hk3⟩ := hgo
      have hd1 : decide ((k : Int) < (n : Int)) = true := decide_eq_true (by omega)
      have hd2 : decide ((k : Int) < 100) = true := decide_eq_true (by omega)
      obtain ⟨c, ec⟩ : ∃ c, cs[k]? = some c := ⟨cs[k]'(by rw [EN.out]; exact hk2), List.getElem?_eq_getElem _⟩
      obtain ⟨b, off, cap, es, hlt, c0, c1, c2⟩ := script_at HC.out k c ec
      rw [EN.out] at es
      simp only [Value.slice.injEq] at es
      obtain ⟨rfl, _, rfl⟩ := es
      have c0 := (HBL.out.cell hlt).trans c0
      have c1 := (HBL.out.cell hlt).trans c1
      have c2 := (HBL.out.cell hlt).trans c2
      have hcok := HOK.out c (List.mem_of_getElem? ec)
      obtain ⟨kd, cn, ck⟩ := c
      obtain ⟨⟨hd0, hd9⟩, hn32, hk64⟩ := hcok
      simp only at c0 c1 c2 hd0 hd9 hn32 hk64
      clear ec
      obtain ⟨uo, uc, rfl⟩ := listed_length HBO.out.val
      obtain ⟨m, em⟩ : ∃ m, L.length = m := ⟨_, rfl⟩
      rw [em] at HBO hLk htL
      have EM := Lib.hid em
      clear em
      go_upto_block 2 with fail
      have hs0 := HBL.out.size
      obtain ⟨gO, eO⟩ : ∃ gO, wr.heap.size = gO := ⟨_, rfl⟩
      have hal : Below wr.heap.size wr (wr.alloc (.cells #[.int .i64 kd, .int .u32 (cn : Int), .int .i64 ck] 42)) := (Below.refl _ _).alloc (Nat.le_refl _) _
      have hO : (wr.alloc (.cells #[.int .i64 kd, .int .u32 (cn : Int), .int .i64 ck] 42)).heap[gO]? = some (.cells #[.int .i64 kd, .int .u32 (cn : Int), .int .i64 ck] 42 (0, 0)) := by rw [← eO]; exact heap_alloc_new wr _
      have hB1 := HBO.out.below (D.wkeep _ _ _ _ _ _ HBO.out.is hal.size (fun k hk => hal.block k (HBO.out.olt k hk))) hal
      have hbl1 := HBL.out.trans (hal.mono hs0)
      have hnO : ¬ O gO := fun ho => by have := HBO.out.olt gO ho; omega
      have hOV : gO ≠ gV := fun e => by have := HBO.out.lt; omega
      obtain ⟨w0, e0⟩ : ∃ w0, w0 = wr.alloc (.cells #[.int .i64 kd, .int .u32 (cn : Int), .int .i64 ck] 42) := ⟨_, rfl⟩
      rw [eO]
      rw [← e0] at hO hB1 hbl1 ⊢
      clear e0 hal c0 c1 c2
      have HB1 := Lib.hid hB1
      have HO := Lib.hid hO
      have HBL1 := Lib.hid hbl1
      have hs1 := hbl1.size
      have x0 := cell_of_block hO 0
      have x1 := cell_of_block hO 1
      have x2 := cell_of_block hO 2
      clear hO hB1 hbl1
      go_cut [7, 8, 9, 10] (fun s7 s8 s9 s10 wx => ∃ (x : Int) (L' : List Bool) (t' : Nat) (O' : Nat → Prop) (u' : Value), s7 = .int .i64 x ∧ s8 = .int .i64 x ∧ Hid (Both isW 40 W.heap.size wx vW gV L' t' O' u' L' t' ∧ L'.length ≤ 32 * (k + 1) ∧ 8 * t' ≤ L'.length ∧ Below W.heap.size W wx ∧ ∃ zs, bytesIn wx s9 zs ∧ bytesIn wx s10 zs))
      case first =>
        rcases (show kd = 1 ∨ kd = 2 ∨ kd = 3 ∨ kd = 4 ∨ kd = 5 ∨ kd = 6 ∨ (kd ≠ 1 ∧ kd ≠ 2 ∧ kd ≠ 3 ∧ kd ≠ 4 ∧ kd ≠ 5 ∧ kd ≠ 6) by omega) with rfl | rfl | rfl | rfl | rfl | rfl | ⟨z1, z2, z3, z4, z5, z6⟩
        · by_cases hgood : (0 ≤ ck ∧ ck ≤ 32) ∧ cn < 2 ^ ck.toNat
          · obtain ⟨⟨hg0, hg1⟩, hg2⟩ := hgood
            obtain ⟨q, rfl⟩ : ∃ q : Nat, ck = (q : Int) := ⟨ck.toNat, by omega⟩
            rw [Int.toNat_natCast] at hg2
            have HG2 := Lib.hid hg2
            have hq : q ≤ 32 := by omega
            clear hg2
            go_wp2_with fail
            go_at_call 11
            refine (D.put _ vW L t O cn q HB1.out.is (by rw [EM.out]; omega) hq HG2.out).mono ?_
            rintro e w2 ⟨O2, rfl, k1, k2, k3⟩
            have HB2 := Lib.hid (HB1.out.call k1 (D.wlt _ _ _ _ _ k1) k2 k3 hs1)
            obtain ⟨ho2, hn2⟩ := Both.else HO.out hnO k2 k3
            have HBL2 := Lib.hid (HBL1.out.trans (k3.below HB1.out.own hs1))
            have hs2 := HBL2.out.size
            have y1 := cell_of_block ho2 1
            have y2 := cell_of_block ho2 2
            have b0 := cell_of_block HB2.out.box 0
            have b1 := cell_of_block HB2.out.box 1
            clear k1 k3 ho2
            go_wp2_with fail
            go_at_call 21
            refine (rput_any (.slice uo m uc) L t cn q w2 HB2.out.val (by rw [EM.out]; omega) hq HG2.out).mono ?_
            rintro e w3 ⟨u3, rfl, v1, v2, hb3⟩
            have HB3 := Lib.hid (HB2.out.below (D.wkeep _ _ _ _ _ _ HB2.out.is hb3.size (fun k hk => hb3.block k (HB2.out.olt k hk))) hb3)
            have HBL3 := Lib.hid (HBL2.out.trans (hb3.mono hs2))
            clear b0 b1
            have b0 := cell_of_block HB3.out.box 0
            have b1 := cell_of_block HB3.out.box 1
            have f0 := unfrozen_of_block HB3.out.box 0
            have f1 := unfrozen_of_block HB3.out.box 1
            obtain ⟨o3, d3, rfl⟩ := listed_length v1
            have V1 := Lib.hid v1
            have V2 := Lib.hid v2
            have HL : Hid ((L ++ bitsOf cn q).length = m + q) := by
              show _ = _
              rw [List.length_append, bitsOf_length, EM.out]
            rw [HL.out] at V1 V2 ⊢
            clear v1 v2
            go_wp2_with fail
            go_meet
            refine ⟨0, L ++ bitsOf cn q, t, O2, .slice o3 (m + q) d3, rfl, rfl, Lib.hid ⟨HB3.out.store V1.out (fun b hb => ?_) (fun w' h1 h2 => D.wkeep _ _ _ _ _ _ HB3.out.is h1 h2), by rw [HL.out]; omega, by rw [HL.out]; omega, ((HBL3.out.setCell (p := ⟨gV, 0, none⟩) HB3.out.gv.1 _).setCell (p := ⟨gV, 1, none⟩) HB3.out.gv.1 _), ⟨[], listed_none _ _, listed_none _ _⟩⟩⟩
            have h1 := V2.out b hb
            have h2 := HB2.out.lt
            exact ⟨by omega, fun ho => by have := HB2.out.olt b ho; omega, by omega⟩
          · have hbad : ck < 0 ∨ 32 < ck ∨ (2 : Int) ^ ck.toNat ≤ (cn : Int) := by
              by_cases h1 : ck < 0
              · exact .inl h1
              · by_cases h2 : 32 < ck
                · exact .inr (.inl h2)
                · refine .inr (.inr ?_)
                  have h3 : ¬ cn < 2 ^ ck.toNat := fun h => hgood ⟨⟨by omega, by omega⟩, h⟩
                  have h4 : (2 : Int) ^ ck.toNat = ((2 ^ ck.toNat : Nat) : Int) := by rw [Int.natCast_pow]; rfl
                  omega
            have HBAD := Lib.hid hbad
            clear hbad hgood
            go_wp2_with fail
            go_at_call 11
            refine (D.putBad _ vW L t O cn ck HB1.out.is (by omega) hk64 HBAD.out).mono ?_
            rintro e w2 ⟨O2, rfl, k1, k2, k3⟩
            have HB2 := Lib.hid (HB1.out.call k1 (D.wlt _ _ _ _ _ k1) k2 k3 hs1)
            obtain ⟨ho2, hn2⟩ := Both.else HO.out hnO k2 k3
            have HBL2 := Lib.hid (HBL1.out.trans (k3.below HB1.out.own hs1))
            have hs2 := HBL2.out.size
            have y1 := cell_of_block ho2 1
            have y2 := cell_of_block ho2 2
            have b0 := cell_of_block HB2.out.box 0
            have b1 := cell_of_block HB2.out.box 1
            clear k1 k3 ho2
            go_wp2_with fail
            go_at_call 21
            refine (rput_bad uo m uc t cn ck w2 (by omega) hk64 HBAD.out).mono ?_
            rintro e w3 ⟨rfl, hb3⟩
            have HB3 := Lib.hid (HB2.out.below (D.wkeep _ _ _ _ _ _ HB2.out.is hb3.size (fun k hk => hb3.block k (HB2.out.olt k hk))) hb3)
            have HBL3 := Lib.hid (HBL2.out.trans (hb3.mono hs2))
            clear b0 b1
            have b0 := cell_of_block HB3.out.box 0
            have b1 := cell_of_block HB3.out.box 1
            have f0 := unfrozen_of_block HB3.out.box 0
            have f1 := unfrozen_of_block HB3.out.box 1
            go_wp2_with fail
            go_meet
            exact ⟨2, L, t, O2, .slice uo m uc, rfl, rfl, Lib.hid ⟨HB3.out.store HB3.out.val HB3.out.apart (fun w' h1 h2 => D.wkeep _ _ _ _ _ _ HB3.out.is h1 h2), by rw [EM.out]; omega, by rw [EM.out]; omega, ((HBL3.out.setCell (p := ⟨gV, 0, none⟩) HB3.out.gv.1 _).setCell (p := ⟨gV, 1, none⟩) HB3.out.gv.1 _), ⟨[], listed_none _ _, listed_none _ _⟩⟩⟩
        · by_cases hgood : (0 ≤ ck ∧ ck ≤ 32) ∧ cn < 2 ^ ck.toNat
          · obtain ⟨⟨hg0, hg1⟩, hg2⟩ := hgood
            obtain ⟨q, rfl⟩ : ∃ q : Nat, ck = (q : Int) := ⟨ck.toNat, by omega⟩
            rw [Int.toNat_natCast] at hg2
            have HG2 := Lib.hid hg2
            have hq : q ≤ 32 := by omega
            clear hg2
            go_wp2_with fail
            go_at_call 11
            refine (D.put _ vW L t O cn q HB1.out.is (by rw [EM.out]; omega) hq HG2.out).mono ?_
            rintro e w2 ⟨O2, rfl, k1, k2, k3⟩
            have HB2 := Lib.hid (HB1.out.call k1 (D.wlt _ _ _ _ _ k1) k2 k3 hs1)
            obtain ⟨ho2, hn2⟩ := Both.else HO.out hnO k2 k3
            have HBL2 := Lib.hid (HBL1.out.trans (k3.below HB1.out.own hs1))
            have hs2 := HBL2.out.size
            have y1 := cell_of_block ho2 1
            have y2 := cell_of_block ho2 2
            have b0 := cell_of_block HB2.out.box 0
            have b1 := cell_of_block HB2.out.box 1
            clear k1 k3 ho2
            go_wp2_with fail
            go_at_call 21
            refine (rput_any (.slice uo m uc) L t cn q w2 HB2.out.val (by rw [EM.out]; omega) hq HG2.out).mono ?_
            rintro e w3 ⟨u3, rfl, v1, v2, hb3⟩
            have HB3 := Lib.hid (HB2.out.below (D.wkeep _ _ _ _ _ _ HB2.out.is hb3.size (fun k hk => hb3.block k (HB2.out.olt k hk))) hb3)
            have HBL3 := Lib.hid (HBL2.out.trans (hb3.mono hs2))
            clear b0 b1
            have b0 := cell_of_block HB3.out.box 0
            have b1 := cell_of_block HB3.out.box 1
            have f0 := unfrozen_of_block HB3.out.box 0
            have f1 := unfrozen_of_block HB3.out.box 1
            obtain ⟨o3, d3, rfl⟩ := listed_length v1
            have V1 := Lib.hid v1
            have V2 := Lib.hid v2
            have HL : Hid ((L ++ bitsOf cn q).length = m + q) := by
              show _ = _
              rw [List.length_append, bitsOf_length, EM.out]
            rw [HL.out] at V1 V2 ⊢
            clear v1 v2
            go_wp2_with fail
            go_meet
            refine ⟨0, L ++ bitsOf cn q, t, O2, .slice o3 (m + q) d3, rfl, rfl, Lib.hid ⟨HB3.out.store V1.out (fun b hb => ?_) (fun w' h1 h2 => D.wkeep _ _ _ _ _ _ HB3.out.is h1 h2), by rw [HL.out]; omega, by rw [HL.out]; omega, ((HBL3.out.setCell (p := ⟨gV, 0, none⟩) HB3.out.gv.1 _).setCell (p := ⟨gV, 1, none⟩) HB3.out.gv.1 _), ⟨[], listed_none _ _, listed_none _ _⟩⟩⟩
            have h1 := V2.out b hb
            have h2 := HB2.out.lt
            exact ⟨by omega, fun ho => by have := HB2.out.olt b ho; omega, by omega⟩
          · have hbad : ck < 0 ∨ 32 < ck ∨ (2 : Int) ^ ck.toNat ≤ (cn : Int) := by
              by_cases h1 : ck < 0
              · exact .inl h1
              · by_cases h2 : 32 < ck
                · exact .inr (.inl h2)
                · refine .inr (.inr ?_)
                  have h3 : ¬ cn < 2 ^ ck.toNat := fun h => hgood ⟨⟨by omega, by omega⟩, h⟩
                  have h4 : (2 : Int) ^ ck.toNat = ((2 ^ ck.toNat : Nat) : Int) := by rw [Int.natCast_pow]; rfl
                  omega
            have HBAD := Lib.hid hbad
            clear hbad hgood
            go_wp2_with fail
            go_at_call 11
            refine (D.putBad _ vW L t O cn ck HB1.out.is (by omega) hk64 HBAD.out).mono ?_
            rintro e w2 ⟨O2, rfl, k1, k2, k3⟩
            have HB2 := Lib.hid (HB1.out.call k1 (D.wlt _ _ _ _ _ k1) k2 k3 hs1)
            obtain ⟨ho2, hn2⟩ := Both.else HO.out hnO k2 k3
            have HBL2 := Lib.hid (HBL1.out.trans (k3.below HB1.out.own hs1))
            have hs2 := HBL2.out.size
            have y1 := cell_of_block ho2 1
            have y2 := cell_of_block ho2 2
            have b0 := cell_of_block HB2.out.box 0
            have b1 := cell_of_block HB2.out.box 1
            clear k1 k3 ho2
            go_wp2_with fail
            go_at_call 21
            refine (rput_bad uo m uc t cn ck w2 (by omega) hk64 HBAD.out).mono ?_
            rintro e w3 ⟨rfl, hb3⟩
            have HB3 := Lib.hid (HB2.out.below (D.wkeep _ _ _ _ _ _ HB2.out.is hb3.size (fun k hk => hb3.block k (HB2.out.olt k hk))) hb3)
            have HBL3 := Lib.hid (HBL2.out.trans (hb3.mono hs2))
            clear b0 b1
            have b0 := cell_of_block HB3.out.box 0
            have b1 := cell_of_block HB3.out.box 1
            have f0 := unfrozen_of_block HB3.out.box 0
            have f1 := unfrozen_of_block HB3.out.box 1
            go_wp2_with fail
            go_meet
            exact ⟨2, L, t, O2, .slice uo m uc, rfl, rfl, Lib.hid ⟨HB3.out.store HB3.out.val HB3.out.apart (fun w' h1 h2 => D.wkeep _ _ _ _ _ _ HB3.out.is h1 h2), by rw [EM.out]; omega, by rw [EM.out]; omega, ((HBL3.out.setCell (p := ⟨gV, 0, none⟩) HB3.out.gv.1 _).setCell (p := ⟨gV, 1, none⟩) HB3.out.gv.1 _), ⟨[], listed_none _ _, listed_none _ _⟩⟩⟩
        · by_cases hgood : (0 ≤ ck ∧ ck ≤ 32) ∧ cn < 2 ^ ck.toNat
          · obtain ⟨⟨hg0, hg1⟩, hg2⟩ := hgood
            obtain ⟨q, rfl⟩ : ∃ q : Nat, ck = (q : Int) := ⟨ck.toNat, by omega⟩
            rw [Int.toNat_natCast] at hg2
            have HG2 := Lib.hid hg2
            have hq : q ≤ 32 := by omega
            clear hg2
            go_wp2_with fail
            go_at_call 11
            refine (D.put _ vW L t O cn q HB1.out.is (by rw [EM.out]; omega) hq HG2.out).mono ?_
            rintro e w2 ⟨O2, rfl, k1, k2, k3⟩
            have HB2 := Lib.hid (HB1.out.call k1 (D.wlt _ _ _ _ _ k1) k2 k3 hs1)
            obtain ⟨ho2, hn2⟩ := Both.else HO.out hnO k2 k3
            have HBL2 := Lib.hid (HBL1.out.trans (k3.below HB1.out.own hs1))
            have hs2 := HBL2.out.size
            have y1 := cell_of_block ho2 1
            have y2 := cell_of_block ho2 2
            have b0 := cell_of_block HB2.out.box 0
            have b1 := cell_of_block HB2.out.box 1
            clear k1 k3 ho2
            go_wp2_with fail
            go_at_call 21
            refine (rput_any (.slice uo m uc) L t cn q w2 HB2.out.val (by rw [EM.out]; omega) hq HG2.out).mono ?_
            rintro e w3 ⟨u3, rfl, v1, v2, hb3⟩
            have HB3 := Lib.hid (HB2.out.below (D.wkeep _ _ _ _ _ _ HB2.out.is hb3.size (fun k hk => hb3.block k (HB2.out.olt k hk))) hb3)
            have HBL3 := Lib.hid (HBL2.out.trans (hb3.mono hs2))
            clear b0 b1
            have b0 := cell_of_block HB3.out.box 0
            have b1 := cell_of_block HB3.out.box 1
            have f0 := unfrozen_of_block HB3.out.box 0
            have f1 := unfrozen_of_block HB3.out.box 1
            obtain ⟨o3, d3, rfl⟩ := listed_length v1
            have V1 := Lib.hid v1
            have V2 := Lib.hid v2
            have HL : Hid ((L ++ bitsOf cn q).length = m + q) := by
              show _ = _
              rw [List.length_append, bitsOf_length, EM.out]
            rw [HL.out] at V1 V2 ⊢
            clear v1 v2
            go_wp2_with fail
            go_meet
            refine ⟨0, L ++ bitsOf cn q, t, O2, .slice o3 (m + q) d3, rfl, rfl, Lib.hid ⟨HB3.out.store V1.out (fun b hb => ?_) (fun w' h1 h2 => D.wkeep _ _ _ _ _ _ HB3.out.is h1 h2), by rw [HL.out]; omega, by rw [HL.out]; omega, ((HBL3.out.setCell (p := ⟨gV, 0, none⟩) HB3.out.gv.1 _).setCell (p := ⟨gV, 1, none⟩) HB3.out.gv.1 _), ⟨[], listed_none _ _, listed_none _ _⟩⟩⟩
            have h1 := V2.out b hb
            have h2 := HB2.out.lt
            exact ⟨by omega, fun ho => by have := HB2.out.olt b ho; omega, by omega⟩
          · have hbad : ck < 0 ∨ 32 < ck ∨ (2 : Int) ^ ck.toNat ≤ (cn : Int) := by
              by_cases h1 : ck < 0
              · exact .inl h1
              · by_cases h2 : 32 < ck
                · exact .inr (.inl h2)
                · refine .inr (.inr ?_)
                  have h3 : ¬ cn < 2 ^ ck.toNat := fun h => hgood ⟨⟨by omega, by omega⟩, h⟩
                  have h4 : (2 : Int) ^ ck.toNat = ((2 ^ ck.toNat : Nat) : Int) := by rw [Int.natCast_pow]; rfl
                  omega
            have HBAD := Lib.hid hbad
            clear hbad hgood
            go_wp2_with fail
            go_at_call 11
            refine (D.putBad _ vW L t O cn ck HB1.out.is (by omega) hk64 HBAD.out).mono ?_
            rintro e w2 ⟨O2, rfl, k1, k2, k3⟩
            have HB2 := Lib.hid (HB1.out.call k1 (D.wlt _ _ _ _ _ k1) k2 k3 hs1)
            obtain ⟨ho2, hn2⟩ := Both.else HO.out hnO k2 k3
            have HBL2 := Lib.hid (HBL1.out.trans (k3.below HB1.out.own hs1))
            have hs2 := HBL2.out.size
            have y1 := cell_of_block ho2 1
            have y2 := cell_of_block ho2 2
            have b0 := cell_of_block HB2.out.box 0
            have b1 := cell_of_block HB2.out.box 1
            clear k1 k3 ho2
            go_wp2_with fail
            go_at_call 21
            refine (rput_bad uo m uc t cn ck w2 (by omega) hk64 HBAD.out).mono ?_
            rintro e w3 ⟨rfl, hb3⟩
            have HB3 := Lib.hid (HB2.out.below (D.wkeep _ _ _ _ _ _ HB2.out.is hb3.size (fun k hk => hb3.block k (HB2.out.olt k hk))) hb3)
            have HBL3 := Lib.hid (HBL2.out.trans (hb3.mono hs2))
            clear b0 b1
            have b0 := cell_of_block HB3.out.box 0
            have b1 := cell_of_block HB3.out.box 1
            have f0 := unfrozen_of_block HB3.out.box 0
            have f1 := unfrozen_of_block HB3.out.box 1
            go_wp2_with fail
            go_meet
            exact ⟨2, L, t, O2, .slice uo m uc, rfl, rfl, Lib.hid ⟨HB3.out.store HB3.out.val HB3.out.apart (fun w' h1 h2 => D.wkeep _ _ _ _ _ _ HB3.out.is h1 h2), by rw [EM.out]; omega, by rw [EM.out]; omega, ((HBL3.out.setCell (p := ⟨gV, 0, none⟩) HB3.out.gv.1 _).setCell (p := ⟨gV, 1, none⟩) HB3.out.gv.1 _), ⟨[], listed_none _ _, listed_none _ _⟩⟩⟩
        · by_cases hgood : (0 ≤ ck ∧ ck ≤ 32) ∧ cn < 2 ^ ck.toNat
          · obtain ⟨⟨hg0, hg1⟩, hg2⟩ := hgood
            obtain ⟨q, rfl⟩ : ∃ q : Nat, ck = (q : Int) := ⟨ck.toNat, by omega⟩
            rw [Int.toNat_natCast] at hg2
            have HG2 := Lib.hid hg2
            have hq : q ≤ 32 := by omega
            clear hg2
            go_wp2_with fail
            go_at_call 11
            refine (D.put _ vW L t O cn q HB1.out.is (by rw [EM.out]; omega) hq HG2.out).mono ?_
            rintro e w2 ⟨O2, rfl, k1, k2, k3⟩
            have HB2 := Lib.hid (HB1.out.call k1 (D.wlt _ _ _ _ _ k1) k2 k3 hs1)
            obtain ⟨ho2, hn2⟩ := Both.else HO.out hnO k2 k3
            have HBL2 := Lib.hid (HBL1.out.trans (k3.below HB1.out.own hs1))
            have hs2 := HBL2.out.size
            have y1 := cell_of_block ho2 1
            have y2 := cell_of_block ho2 2
            have b0 := cell_of_block HB2.out.box 0
            have b1 := cell_of_block HB2.out.box 1
            clear k1 k3 ho2
            go_wp2_with fail
            go_at_call 21
            refine (rput_any (.slice uo m uc) L t cn q w2 HB2.out.val (by rw [EM.out]; omega) hq HG2.out).mono ?_
            rintro e w3 ⟨u3, rfl, v1, v2, hb3⟩
            have HB3 := Lib.hid (HB2.out.below (D.wkeep _ _ _ _ _ _ HB2.out.is hb3.size (fun k hk => hb3.block k (HB2.out.olt k hk))) hb3)
            have HBL3 := Lib.hid (HBL2.out.trans (hb3.mono hs2))
            clear b0 b1
            have b0 := cell_of_block HB3.out.box 0
            have b1 := cell_of_block HB3.out.box 1
            have f0 := unfrozen_of_block HB3.out.box 0
            have f1 := unfrozen_of_block HB3.out.box 1
            obtain ⟨o3, d3, rfl⟩ := listed_length v1
            have V1 := Lib.hid v1
            have V2 := Lib.hid v2
            have HL : Hid ((L ++ bitsOf cn q).length = m + q) := by
              show _ = _
              rw [List.length_append, bitsOf_length, EM.out]
            rw [HL.out] at V1 V2 ⊢
            clear v1 v2
            go_wp2_with fail
            go_meet
            refine ⟨0, L ++ bitsOf cn q, t, O2, .slice o3 (m + q) d3, rfl, rfl, Lib.hid ⟨HB3.out.store V1.out (fun b hb => ?_) (fun w' h1 h2 => D.wkeep _ _ _ _ _ _ HB3.out.is h1 h2), by rw [HL.out]; omega, by rw [HL.out]; omega, ((HBL3.out.setCell (p := ⟨gV, 0, none⟩) HB3.out.gv.1 _).setCell (p := ⟨gV, 1, none⟩) HB3.out.gv.1 _), ⟨[], listed_none _ _, listed_none _ _⟩⟩⟩
            have h1 := V2.out b hb
            have h2 := HB2.out.lt
            exact ⟨by omega, fun ho => by have := HB2.out.olt b ho; omega, by omega⟩
          · have hbad : ck < 0 ∨ 32 < ck ∨ (2 : Int) ^ ck.toNat ≤ (cn : Int) := by
              by_cases h1 : ck < 0
              · exact .inl h1
              · by_cases h2 : 32 < ck
                · exact .inr (.inl h2)
                · refine .inr (.inr ?_)
                  have h3 : ¬ cn < 2 ^ ck.toNat := fun h => hgood ⟨⟨by omega, by omega⟩, h⟩
                  have h4 : (2 : Int) ^ ck.toNat = ((2 ^ ck.toNat : Nat) : Int) := by rw [Int.natCast_pow]; rfl
                  omega
            have HBAD := Lib.hid hbad
            clear hbad hgood
            go_wp2_with fail
            go_at_call 11
            refine (D.putBad _ vW L t O cn ck HB1.out.is (by omega) hk64 HBAD.out).mono ?_
            rintro e w2 ⟨O2, rfl, k1, k2, k3⟩
            have HB2 := Lib.hid (HB1.out.call k1 (D.wlt _ _ _ _ _ k1) k2 k3 hs1)
            obtain ⟨ho2, hn2⟩ := Both.else HO.out hnO k2 k3
            have HBL2 := Lib.hid (HBL1.out.trans (k3.below HB1.out.own hs1))
            have hs2 := HBL2.out.size
            have y1 := cell_of_block ho2 1
            have y2 := cell_of_block ho2 2
            have b0 := cell_of_block HB2.out.box 0
            have b1 := cell_of_block HB2.out.box 1
            clear k1 k3 ho2
            go_wp2_with fail
            go_at_call 21
            refine (rput_bad uo m uc t cn ck w2 (by omega) hk64 HBAD.out).mono ?_
            rintro e w3 ⟨rfl, hb3⟩
            have HB3 := Lib.hid (HB2.out.below (D.wkeep _ _ _ _ _ _ HB2.out.is hb3.size (fun k hk => hb3.block k (HB2.out.olt k hk))) hb3)
            have HBL3 := Lib.hid (HBL2.out.trans (hb3.mono hs2))
            clear b0 b1
            have b0 := cell_of_block HB3.out.box 0
            have b1 := cell_of_block HB3.out.box 1
            have f0 := unfrozen_of_block HB3.out.box 0
            have f1 := unfrozen_of_block HB3.out.box 1
            go_wp2_with fail
            go_meet
            exact ⟨2, L, t, O2, .slice uo m uc, rfl, rfl, Lib.hid ⟨HB3.out.store HB3.out.val HB3.out.apart (fun w' h1 h2 => D.wkeep _ _ _ _ _ _ HB3.out.is h1 h2), by rw [EM.out]; omega, by rw [EM.out]; omega, ((HBL3.out.setCell (p := ⟨gV, 0, none⟩) HB3.out.gv.1 _).setCell (p := ⟨gV, 1, none⟩) HB3.out.gv.1 _), ⟨[], listed_none _ _, listed_none _ _⟩⟩⟩
        · go_wp2_with fail
          go_at_call 13
          refine (D.take _ vW L t O HB1.out.is (by rw [EM.out]; omega) (by rw [EM.out]; omega)).mono ?_
          rintro e w2 ⟨p, O2, rfl, kp, ka, k1, k2, k3⟩
          have HB2 := Lib.hid (HB1.out.call k1 (D.wlt _ _ _ _ _ k1) k2 k3 hs1)
          obtain ⟨ho2, hn2⟩ := Both.else HO.out hnO k2 k3
          have HBL2 := Lib.hid (HBL1.out.trans (k3.below HB1.out.own hs1))
          have hs2 := HBL2.out.size
          have y1 := cell_of_block ho2 1
          have y2 := cell_of_block ho2 2
          have b0 := cell_of_block HB2.out.box 0
          have b1 := cell_of_block HB2.out.box 1
          have hpf : ∀ b, inBlock p b → W.heap.size ≤ b ∧ b ≠ gV := fun b hb => by
            rcases (ka b hb).1 with h1 | h1
            · exact ⟨HB1.out.own b h1, fun e => HB1.out.gv.2 (e ▸ h1)⟩
            · have := HB1.out.lt; exact ⟨by omega, by omega⟩
          obtain ⟨po, pc, rfl⟩ := listed_length kp
          have KP := Lib.hid kp
          have HPF := Lib.hid hpf
          clear k1 k3 ho2 kp ka hpf
          obtain ⟨pn, epn⟩ : ∃ pn, (bytesAt L t (L.length / 8 - t)).length = pn := ⟨_, rfl⟩
          rw [epn] at KP HPF ⊢
          have EPN := Lib.hid epn
          clear epn
          go_wp2_with fail
          go_at_call 22
          refine (rtake_any (.slice uo m uc) L t w2 HB2.out.val (by rw [EM.out]; omega) (by rw [EM.out]; omega)).mono ?_
          rintro e w3 ⟨u3, rfl, v1, v2, hb3⟩
          have HB3 := Lib.hid (HB2.out.below (D.wkeep _ _ _ _ _ _ HB2.out.is hb3.size (fun k hk => hb3.block k (HB2.out.olt k hk))) hb3)
          have HBL3 := Lib.hid (HBL2.out.trans (hb3.mono hs2))
          clear b0 b1
          have b0 := cell_of_block HB3.out.box 0
          have b1 := cell_of_block HB3.out.box 1
          have f0 := unfrozen_of_block HB3.out.box 0
          have f1 := unfrozen_of_block HB3.out.box 1
          obtain ⟨qo, qc, rfl⟩ := listed_length v1
          rw [EPN.out] at v1 v2 ⊢
          have V1 := Lib.hid v1
          have V2 := Lib.hid v2
          clear v1 v2
          have hmd : L.length / 8 = m / 8 := by rw [EM.out]
          rw [hmd] at HB2 HB3 ⊢
          have HMD := Lib.hid hmd
          clear hmd
          obtain ⟨m8, em8⟩ : ∃ m8, m / 8 = m8 := ⟨_, rfl⟩
          have EM8 := Lib.hid em8
          rw [em8] at HB2 HB3 ⊢
          clear em8
          go_wp2_with fail
          go_meet
          refine ⟨0, L, m8, O2, .slice uo m uc, rfl, rfl, Lib.hid ⟨HB3.out.store HB3.out.val HB3.out.apart (fun w' h1 h2 => D.wkeep _ _ _ _ _ _ HB3.out.is h1 h2), by rw [EM.out]; omega, by rw [EM.out, ← EM8.out]; omega, ((HBL3.out.setCell (p := ⟨gV, 0, none⟩) HB3.out.gv.1 _).setCell (p := ⟨gV, 1, none⟩) HB3.out.gv.1 _), bytesAt L t (L.length / 8 - t), ?_, ?_⟩⟩
          · refine listed_kept (listed_on KP.out hb3) (Nat.le_of_eq (by simp)) (fun b hb => ?_)
            have := (HPF.out b hb).2
            rw [Below.heap_setCell _ _ _ b this, Below.heap_setCell _ _ _ b this]
          · refine listed_kept V1.out (Nat.le_of_eq (by simp)) (fun b hb => ?_)
            have h1 := V2.out b hb
            have h2 := HB2.out.lt
            rw [Below.heap_setCell _ _ _ b (by show b ≠ gV; omega), Below.heap_setCell _ _ _ b (by show b ≠ gV; omega)]
        · go_wp2_with fail
          go_at_call 14
          refine (D.align _ vW L t O HB1.out.is (by rw [EM.out]; omega)).mono ?_
          rintro e w2 ⟨O2, rfl, k1, k2, k3⟩
          have HB2 := Lib.hid (HB1.out.call k1 (D.wlt _ _ _ _ _ k1) k2 k3 hs1)
          obtain ⟨ho2, hn2⟩ := Both.else HO.out hnO k2 k3
          have HBL2 := Lib.hid (HBL1.out.trans (k3.below HB1.out.own hs1))
          have hs2 := HBL2.out.size
          have y1 := cell_of_block ho2 1
          have y2 := cell_of_block ho2 2
          have b0 := cell_of_block HB2.out.box 0
          have b1 := cell_of_block HB2.out.box 1
          clear k1 k3 ho2
          go_wp2_with fail
          go_at_call 23
          refine (rwalign_any (.slice uo m uc) L t w2 HB2.out.val (by rw [EM.out]; omega)).mono ?_
          rintro e w3 ⟨u3, rfl, v1, v2, hb3⟩
          have HB3 := Lib.hid (HB2.out.below (D.wkeep _ _ _ _ _ _ HB2.out.is hb3.size (fun k hk => hb3.block k (HB2.out.olt k hk))) hb3)
          have HBL3 := Lib.hid (HBL2.out.trans (hb3.mono hs2))
          clear b0 b1
          have b0 := cell_of_block HB3.out.box 0
          have b1 := cell_of_block HB3.out.box 1
          have f0 := unfrozen_of_block HB3.out.box 0
          have f1 := unfrozen_of_block HB3.out.box 1
          obtain ⟨o3, d3, rfl⟩ := listed_length v1
          have V1 := Lib.hid v1
          have V2 := Lib.hid v2
          have HL : Hid ((aligned L).length = (m + 7) / 8 * 8) := by
            show _ = _
            rw [aligned_length, EM.out]
          rw [HL.out] at V1 V2 ⊢
          clear v1 v2
          have hm7 : (m + 7) / 8 * 8 ≤ m + 7 := by omega
          have hm8 : m ≤ (m + 7) / 8 * 8 := by omega
          generalize (m + 7) / 8 * 8 = ma at *
          go_wp2_with fail
          go_meet
          refine ⟨0, aligned L, t, O2, .slice o3 ma d3, rfl, rfl, Lib.hid ⟨HB3.out.store V1.out (fun b hb => ?_) (fun w' h1 h2 => D.wkeep _ _ _ _ _ _ HB3.out.is h1 h2), by rw [HL.out]; omega, by rw [HL.out]; omega, ((HBL3.out.setCell (p := ⟨gV, 0, none⟩) HB3.out.gv.1 _).setCell (p := ⟨gV, 1, none⟩) HB3.out.gv.1 _), ⟨[], listed_none _ _, listed_none _ _⟩⟩⟩
          rcases V2.out b hb with h1 | h1
          · rw [h1] at hb
            exact HB3.out.apart b hb
          · have h2 := HB2.out.lt
            exact ⟨by omega, fun ho => by have := HB2.out.olt b ho; omega, by omega⟩
        · have z1' : (kd == 1) = false := by simp [z1]
          have z2' : (kd == 2) = false := by simp [z2]
          have z3' : (kd == 3) = false := by simp [z3]
          have z4' : (kd == 4) = false := by simp [z4]
          have z5' : (kd == 5) = false := by simp [z5]
          have z6' : (kd == 6) = false := by simp [z6]
          go_wp2_with fail
          go_meet
          exact ⟨0, L, t, O, .slice uo m uc, rfl, rfl, Lib.hid ⟨HB1.out, by rw [EM.out]; omega, by rw [EM.out]; omega, HBL1.out, ⟨[], listed_none _ _, listed_none _ _⟩⟩⟩
      case rest =>
        obtain ⟨x, L', t', O', u', rfl, rfl, HA⟩ := hcut
        clear HB1 HO HBL1 x0 x1 x2
        obtain ⟨a1, a2, a3, a4, zs, a5, a6⟩ := HA.out
        obtain ⟨uo', uc', rfl⟩ := listed_length a1.val
        have q0 := cell_of_block a1.box 0
        have KS : Calls Try.prog 15 #[u9, u10] wc.drew fun e w'' => e = .returned (.bool true) ∧ w'' = wc.drew := (same_listed u9 u10 zs wc.drew a5 a6).mono fun e w'' h => ⟨h.1, h.2.symm⟩
        have hi2 := D.wkeep _ wc.drew _ _ _ _ a1.is (Nat.le_refl _) (fun _ _ => rfl)
        have KB : Calls Try.prog 12 #[vW] wc.drew fun e w'' => e = .returned (.int .i64 (L'.length : Int)) ∧ w'' = wc.drew := (DB wc.drew vW L' t' O' hi2).mono fun e w'' h => ⟨h.1, h.2.symm⟩
        have HB9 := Lib.hid (a1.below hi2 ((Below.refl _ _).drew))
        have HBL9 := Lib.hid a4.drew
        have HL9 := Lib.hid a2
        have HT9 := Lib.hid a3
        clear a1 a2 a3 a4 a5 a6 HA hi2
        obtain ⟨m', em'⟩ : ∃ m', L'.length = m' := ⟨_, rfl⟩
        rw [em'] at KB q0 HB9
        clear em'
        go_wp2_with fail
        refine wp_region_still_lit (by kernel_rfl) (by kernel_rfl) ?_
        repeat still_step
        still_call KS
        repeat still_step
        still_call KB
        repeat still_step
        refine wpStill_nil ?_
        go_wp2_with fail
        go_roundw
        case rel => exact ⟨k + 1, L', t', O', _, by omega, by omega, by go_num, HB9.out, HL9.out, HT9.out, HBL9.out⟩
        case measure => simp [intOf]; omega
    · have hd12 : (decide ((k : Int) < (n : Int)) = false) ∨ (decide ((k : Int) < (n : Int)) = true ∧ decide ((k : Int) < 100) = false) := by
        by_cases h : k < n
        · exact .inr ⟨decide_eq_true (by omega), decide_eq_false (by omega)⟩
        · exact .inl (decide_eq_false (by omega))
      rcases hd12 with hd1 | ⟨hd1, hd2⟩
      · go_wp2_with (go_at_call 20; refine (awake_any D _).mono ?_; rintro e w9 ⟨rfl, hb9⟩)
        all_goals go_ret
        all_goals exact ⟨rfl, HBL.out.trans (hb9.mono HBL.out.size)⟩
      · go_wp2_with (go_at_call 20; refine (awake_any D _).mono ?_; rintro e w9 ⟨rfl, hb9⟩)
        all_goals go_ret
        all_goals exact ⟨rfl, HBL.out.trans (hb9.mono HBL.out.size)⟩
end Go.Proofs.Ytenaokijjancgaa.Fx
