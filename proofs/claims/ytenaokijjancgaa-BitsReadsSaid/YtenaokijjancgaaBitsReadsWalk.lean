/-
  The walk of BitsReads, over what the calls do. The conditions are that the bytes and the script read as such.
-/
import Derived.StillTailTactics
import Derived.Test.YtenaokijjancgaaBitsOps
import Derived.Test.YtenaokijjancgaaBitsA
namespace Go.Proofs.Ytenaokijjancgaa.Fx
open Go Go.RowKit Go.Joins
set_option linter.unusedVariables false
set_option maxHeartbeats 4000000 in
set_option maxRecDepth 100000 in
theorem reads_any {isW isR : World → Value → List Bool → Nat → (Nat → Prop) → Prop} (D : Does isW isR) (DA : ∀ w v l t O, isR w v l t O → Calls Try.prog 19 #[v] w fun e w' => e = .returned (.int .i64 (t : Int)) ∧ w = w')
    (W : World) (bv : Value) (zs : List Nat) (v : Value) (cs : List Call) (hz : bytesIn W bv zs) (h8 : ∀ x ∈ zs, x < 256) (hc : scriptIn W v cs) (hok : ∀ c ∈ cs, c.ok) :
    Calls Try.prog 5 #[bv, v] W fun e w' => e = .returned (.bool true) ∧ Below W.heap.size W w' := by
  obtain ⟨so, sc, rfl⟩ := script_length hc
  have HC := Lib.hid hc
  have HOK := Lib.hid hok
  obtain ⟨n, en⟩ : ∃ n, cs.length = n := ⟨_, rfl⟩
  have EN := Lib.hid en
  rw [en] at HC ⊢
  clear hc hok en
  obtain ⟨zo, zc, rfl⟩ := listed_length hz
  have HZ := Lib.hid hz
  have H8 := Lib.hid h8
  obtain ⟨zn, ezn⟩ : ∃ zn, zs.length = zn := ⟨_, rfl⟩
  have EZN := Lib.hid ezn
  rw [ezn] at HZ ⊢
  clear hz h8 ezn
  by_cases hbig : 500 < zn
  · have hd : decide ((500 : Int) < (zn : Int)) = true := decide_eq_true (by omega)
    go_enter Try.func5, Try.ntmps5
    go_wp2_with (go_at_call 20; refine (awake_any D _).mono ?_; rintro e w9 ⟨rfl, hb9⟩)
    all_goals go_ret
    all_goals exact ⟨rfl, hb9⟩
  have hd : decide ((500 : Int) < (zn : Int)) = false := decide_eq_false (by omega)
  have hzn : zn ≤ 500 := by omega
  clear hbig
  obtain ⟨G, eG⟩ : ∃ G, bitsOfBytes zs = G := ⟨_, rfl⟩
  have HG : Hid (G.length = 8 * zn) := by
    show _ = _
    rw [← eG, bitsOfBytes_length, EZN.out]
  have KN1 := D.rnew W _ zs HZ.out H8.out (by rw [EZN.out]; omega)
  have KN2 : Hid (∀ w', Below W.heap.size W w' → Calls Try.prog 24 #[.slice zo zn zc] w' fun e w'' => ∃ u, e = .returned (.agg #[u, .int .i64 0]) ∧ bools w'' u G ∧ (∀ b, inBlock u b → w'.heap.size ≤ b) ∧ Below w'.heap.size w' w'') := fun w' hb => by
    have := rnew_any _ zs w' (listed_on HZ.out hb) H8.out (by rw [EZN.out]; omega)
    rwa [eG] at this
  rw [eG] at KN1
  clear eG
  go_enter Try.func5, Try.ntmps5
  go_wp2_with fail
  go_at_call 16
  refine KN1.mono ?_
  rintro e w1 ⟨vR, O, rfl, k1, k2, k3⟩
  go_wp2_with fail
  go_at_call 24
  refine (KN2.out w1 k3).mono ?_
  rintro e w2 ⟨u, rfl, v1, v2, hb2⟩
  obtain ⟨uo, uc, rfl⟩ := listed_length v1
  rw [HG.out] at v1 v2 ⊢
  obtain ⟨gn, egn⟩ : ∃ gn, 8 * zn = gn := ⟨_, rfl⟩
  have HGN := Lib.hid egn
  rw [egn] at v1 v2 HG ⊢
  clear egn
  have V1 := Lib.hid v1
  have V2 := Lib.hid v2
  have K1 := Lib.hid k1
  have K2 := Lib.hid k2
  have K3 := Lib.hid k3
  have HB2 := Lib.hid hb2
  clear v1 v2 k1 k2 k3 hb2 KN1 KN2
  go_upto_region 5 with fail
  have hbox : (w2.alloc (.cells #[.slice uo gn uc, .int .i64 0] 50)).heap[w2.heap.size]? = some (.cells #[.slice uo gn uc, .int .i64 0] 50 (0, 0)) := heap_alloc_new w2 _
  obtain ⟨gV, eg⟩ : ∃ gV, w2.heap.size = gV := ⟨_, rfl⟩
  have hal : Below w2.heap.size w2 (w2.alloc (.cells #[.slice uo gn uc, .int .i64 0] 50)) := (Below.refl _ _).alloc (Nat.le_refl _) _
  have hlt := D.rlt _ _ _ _ _ K1.out
  have hsz := HB2.out.size
  have hsz0 := K3.out.size
  have hB0 : Both isR 50 W.heap.size (w2.alloc (.cells #[.slice uo gn uc, .int .i64 0] 50)) vR gV G 0 O (.slice uo gn uc) G 0 := by
    have hal2 : Below w1.heap.size w1 (w2.alloc (.cells #[.slice uo gn uc, .int .i64 0] 50)) := HB2.out.alloc hsz _
    refine ⟨D.rkeep _ _ _ _ _ _ K1.out hal2.size (fun k hk => hal2.block k (hlt k hk)), fun k hk => Nat.lt_of_lt_of_le (hlt k hk) hal2.size, K2.out, by rw [← eg]; exact hbox, listed_on V1.out hal, fun b hb => ?_, by omega, fun ho => ?_⟩
    · have h1 := V2.out b hb
      have h2 := bools_lt V1.out hb
      exact ⟨by omega, fun ho => by have := hlt b ho; omega, by omega⟩
    · have := hlt gV ho
      omega
  have hbl : Below W.heap.size W (w2.alloc (.cells #[.slice uo gn uc, .int .i64 0] 50)) := (K3.out.trans (HB2.out.mono hsz0)).alloc (by omega) _
  obtain ⟨w3, e3⟩ : ∃ w3, w3 = w2.alloc (.cells #[.slice uo gn uc, .int .i64 0] 50) := ⟨_, rfl⟩
  rw [eg]
  rw [← e3] at hB0 hbl ⊢
  clear e3 eg hbox hal hlt hsz hsz0 V1 V2 K1 K2 K3 HB2
  go_wp2_with fail
  go_loopw [7] (fun i wr => ∃ (k : Nat) (t : Nat) (O : Nat → Prop), k ≤ n ∧ k ≤ 100 ∧ i = .int .i64 k ∧ Both isR 50 W.heap.size wr vR gV G t O (.slice uo gn uc) G t ∧ t ≤ gn ∧ Below W.heap.size W wr) (fun i _ => 100 - (intOf i).toNat)
  case atStart => exact ⟨0, 0, O, Nat.zero_le _, Nat.zero_le _, rfl, hB0, Nat.zero_le _, hbl⟩
  case round =>
    clear hB0 hbl
    obtain ⟨k, t, O, hkn, hk1, rfl, hBo, htg, hbl⟩ := hrel
    have HBO := Lib.hid hBo
    have HBL := Lib.hid hbl
    have hg4 : gn ≤ 4000 := by have := HGN.out; omega
    clear hBo hbl
    by_cases hgo : k < n ∧ k < 100
    · obtain ⟨hk2, hk3⟩ := hgo
      have hd1 : decide ((k : Int) < (n : Int)) = true := decide_eq_true (by omega)
      have hd2 : decide ((k : Int) < 100) = true := decide_eq_true (by omega)
      obtain ⟨c, ec⟩ : ∃ c, cs[k]? = some c := ⟨cs[k]'(by rw [EN.out]; exact hk2), List.getElem?_eq_getElem _⟩
      obtain ⟨b, off, cap, es, hlt, c0, c1, c2⟩ := script_at HC.out k c ec
      rw [EN.out] at es
      simp only [Value.slice.injEq] at es
      obtain ⟨rfl, _, rfl⟩ := es
      have c0 := (HBL.out.cell hlt).trans c0
      have c1 := (HBL.out.cell hlt).trans c1
      have c2 := (HBL.out.cell hlt).trans c2
      have hcok := HOK.out c (List.mem_of_getElem? ec)
      obtain ⟨kd, cn, ck⟩ := c
      obtain ⟨⟨hd0, hd9⟩, hn32, hk64⟩ := hcok
      simp only at c0 c1 c2 hd0 hd9 hn32 hk64
      clear ec
      go_upto_block 2 with fail
      have hs0 := HBL.out.size
      obtain ⟨gO, eO⟩ : ∃ gO, wr.heap.size = gO := ⟨_, rfl⟩
      have hal : Below wr.heap.size wr (wr.alloc (.cells #[.int .i64 kd, .int .u32 (cn : Int), .int .i64 ck] 42)) := (Below.refl _ _).alloc (Nat.le_refl _) _
      have hO : (wr.alloc (.cells #[.int .i64 kd, .int .u32 (cn : Int), .int .i64 ck] 42)).heap[gO]? = some (.cells #[.int .i64 kd, .int .u32 (cn : Int), .int .i64 ck] 42 (0, 0)) := by rw [← eO]; exact heap_alloc_new wr _
      have hB1 := HBO.out.below (D.rkeep _ _ _ _ _ _ HBO.out.is hal.size (fun k hk => hal.block k (HBO.out.olt k hk))) hal
      have hbl1 := HBL.out.trans (hal.mono hs0)
      have hnO : ¬ O gO := fun ho => by have := HBO.out.olt gO ho; omega
      obtain ⟨w0, e0⟩ : ∃ w0, w0 = wr.alloc (.cells #[.int .i64 kd, .int .u32 (cn : Int), .int .i64 ck] 42) := ⟨_, rfl⟩
      rw [eO]
      rw [← e0] at hO hB1 hbl1 ⊢
      clear e0 hal c0 c1 c2
      have HB1 := Lib.hid hB1
      have HO := Lib.hid hO
      have HBL1 := Lib.hid hbl1
      have hs1 := hbl1.size
      have x0 := cell_of_block hO 0
      have x1 := cell_of_block hO 1
      have x2 := cell_of_block hO 2
      clear hO hB1 hbl1
      go_cut [9, 10, 11, 12] (fun s9 s10 s11 s12 wx => ∃ (x y : Int) (t' : Nat) (O' : Nat → Prop), s9 = .int .i64 x ∧ s10 = .int .i64 x ∧ s11 = .int .u32 y ∧ s12 = .int .u32 y ∧ Hid (Both isR 50 W.heap.size wx vR gV G t' O' (.slice uo gn uc) G t' ∧ t' ≤ gn ∧ Below W.heap.size W wx))
      case first =>
        rcases (show kd = 1 ∨ kd = 2 ∨ kd = 3 ∨ kd = 4 ∨ kd = 5 ∨ kd = 6 ∨ (kd ≠ 1 ∧ kd ≠ 2 ∧ kd ≠ 3 ∧ kd ≠ 4 ∧ kd ≠ 5 ∧ kd ≠ 6) by omega) with rfl | rfl | rfl | rfl | rfl | rfl | ⟨z1, z2, z3, z4, z5, z6⟩
        · by_cases hgood : 0 ≤ ck ∧ ck ≤ 32
          · obtain ⟨hg0, hg1⟩ := hgood
            obtain ⟨q, rfl⟩ : ∃ q : Nat, ck = (q : Int) := ⟨ck.toNat, by omega⟩
            have hq : q ≤ 32 := by omega
            by_cases hfit : t + q ≤ gn
            · have HN := Lib.hid (numAt_below G t q)
              obtain ⟨y, ey⟩ : ∃ y, numAt G t q = y := ⟨_, rfl⟩
              have EY := Lib.hid ey
              clear ey
              go_wp2_with fail
              go_at_call 17
              refine (D.get _ vR G t O q HB1.out.is hq (by rw [HG.out]; exact hfit) (by rw [HG.out]; omega)).mono ?_
              rintro e w2 ⟨O2, rfl, k1, k2, k3⟩
              rw [EY.out]
              have HB2 := Lib.hid (HB1.out.call k1 (D.rlt _ _ _ _ _ k1) k2 k3 hs1)
              obtain ⟨ho2, hn2⟩ := Both.else HO.out hnO k2 k3
              have HBL2 := Lib.hid (HBL1.out.trans (k3.below HB1.out.own hs1))
              have hs2 := HBL2.out.size
              have y2 := cell_of_block ho2 2
              have b0 := cell_of_block HB2.out.box 0
              have b1 := cell_of_block HB2.out.box 1
              clear k1 k3 ho2
              go_wp2_with fail
              go_at_call 25
              refine (rget_ok (.slice uo gn uc) G t q w2 HB2.out.val hq (by rw [HG.out]; omega) (by rw [HG.out]; exact hfit)).mono ?_
              rintro e w3 ⟨rfl, hb3⟩
              rw [EY.out]
              have HB3 := Lib.hid (HB2.out.below (D.rkeep _ _ _ _ _ _ HB2.out.is hb3.size (fun k hk => hb3.block k (HB2.out.olt k hk))) hb3)
              have HBL3 := Lib.hid (HBL2.out.trans (hb3.mono hs2))
              clear b0 b1
              have b0 := cell_of_block HB3.out.box 0
              have b1 := cell_of_block HB3.out.box 1
              have f0 := unfrozen_of_block HB3.out.box 0
              have f1 := unfrozen_of_block HB3.out.box 1
              go_wp2_with fail
              go_meet
              exact ⟨0, y, t + q, O2, rfl, rfl, rfl, rfl, Lib.hid ⟨HB3.out.store HB3.out.val HB3.out.apart (fun w' h1 h2 => D.rkeep _ _ _ _ _ _ HB3.out.is h1 h2), hfit, ((HBL3.out.setCell (p := ⟨gV, 0, none⟩) HB3.out.gv.1 _).setCell (p := ⟨gV, 1, none⟩) HB3.out.gv.1 _)⟩⟩
            · go_wp2_with fail
              go_at_call 17
              refine (D.getShort _ vR G t O q HB1.out.is hq (by rw [HG.out]; omega) (by rw [HG.out]; omega)).mono ?_
              rintro e w2 ⟨O2, rfl, k1, k2, k3⟩
              have HB2 := Lib.hid (HB1.out.call k1 (D.rlt _ _ _ _ _ k1) k2 k3 hs1)
              obtain ⟨ho2, hn2⟩ := Both.else HO.out hnO k2 k3
              have HBL2 := Lib.hid (HBL1.out.trans (k3.below HB1.out.own hs1))
              have hs2 := HBL2.out.size
              have y2 := cell_of_block ho2 2
              have b0 := cell_of_block HB2.out.box 0
              have b1 := cell_of_block HB2.out.box 1
              clear k1 k3 ho2
              go_wp2_with fail
              go_at_call 25
              refine (rget_short uo gn uc t q w2 hq (by omega) (by omega) (by omega)).mono ?_
              rintro e w3 ⟨rfl, hb3⟩
              have HB3 := Lib.hid (HB2.out.below (D.rkeep _ _ _ _ _ _ HB2.out.is hb3.size (fun k hk => hb3.block k (HB2.out.olt k hk))) hb3)
              have HBL3 := Lib.hid (HBL2.out.trans (hb3.mono hs2))
              clear b0 b1
              have b0 := cell_of_block HB3.out.box 0
              have b1 := cell_of_block HB3.out.box 1
              have f0 := unfrozen_of_block HB3.out.box 0
              have f1 := unfrozen_of_block HB3.out.box 1
              go_wp2_with fail
              go_meet
              exact ⟨12, 0, t, O2, rfl, rfl, rfl, rfl, Lib.hid ⟨HB3.out.store HB3.out.val HB3.out.apart (fun w' h1 h2 => D.rkeep _ _ _ _ _ _ HB3.out.is h1 h2), htg, ((HBL3.out.setCell (p := ⟨gV, 0, none⟩) HB3.out.gv.1 _).setCell (p := ⟨gV, 1, none⟩) HB3.out.gv.1 _)⟩⟩
          · have hbad : ck < 0 ∨ 32 < ck := by omega
            clear hgood
            go_wp2_with fail
            go_at_call 17
            refine (D.getBad _ vR G t O ck HB1.out.is hk64 hbad).mono ?_
            rintro e w2 ⟨O2, rfl, k1, k2, k3⟩
            have HB2 := Lib.hid (HB1.out.call k1 (D.rlt _ _ _ _ _ k1) k2 k3 hs1)
            obtain ⟨ho2, hn2⟩ := Both.else HO.out hnO k2 k3
            have HBL2 := Lib.hid (HBL1.out.trans (k3.below HB1.out.own hs1))
            have hs2 := HBL2.out.size
            have y2 := cell_of_block ho2 2
            have b0 := cell_of_block HB2.out.box 0
            have b1 := cell_of_block HB2.out.box 1
            clear k1 k3 ho2
            go_wp2_with fail
            go_at_call 25
            refine (rget_bad uo gn uc t ck w2 hbad).mono ?_
            rintro e w3 ⟨rfl, hb3⟩
            have HB3 := Lib.hid (HB2.out.below (D.rkeep _ _ _ _ _ _ HB2.out.is hb3.size (fun k hk => hb3.block k (HB2.out.olt k hk))) hb3)
            have HBL3 := Lib.hid (HBL2.out.trans (hb3.mono hs2))
            clear b0 b1
            have b0 := cell_of_block HB3.out.box 0
            have b1 := cell_of_block HB3.out.box 1
            have f0 := unfrozen_of_block HB3.out.box 0
            have f1 := unfrozen_of_block HB3.out.box 1
            go_wp2_with fail
            go_meet
            exact ⟨2, 0, t, O2, rfl, rfl, rfl, rfl, Lib.hid ⟨HB3.out.store HB3.out.val HB3.out.apart (fun w' h1 h2 => D.rkeep _ _ _ _ _ _ HB3.out.is h1 h2), htg, ((HBL3.out.setCell (p := ⟨gV, 0, none⟩) HB3.out.gv.1 _).setCell (p := ⟨gV, 1, none⟩) HB3.out.gv.1 _)⟩⟩
        · by_cases hgood : 0 ≤ ck ∧ ck ≤ 32
          · obtain ⟨hg0, hg1⟩ := hgood
            obtain ⟨q, rfl⟩ : ∃ q : Nat, ck = (q : Int) := ⟨ck.toNat, by omega⟩
            have hq : q ≤ 32 := by omega
            by_cases hfit : t + q ≤ gn
            · have HN := Lib.hid (numAt_below G t q)
              obtain ⟨y, ey⟩ : ∃ y, numAt G t q = y := ⟨_, rfl⟩
              have EY := Lib.hid ey
              clear ey
              go_wp2_with fail
              go_at_call 17
              refine (D.get _ vR G t O q HB1.out.is hq (by rw [HG.out]; exact hfit) (by rw [HG.out]; omega)).mono ?_
              rintro e w2 ⟨O2, rfl, k1, k2, k3⟩
              rw [EY.out]
              have HB2 := Lib.hid (HB1.out.call k1 (D.rlt _ _ _ _ _ k1) k2 k3 hs1)
              obtain ⟨ho2, hn2⟩ := Both.else HO.out hnO k2 k3
              have HBL2 := Lib.hid (HBL1.out.trans (k3.below HB1.out.own hs1))
              have hs2 := HBL2.out.size
              have y2 := cell_of_block ho2 2
              have b0 := cell_of_block HB2.out.box 0
              have b1 := cell_of_block HB2.out.box 1
              clear k1 k3 ho2
              go_wp2_with fail
              go_at_call 25
              refine (rget_ok (.slice uo gn uc) G t q w2 HB2.out.val hq (by rw [HG.out]; omega) (by rw [HG.out]; exact hfit)).mono ?_
              rintro e w3 ⟨rfl, hb3⟩
              rw [EY.out]
              have HB3 := Lib.hid (HB2.out.below (D.rkeep _ _ _ _ _ _ HB2.out.is hb3.size (fun k hk => hb3.block k (HB2.out.olt k hk))) hb3)
              have HBL3 := Lib.hid (HBL2.out.trans (hb3.mono hs2))
              clear b0 b1
              have b0 := cell_of_block HB3.out.box 0
              have b1 := cell_of_block HB3.out.box 1
              have f0 := unfrozen_of_block HB3.out.box 0
              have f1 := unfrozen_of_block HB3.out.box 1
              go_wp2_with fail
              go_meet
              exact ⟨0, y, t + q, O2, rfl, rfl, rfl, rfl, Lib.hid ⟨HB3.out.store HB3.out.val HB3.out.apart (fun w' h1 h2 => D.rkeep _ _ _ _ _ _ HB3.out.is h1 h2), hfit, ((HBL3.out.setCell (p := ⟨gV, 0, none⟩) HB3.out.gv.1 _).setCell (p := ⟨gV, 1, none⟩) HB3.out.gv.1 _)⟩⟩
            · go_wp2_with fail
              go_at_call 17
              refine (D.getShort _ vR G t O q HB1.out.is hq (by rw [HG.out]; omega) (by rw [HG.out]; omega)).mono ?_
              rintro e w2 ⟨O2, rfl, k1, k2, k3⟩
              have HB2 := Lib.hid (HB1.out.call k1 (D.rlt _ _ _ _ _ k1) k2 k3 hs1)
              obtain ⟨ho2, hn2⟩ := Both.else HO.out hnO k2 k3
              have HBL2 := Lib.hid (HBL1.out.trans (k3.below HB1.out.own hs1))
              have hs2 := HBL2.out.size
              have y2 := cell_of_block ho2 2
              have b0 := cell_of_block HB2.out.box 0
              have b1 := cell_of_block HB2.out.box 1
              clear k1 k3 ho2
              go_wp2_with fail
              go_at_call 25
              refine (rget_short uo gn uc t q w2 hq (by omega) (by omega) (by omega)).mono ?_
              rintro e w3 ⟨rfl, hb3⟩
              have HB3 := Lib.hid (HB2.out.below (D.rkeep _ _ _ _ _ _ HB2.out.is hb3.size (fun k hk => hb3.block k (HB2.out.olt k hk))) hb3)
              have HBL3 := Lib.hid (HBL2.out.trans (hb3.mono hs2))
              clear b0 b1
              have b0 := cell_of_block HB3.out.box 0
              have b1 := cell_of_block HB3.out.box 1
              have f0 := unfrozen_of_block HB3.out.box 0
              have f1 := unfrozen_of_block HB3.out.box 1
              go_wp2_with fail
              go_meet
              exact ⟨12, 0, t, O2, rfl, rfl, rfl, rfl, Lib.hid ⟨HB3.out.store HB3.out.val HB3.out.apart (fun w' h1 h2 => D.rkeep _ _ _ _ _ _ HB3.out.is h1 h2), htg, ((HBL3.out.setCell (p := ⟨gV, 0, none⟩) HB3.out.gv.1 _).setCell (p := ⟨gV, 1, none⟩) HB3.out.gv.1 _)⟩⟩
          · have hbad : ck < 0 ∨ 32 < ck := by omega
            clear hgood
            go_wp2_with fail
            go_at_call 17
            refine (D.getBad _ vR G t O ck HB1.out.is hk64 hbad).mono ?_
            rintro e w2 ⟨O2, rfl, k1, k2, k3⟩
            have HB2 := Lib.hid (HB1.out.call k1 (D.rlt _ _ _ _ _ k1) k2 k3 hs1)
            obtain ⟨ho2, hn2⟩ := Both.else HO.out hnO k2 k3
            have HBL2 := Lib.hid (HBL1.out.trans (k3.below HB1.out.own hs1))
            have hs2 := HBL2.out.size
            have y2 := cell_of_block ho2 2
            have b0 := cell_of_block HB2.out.box 0
            have b1 := cell_of_block HB2.out.box 1
            clear k1 k3 ho2
            go_wp2_with fail
            go_at_call 25
            refine (rget_bad uo gn uc t ck w2 hbad).mono ?_
            rintro e w3 ⟨rfl, hb3⟩
            have HB3 := Lib.hid (HB2.out.below (D.rkeep _ _ _ _ _ _ HB2.out.is hb3.size (fun k hk => hb3.block k (HB2.out.olt k hk))) hb3)
            have HBL3 := Lib.hid (HBL2.out.trans (hb3.mono hs2))
            clear b0 b1
            have b0 := cell_of_block HB3.out.box 0
            have b1 := cell_of_block HB3.out.box 1
            have f0 := unfrozen_of_block HB3.out.box 0
            have f1 := unfrozen_of_block HB3.out.box 1
            go_wp2_with fail
            go_meet
            exact ⟨2, 0, t, O2, rfl, rfl, rfl, rfl, Lib.hid ⟨HB3.out.store HB3.out.val HB3.out.apart (fun w' h1 h2 => D.rkeep _ _ _ _ _ _ HB3.out.is h1 h2), htg, ((HBL3.out.setCell (p := ⟨gV, 0, none⟩) HB3.out.gv.1 _).setCell (p := ⟨gV, 1, none⟩) HB3.out.gv.1 _)⟩⟩
        · by_cases hgood : 0 ≤ ck ∧ ck ≤ 32
          · obtain ⟨hg0, hg1⟩ := hgood
            obtain ⟨q, rfl⟩ : ∃ q : Nat, ck = (q : Int) := ⟨ck.toNat, by omega⟩
            have hq : q ≤ 32 := by omega
            by_cases hfit : t + q ≤ gn
            · have HN := Lib.hid (numAt_below G t q)
              obtain ⟨y, ey⟩ : ∃ y, numAt G t q = y := ⟨_, rfl⟩
              have EY := Lib.hid ey
              clear ey
              go_wp2_with fail
              go_at_call 17
              refine (D.get _ vR G t O q HB1.out.is hq (by rw [HG.out]; exact hfit) (by rw [HG.out]; omega)).mono ?_
              rintro e w2 ⟨O2, rfl, k1, k2, k3⟩
              rw [EY.out]
              have HB2 := Lib.hid (HB1.out.call k1 (D.rlt _ _ _ _ _ k1) k2 k3 hs1)
              obtain ⟨ho2, hn2⟩ := Both.else HO.out hnO k2 k3
              have HBL2 := Lib.hid (HBL1.out.trans (k3.below HB1.out.own hs1))
              have hs2 := HBL2.out.size
              have y2 := cell_of_block ho2 2
              have b0 := cell_of_block HB2.out.box 0
              have b1 := cell_of_block HB2.out.box 1
              clear k1 k3 ho2
              go_wp2_with fail
              go_at_call 25
              refine (rget_ok (.slice uo gn uc) G t q w2 HB2.out.val hq (by rw [HG.out]; omega) (by rw [HG.out]; exact hfit)).mono ?_
              rintro e w3 ⟨rfl, hb3⟩
              rw [EY.out]
              have HB3 := Lib.hid (HB2.out.below (D.rkeep _ _ _ _ _ _ HB2.out.is hb3.size (fun k hk => hb3.block k (HB2.out.olt k hk))) hb3)
              have HBL3 := Lib.hid (HBL2.out.trans (hb3.mono hs2))
              clear b0 b1
              have b0 := cell_of_block HB3.out.box 0
              have b1 := cell_of_block HB3.out.box 1
              have f0 := unfrozen_of_block HB3.out.box 0
              have f1 := unfrozen_of_block HB3.out.box 1
              go_wp2_with fail
              go_meet
              exact ⟨0, y, t + q, O2, rfl, rfl, rfl, rfl, Lib.hid ⟨HB3.out.store HB3.out.val HB3.out.apart (fun w' h1 h2 => D.rkeep _ _ _ _ _ _ HB3.out.is h1 h2), hfit, ((HBL3.out.setCell (p := ⟨gV, 0, none⟩) HB3.out.gv.1 _).setCell (p := ⟨gV, 1, none⟩) HB3.out.gv.1 _)⟩⟩
            · go_wp2_with fail
              go_at_call 17
              refine (D.getShort _ vR G t O q HB1.out.is hq (by rw [HG.out]; omega) (by rw [HG.out]; omega)).mono ?_
              rintro e w2 ⟨O2, rfl, k1, k2, k3⟩
              have HB2 := Lib.hid (HB1.out.call k1 (D.rlt _ _ _ _ _ k1) k2 k3 hs1)
              obtain ⟨ho2, hn2⟩ := Both.else HO.out hnO k2 k3
              have HBL2 := Lib.hid (HBL1.out.trans (k3.below HB1.out.own hs1))
              have hs2 := HBL2.out.size
              have y2 := cell_of_block ho2 2
              have b0 := cell_of_block HB2.out.box 0
              have b1 := cell_of_block HB2.out.box 1
              clear k1 k3 ho2
              go_wp2_with fail
              go_at_call 25
              refine (rget_short uo gn uc t q w2 hq (by omega) (by omega) (by omega)).mono ?_
              rintro e w3 ⟨rfl, hb3⟩
              have HB3 := Lib.hid (HB2.out.below (D.rkeep _ _ _ _ _ _ HB2.out.is hb3.size (fun k hk => hb3.block k (HB2.out.olt k hk))) hb3)
              have HBL3 := Lib.hid (HBL2.out.trans (hb3.mono hs2))
              clear b0 b1
              have b0 := cell_of_block HB3.out.box 0
              have b1 := cell_of_block HB3.out.box 1
              have f0 := unfrozen_of_block HB3.out.box 0
              have f1 := unfrozen_of_block HB3.out.box 1
              go_wp2_with fail
              go_meet
              exact ⟨12, 0, t, O2, rfl, rfl, rfl, rfl, Lib.hid ⟨HB3.out.store HB3.out.val HB3.out.apart (fun w' h1 h2 => D.rkeep _ _ _ _ _ _ HB3.out.is h1 h2), htg, ((HBL3.out.setCell (p := ⟨gV, 0, none⟩) HB3.out.gv.1 _).setCell (p := ⟨gV, 1, none⟩) HB3.out.gv.1 _)⟩⟩
          · have hbad : ck < 0 ∨ 32 < ck := by omega
            clear hgood
            go_wp2_with fail
            go_at_call 17
            refine (D.getBad _ vR G t O ck HB1.out.is hk64 hbad).mono ?_
            rintro e w2 ⟨O2, rfl, k1, k2, k3⟩
            have HB2 := Lib.hid (HB1.out.call k1 (D.rlt _ _ _ _ _ k1) k2 k3 hs1)
            obtain ⟨ho2, hn2⟩ := Both.else HO.out hnO k2 k3
            have HBL2 := Lib.hid (HBL1.out.trans (k3.below HB1.out.own hs1))
            have hs2 := HBL2.out.size
            have y2 := cell_of_block ho2 2
            have b0 := cell_of_block HB2.out.box 0
            have b1 := cell_of_block HB2.out.box 1
            clear k1 k3 ho2
            go_wp2_with fail
            go_at_call 25
            refine (rget_bad uo gn uc t ck w2 hbad).mono ?_
            rintro e w3 ⟨rfl, hb3⟩
            have HB3 := Lib.hid (HB2.out.below (D.rkeep _ _ _ _ _ _ HB2.out.is hb3.size (fun k hk => hb3.block k (HB2.out.olt k hk))) hb3)
            have HBL3 := Lib.hid (HBL2.out.trans (hb3.mono hs2))
            clear b0 b1
            have b0 := cell_of_block HB3.out.box 0
            have b1 := cell_of_block HB3.out.box 1
            have f0 := unfrozen_of_block HB3.out.box 0
            have f1 := unfrozen_of_block HB3.out.box 1
            go_wp2_with fail
            go_meet
            exact ⟨2, 0, t, O2, rfl, rfl, rfl, rfl, Lib.hid ⟨HB3.out.store HB3.out.val HB3.out.apart (fun w' h1 h2 => D.rkeep _ _ _ _ _ _ HB3.out.is h1 h2), htg, ((HBL3.out.setCell (p := ⟨gV, 0, none⟩) HB3.out.gv.1 _).setCell (p := ⟨gV, 1, none⟩) HB3.out.gv.1 _)⟩⟩
        · by_cases hgood : 0 ≤ ck ∧ ck ≤ 32
          · obtain ⟨hg0, hg1⟩ := hgood
            obtain ⟨q, rfl⟩ : ∃ q : Nat, ck = (q : Int) := ⟨ck.toNat, by omega⟩
            have hq : q ≤ 32 := by omega
            by_cases hfit : t + q ≤ gn
            · have HN := Lib.hid (numAt_below G t q)
              obtain ⟨y, ey⟩ : ∃ y, numAt G t q = y := ⟨_, rfl⟩
              have EY := Lib.hid ey
              clear ey
              go_wp2_with fail
              go_at_call 17
              refine (D.get _ vR G t O q HB1.out.is hq (by rw [HG.out]; exact hfit) (by rw [HG.out]; omega)).mono ?_
              rintro e w2 ⟨O2, rfl, k1, k2, k3⟩
              rw [EY.out]
              have HB2 := Lib.hid (HB1.out.call k1 (D.rlt _ _ _ _ _ k1) k2 k3 hs1)
              obtain ⟨ho2, hn2⟩ := Both.else HO.out hnO k2 k3
              have HBL2 := Lib.hid (HBL1.out.trans (k3.below HB1.out.own hs1))
              have hs2 := HBL2.out.size
              have y2 := cell_of_block ho2 2
              have b0 := cell_of_block HB2.out.box 0
              have b1 := cell_of_block HB2.out.box 1
              clear k1 k3 ho2
              go_wp2_with fail
              go_at_call 25
              refine (rget_ok (.slice uo gn uc) G t q w2 HB2.out.val hq (by rw [HG.out]; omega) (by rw [HG.out]; exact hfit)).mono ?_
              rintro e w3 ⟨rfl, hb3⟩
              rw [EY.out]
              have HB3 := Lib.hid (HB2.out.below (D.rkeep _ _ _ _ _ _ HB2.out.is hb3.size (fun k hk => hb3.block k (HB2.out.olt k hk))) hb3)
              have HBL3 := Lib.hid (HBL2.out.trans (hb3.mono hs2))
              clear b0 b1
              have b0 := cell_of_block HB3.out.box 0
              have b1 := cell_of_block HB3.out.box 1
              have f0 := unfrozen_of_block HB3.out.box 0
              have f1 := unfrozen_of_block HB3.out.box 1
              go_wp2_with fail
              go_meet
              exact ⟨0, y, t + q, O2, rfl, rfl, rfl, rfl, Lib.hid ⟨HB3.out.store HB3.out.val HB3.out.apart (fun w' h1 h2 => D.rkeep _ _ _ _ _ _ HB3.out.is h1 h2), hfit, ((HBL3.out.setCell (p := ⟨gV, 0, none⟩) HB3.out.gv.1 _).setCell (p := ⟨gV, 1, none⟩) HB3.out.gv.1 _)⟩⟩
            · go_wp2_with fail
              go_at_call 17
              refine (D.getShort _ vR G t O q HB1.out.is hq (by rw [HG.out]; omega) (by rw [HG.out]; omega)).mono ?_
              rintro e w2 ⟨O2, rfl, k1, k2, k3⟩
              have HB2 := Lib.hid (HB1.out.call k1 (D.rlt _ _ _ _ _ k1) k2 k3 hs1)
              obtain ⟨ho2, hn2⟩ := Both.else HO.out hnO k2 k3
              have HBL2 := Lib.hid (HBL1.out.trans (k3.below HB1.out.own hs1))
              have hs2 := HBL2.out.size
              have y2 := cell_of_block ho2 2
              have b0 := cell_of_block HB2.out.box 0
              have b1 := cell_of_block HB2.out.box 1
              clear k1 k3 ho2
              go_wp2_with fail
              go_at_call 25
              refine (rget_short uo gn uc t q w2 hq (by omega) (by omega) (by omega)).mono ?_
              rintro e w3 ⟨rfl, hb3⟩
              have HB3 := Lib.hid (HB2.out.below (D.rkeep _ _ _ _ _ _ HB2.out.is hb3.size (fun k hk => hb3.block k (HB2.out.olt k hk))) hb3)
              have HBL3 := Lib.hid (HBL2.out.trans (hb3.mono hs2))
              clear b0 b1
              have b0 := cell_of_block HB3.out.box 0
              have b1 := cell_of_block HB3.out.box 1
              have f0 := unfrozen_of_block HB3.out.box 0
              have f1 := unfrozen_of_block HB3.out.box 1
              go_wp2_with fail
              go_meet
              exact ⟨12, 0, t, O2, rfl, rfl, rfl, rfl, Lib.hid ⟨HB3.out.store HB3.out.val HB3.out.apart (fun w' h1 h2 => D.rkeep _ _ _ _ _ _ HB3.out.is h1 h2), htg, ((HBL3.out.setCell (p := ⟨gV, 0, none⟩) HB3.out.gv.1 _).setCell (p := ⟨gV, 1, none⟩) HB3.out.gv.1 _)⟩⟩
          · have hbad : ck < 0 ∨ 32 < ck := by omega
            clear hgood
            go_wp2_with fail
            go_at_call 17
            refine (D.getBad _ vR G t O ck HB1.out.is hk64 hbad).mono ?_
            rintro e w2 ⟨O2, rfl, k1, k2, k3⟩
            have HB2 := Lib.hid (HB1.out.call k1 (D.rlt _ _ _ _ _ k1) k2 k3 hs1)
            obtain ⟨ho2, hn2⟩ := Both.else HO.out hnO k2 k3
            have HBL2 := Lib.hid (HBL1.out.trans (k3.below HB1.out.own hs1))
            have hs2 := HBL2.out.size
            have y2 := cell_of_block ho2 2
            have b0 := cell_of_block HB2.out.box 0
            have b1 := cell_of_block HB2.out.box 1
            clear k1 k3 ho2
            go_wp2_with fail
            go_at_call 25
            refine (rget_bad uo gn uc t ck w2 hbad).mono ?_
            rintro e w3 ⟨rfl, hb3⟩
            have HB3 := Lib.hid (HB2.out.below (D.rkeep _ _ _ _ _ _ HB2.out.is hb3.size (fun k hk => hb3.block k (HB2.out.olt k hk))) hb3)
            have HBL3 := Lib.hid (HBL2.out.trans (hb3.mono hs2))
            clear b0 b1
            have b0 := cell_of_block HB3.out.box 0
            have b1 := cell_of_block HB3.out.box 1
            have f0 := unfrozen_of_block HB3.out.box 0
            have f1 := unfrozen_of_block HB3.out.box 1
            go_wp2_with fail
            go_meet
            exact ⟨2, 0, t, O2, rfl, rfl, rfl, rfl, Lib.hid ⟨HB3.out.store HB3.out.val HB3.out.apart (fun w' h1 h2 => D.rkeep _ _ _ _ _ _ HB3.out.is h1 h2), htg, ((HBL3.out.setCell (p := ⟨gV, 0, none⟩) HB3.out.gv.1 _).setCell (p := ⟨gV, 1, none⟩) HB3.out.gv.1 _)⟩⟩
        · by_cases hgood : 0 ≤ ck ∧ ck ≤ 32
          · obtain ⟨hg0, hg1⟩ := hgood
            obtain ⟨q, rfl⟩ : ∃ q : Nat, ck = (q : Int) := ⟨ck.toNat, by omega⟩
            have hq : q ≤ 32 := by omega
            by_cases hfit : t + q ≤ gn
            · have HN := Lib.hid (numAt_below G t q)
              obtain ⟨y, ey⟩ : ∃ y, numAt G t q = y := ⟨_, rfl⟩
              have EY := Lib.hid ey
              clear ey
              go_wp2_with fail
              go_at_call 17
              refine (D.get _ vR G t O q HB1.out.is hq (by rw [HG.out]; exact hfit) (by rw [HG.out]; omega)).mono ?_
              rintro e w2 ⟨O2, rfl, k1, k2, k3⟩
              rw [EY.out]
              have HB2 := Lib.hid (HB1.out.call k1 (D.rlt _ _ _ _ _ k1) k2 k3 hs1)
              obtain ⟨ho2, hn2⟩ := Both.else HO.out hnO k2 k3
              have HBL2 := Lib.hid (HBL1.out.trans (k3.below HB1.out.own hs1))
              have hs2 := HBL2.out.size
              have y2 := cell_of_block ho2 2
              have b0 := cell_of_block HB2.out.box 0
              have b1 := cell_of_block HB2.out.box 1
              clear k1 k3 ho2
              go_wp2_with fail
              go_at_call 25
              refine (rget_ok (.slice uo gn uc) G t q w2 HB2.out.val hq (by rw [HG.out]; omega) (by rw [HG.out]; exact hfit)).mono ?_
              rintro e w3 ⟨rfl, hb3⟩
              rw [EY.out]
              have HB3 := Lib.hid (HB2.out.below (D.rkeep _ _ _ _ _ _ HB2.out.is hb3.size (fun k hk => hb3.block k (HB2.out.olt k hk))) hb3)
              have HBL3 := Lib.hid (HBL2.out.trans (hb3.mono hs2))
              clear b0 b1
              have b0 := cell_of_block HB3.out.box 0
              have b1 := cell_of_block HB3.out.box 1
              have f0 := unfrozen_of_block HB3.out.box 0
              have f1 := unfrozen_of_block HB3.out.box 1
              go_wp2_with fail
              go_meet
              exact ⟨0, y, t + q, O2, rfl, rfl, rfl, rfl, Lib.hid ⟨HB3.out.store HB3.out.val HB3.out.apart (fun w' h1 h2 => D.rkeep _ _ _ _ _ _ HB3.out.is h1 h2), hfit, ((HBL3.out.setCell (p := ⟨gV, 0, none⟩) HB3.out.gv.1 _).setCell (p := ⟨gV, 1, none⟩) HB3.out.gv.1 _)⟩⟩
            · go_wp2_with fail
              go_at_call 17
              refine (D.getShort _ vR G t O q HB1.out.is hq (by rw [HG.out]; omega) (by rw [HG.out]; omega)).mono ?_
              rintro e w2 ⟨O2, rfl, k1, k2, k3⟩
              have HB2 := Lib.hid (HB1.out.call k1 (D.rlt _ _ _ _ _ k1) k2 k3 hs1)
              obtain ⟨ho2, hn2⟩ := Both.else HO.out hnO k2 k3
              have HBL2 := Lib.hid (HBL1.out.trans (k3.below HB1.out.own hs1))
              have hs2 := HBL2.out.size
              have y2 := cell_of_block ho2 2
              have b0 := cell_of_block HB2.out.box 0
              have b1 := cell_of_block HB2.out.box 1
              clear k1 k3 ho2
              go_wp2_with fail
              go_at_call 25
              refine (rget_short uo gn uc t q w2 hq (by omega) (by omega) (by omega)).mono ?_
              rintro e w3 ⟨rfl, hb3⟩
              have HB3 := Lib.hid (HB2.out.below (D.rkeep _ _ _ _ _ _ HB2.out.is hb3.size (fun k hk => hb3.block k (HB2.out.olt k hk))) hb3)
              have HBL3 := Lib.hid (HBL2.out.trans (hb3.mono hs2))
              clear b0 b1
              have b0 := cell_of_block HB3.out.box 0
              have b1 := cell_of_block HB3.out.box 1
              have f0 := unfrozen_of_block HB3.out.box 0
              have f1 := unfrozen_of_block HB3.out.box 1
              go_wp2_with fail
              go_meet
              exact ⟨12, 0, t, O2, rfl, rfl, rfl, rfl, Lib.hid ⟨HB3.out.store HB3.out.val HB3.out.apart (fun w' h1 h2 => D.rkeep _ _ _ _ _ _ HB3.out.is h1 h2), htg, ((HBL3.out.setCell (p := ⟨gV, 0, none⟩) HB3.out.gv.1 _).setCell (p := ⟨gV, 1, none⟩) HB3.out.gv.1 _)⟩⟩
          · have hbad : ck < 0 ∨ 32 < ck := by omega
            clear hgood
            go_wp2_with fail
            go_at_call 17
            refine (D.getBad _ vR G t O ck HB1.out.is hk64 hbad).mono ?_
            rintro e w2 ⟨O2, rfl, k1, k2, k3⟩
            have HB2 := Lib.hid (HB1.out.call k1 (D.rlt _ _ _ _ _ k1) k2 k3 hs1)
            obtain ⟨ho2, hn2⟩ := Both.else HO.out hnO k2 k3
            have HBL2 := Lib.hid (HBL1.out.trans (k3.below HB1.out.own hs1))
            have hs2 := HBL2.out.size
            have y2 := cell_of_block ho2 2
            have b0 := cell_of_block HB2.out.box 0
            have b1 := cell_of_block HB2.out.box 1
            clear k1 k3 ho2
            go_wp2_with fail
            go_at_call 25
            refine (rget_bad uo gn uc t ck w2 hbad).mono ?_
            rintro e w3 ⟨rfl, hb3⟩
            have HB3 := Lib.hid (HB2.out.below (D.rkeep _ _ _ _ _ _ HB2.out.is hb3.size (fun k hk => hb3.block k (HB2.out.olt k hk))) hb3)
            have HBL3 := Lib.hid (HBL2.out.trans (hb3.mono hs2))
            clear b0 b1
            have b0 := cell_of_block HB3.out.box 0
            have b1 := cell_of_block HB3.out.box 1
            have f0 := unfrozen_of_block HB3.out.box 0
            have f1 := unfrozen_of_block HB3.out.box 1
            go_wp2_with fail
            go_meet
            exact ⟨2, 0, t, O2, rfl, rfl, rfl, rfl, Lib.hid ⟨HB3.out.store HB3.out.val HB3.out.apart (fun w' h1 h2 => D.rkeep _ _ _ _ _ _ HB3.out.is h1 h2), htg, ((HBL3.out.setCell (p := ⟨gV, 0, none⟩) HB3.out.gv.1 _).setCell (p := ⟨gV, 1, none⟩) HB3.out.gv.1 _)⟩⟩
        · have HT7 : Hid ((t + 7) / 8 * 8 ≤ gn) := by
            show _ ≤ _
            have := HGN.out
            omega
          have ht7 : (t + 7) / 8 * 8 ≤ t + 7 := by omega
          go_wp2_with fail
          go_at_call 18
          refine (D.ralign _ vR G t O HB1.out.is (by rw [HG.out]; omega) (by rw [HG.out]; exact htg)).mono ?_
          rintro e w2 ⟨O2, rfl, k1, k2, k3⟩
          have HB2 := Lib.hid (HB1.out.call k1 (D.rlt _ _ _ _ _ k1) k2 k3 hs1)
          obtain ⟨ho2, hn2⟩ := Both.else HO.out hnO k2 k3
          have HBL2 := Lib.hid (HBL1.out.trans (k3.below HB1.out.own hs1))
          have hs2 := HBL2.out.size
          have y2 := cell_of_block ho2 2
          have b0 := cell_of_block HB2.out.box 0
          have b1 := cell_of_block HB2.out.box 1
          clear k1 k3 ho2
          go_wp2_with fail
          go_at_call 26
          refine (ralign_any uo gn uc t w2 (by omega)).mono ?_
          rintro e w3 ⟨rfl, hb3⟩
          have HB3 := Lib.hid (HB2.out.below (D.rkeep _ _ _ _ _ _ HB2.out.is hb3.size (fun k hk => hb3.block k (HB2.out.olt k hk))) hb3)
          have HBL3 := Lib.hid (HBL2.out.trans (hb3.mono hs2))
          clear b0 b1
          have b0 := cell_of_block HB3.out.box 0
          have b1 := cell_of_block HB3.out.box 1
          have f0 := unfrozen_of_block HB3.out.box 0
          have f1 := unfrozen_of_block HB3.out.box 1
          generalize (t + 7) / 8 * 8 = ta at *
          go_wp2_with fail
          go_meet
          exact ⟨0, 0, ta, O2, rfl, rfl, rfl, rfl, Lib.hid ⟨HB3.out.store HB3.out.val HB3.out.apart (fun w' h1 h2 => D.rkeep _ _ _ _ _ _ HB3.out.is h1 h2), HT7.out, ((HBL3.out.setCell (p := ⟨gV, 0, none⟩) HB3.out.gv.1 _).setCell (p := ⟨gV, 1, none⟩) HB3.out.gv.1 _)⟩⟩
        · have z1' : (kd == 1) = false := by simp [z1]
          have z2' : (kd == 2) = false := by simp [z2]
          have z3' : (kd == 3) = false := by simp [z3]
          have z4' : (kd == 4) = false := by simp [z4]
          have z5' : (kd == 5) = false := by simp [z5]
          have z6' : (kd == 6) = false := by simp [z6]
          go_wp2_with fail
          go_meet
          exact ⟨0, 0, t, O, rfl, rfl, rfl, rfl, Lib.hid ⟨HB1.out, htg, HBL1.out⟩⟩
      case rest =>
        obtain ⟨x, y, t', O', rfl, rfl, rfl, rfl, HA⟩ := hcut
        clear HB1 HO HBL1 x0 x1 x2
        obtain ⟨a1, a3, a4⟩ := HA.out
        have q0 := cell_of_block a1.box 1
        have hi2 := D.rkeep _ wc.drew _ _ _ _ a1.is (Nat.le_refl _) (fun _ _ => rfl)
        have KB : Calls Try.prog 19 #[vR] wc.drew fun e w'' => e = .returned (.int .i64 (t' : Int)) ∧ w'' = wc.drew := (DA wc.drew vR G t' O' hi2).mono fun e w'' h => ⟨h.1, h.2.symm⟩
        have HB9 := Lib.hid (a1.below hi2 ((Below.refl _ _).drew))
        have HBL9 := Lib.hid a4.drew
        have HT9 := Lib.hid a3
        clear a1 a3 a4 HA hi2
        go_wp2_with fail
        refine wp_region_still_lit (by kernel_rfl) (by kernel_rfl) ?_
        repeat still_step
        still_call KB
        repeat still_step
        refine wpStill_nil ?_
        go_wp2_with fail
        go_roundw
        case rel => exact ⟨k + 1, t', O', by omega, by omega, by go_num, HB9.out, HT9.out, HBL9.out⟩
        case measure => simp [intOf]; omega
    · have hd12 : (decide ((k : Int) < (n : Int)) = false) ∨ (decide ((k : Int) < (n : Int)) = true ∧ decide ((k : Int) < 100) = false) := by
        by_cases h : k < n
        · exact .inr ⟨decide_eq_true (by omega), decide_eq_false (by omega)⟩
        · exact .inl (decide_eq_false (by omega))
      rcases hd12 with hd1 | ⟨hd1, hd2⟩
      · go_wp2_with (go_at_call 20; refine (awake_any D _).mono ?_; rintro e w9 ⟨rfl, hb9⟩)
        all_goals go_ret
        all_goals exact ⟨rfl, HBL.out.trans (hb9.mono HBL.out.size)⟩
      · go_wp2_with (go_at_call 20; refine (awake_any D _).mono ?_; rintro e w9 ⟨rfl, hb9⟩)
        all_goals go_ret
        all_goals exact ⟨rfl, HBL.out.trans (hb9.mono HBL.out.size)⟩
end Go.Proofs.Ytenaokijjancgaa.Fx
