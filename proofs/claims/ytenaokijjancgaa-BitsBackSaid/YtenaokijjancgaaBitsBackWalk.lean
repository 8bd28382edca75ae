/-
  The walk of BitsBack, over what the calls do. The conditions are that the script reads as one.
-/
import Derived.Test.YtenaokijjancgaaBitsBackT
namespace Go.Proofs.Ytenaokijjancgaa.Fx
open Go Go.RowKit Go.Joins
set_option linter.unusedVariables false
set_option maxHeartbeats 8000000 in
set_option maxRecDepth 100000 in
theorem back_any {isW isR : World → Value → List Bool → Nat → (Nat → Prop) → Prop} (D : Does isW isR) (W : World) (v : Value) (cs : List Call) (hc : scriptIn W v cs) (hok : ∀ c ∈ cs, c.ok) :
    Calls Try.prog 7 #[v] W fun e w' => e = .returned (.bool true) ∧ Below W.heap.size W w' := by
  obtain ⟨so, sc, rfl⟩ := script_length hc
  have HC := Lib.hid hc
  have HOK := Lib.hid hok
  obtain ⟨n, en⟩ : ∃ n, cs.length = n := ⟨_, rfl⟩
  have EN := Lib.hid en
  rw [en] at HC ⊢
  clear hc hok en
  go_enter Try.func7, Try.ntmps7
  go_wp2_with fail
  go_at_call 10
  refine (D.wnew W).mono ?_
  rintro e w1 ⟨vw, O1, rfl, k1, k2, k3⟩
  go_wp2_with fail
  go_at_call 10
  refine (D.wnew w1).mono ?_
  rintro e w2 ⟨vv, O2, rfl, j1, j2, j3⟩
  have hA0 : All isW W.heap.size X0 w2 vw vv [] 0 O1 [] 0 O2 (.slice none 0 0) [] (.slice none 0 0) [] := by
    have h1 := D.wlt _ _ _ _ _ k1
    have h3 := k3.size
    refine ⟨D.wkeep _ _ _ _ _ _ k1 j3.size (fun k hk => j3.block k (h1 k hk)), j1, fun k hk => Nat.lt_of_lt_of_le (h1 k hk) j3.size, D.wlt _ _ _ _ _ j1, k2, fun k hk => Nat.le_trans h3 (j2 k hk), fun k hk ho => ?_, World.ownsRow_nil _ _ _ _, World.ownsRow_nil _ _ _ _, fun k hk => ?_, fun k hk => ?_, fun _ _ hx => hx.elim⟩
    · have := h1 k hk
      have := j2 k ho
      omega
    · simp [Value.ownBlock] at hk
    · simp [Value.ownBlock] at hk
  have hbl : Below W.heap.size W w2 := k3.trans (j3.mono k3.size)
  clear k1 k2 k3 j1 j2 j3
  go_wp2_with fail
  go_loopw [5, 6, 7] (fun s5 s6 i wr => ∃ (k : Nat) (ps : List Put1) (t : Nat) (O1 O2 : Nat → Prop), k ≤ n ∧ k ≤ 200 ∧ i = .int .i64 k ∧ ps.length = k ∧ (∀ c ∈ ps, c.ok) ∧ All isW W.heap.size X0 wr vw vv (runs ps) t O1 (runs ps) 0 O2 s5 (bytesAt (runs ps) 0 t) s6 ps ∧ 8 * t ≤ (runs ps).length ∧ Below W.heap.size W wr) (fun _ _ i _ => 200 - (intOf i).toNat)
  case atStart => exact ⟨0, [], 0, O1, O2, Nat.zero_le _, Nat.zero_le _, rfl, rfl, fun c hc => (by cases hc), hA0, Nat.zero_le _, hbl⟩
  case round =>
    clear hA0 hbl
    obtain ⟨k, ps, t, O1, O2, hkn, hk1, rfl, hpk, hpo, hAll, ht8, hbl⟩ := hrel
    obtain ⟨ao, ac, rfl⟩ := listed_length (own_listed hAll.all)
    obtain ⟨lo, lc, rfl⟩ := row3_form hAll.lst
    rw [bytesAt_length, hpk]
    have HALL := Lib.hid hAll
    have HBL := Lib.hid hbl
    have HPO := Lib.hid hpo
    have HPK := Lib.hid hpk
    rw [bytesAt_length, hpk] at HALL
    have HLEN : Hid ((runs ps).length ≤ 32 * k ∧ 8 * t ≤ (runs ps).length) := ⟨by have := runs_length ps hpo; rwa [hpk] at this, ht8⟩
    clear hAll hbl hpo hpk ht8
    by_cases hgo : k < n ∧ k < 200
    · obtain ⟨hk2, hk3⟩ := hgo
      have hd1 : decide ((k : Int) < (n : Int)) = true := decide_eq_true (by omega)
      have hd2 : decide ((k : Int) < 200) = true := decide_eq_true (by omega)
      obtain ⟨c, ec⟩ : ∃ c, cs[k]? = some c := ⟨cs[k]'(by rw [EN.out]; exact hk2), List.getElem?_eq_getElem _⟩
      obtain ⟨b, off, cap, es, hlt, c0, c1, c2⟩ := script_at HC.out k c ec
      rw [EN.out] at es
      simp only [Value.slice.injEq] at es
      obtain ⟨rfl, _, rfl⟩ := es
      have c0 := (HBL.out.cell hlt).trans c0
      have c1 := (HBL.out.cell hlt).trans c1
      have c2 := (HBL.out.cell hlt).trans c2
      have hcok := HOK.out c (List.mem_of_getElem? ec)
      obtain ⟨kd, cn, ck⟩ := c
      obtain ⟨⟨hd0, hd9⟩, hn32, hk64⟩ := hcok
      simp only at c0 c1 c2 hd0 hd9 hn32 hk64
      clear ec
      have KP := fun w' => pick33 ck hk64 w'
      go_upto_region 8 with fail
      have hs0 := HBL.out.size
      have hA1 := HALL.out.boxed D hs0 #[.int .i64 kd, .int .u32 (cn : Int), .int .i64 ck] 42
      have hbl1 := HBL.out.alloc hs0 (.cells #[.int .i64 kd, .int .u32 (cn : Int), .int .i64 ck] 42)
      obtain ⟨w0, e0⟩ : ∃ w0, w0 = wr.alloc (.cells #[.int .i64 kd, .int .u32 (cn : Int), .int .i64 ck] 42) := ⟨_, rfl⟩
      obtain ⟨gO, eO⟩ : ∃ gO, wr.heap.size = gO := ⟨_, rfl⟩
      rw [eO] at hA1 ⊢
      rw [← e0] at hA1 hbl1 ⊢
      clear e0 eO c0 c1 c2
      have hbx := (hA1.box gO _ ⟨rfl, rfl⟩).1
      have x0 := cell_of_block hbx 0
      have x1 := cell_of_block hbx 1
      have x2 := cell_of_block hbx 2
      have f2 := unfrozen_of_block hbx 2
      have HA1 := Lib.hid hA1
      have HBL1 := Lib.hid hbl1
      clear hA1 hbl1 hbx
      go_wp2_with fail
      go_at_call 27
      refine (KP _).mono ?_
      rintro e w' ⟨⟨p, rfl, hp⟩, rfl⟩
      go_upto_region 9 with fail
      have hA2 : All isW W.heap.size (X1 gO (.cells #[.int .i64 kd, .int .u32 (cn : Int), .int .i64 (p : Int)] 42 (0, 0))) (w0.setCell ⟨gO, 2, none⟩ (.int .i64 (p : Int))) vw vv (runs ps) t O1 (runs ps) 0 O2 (.slice ao t ac) (bytesAt (runs ps) 0 t) (.slice lo k lc) ps := HA1.out.set D 2 _
      have hbl2 : Below W.heap.size W (w0.setCell ⟨gO, 2, none⟩ (.int .i64 (p : Int))) := HBL1.out.setCell (p := ⟨gO, 2, none⟩) (HA1.out.box gO _ ⟨rfl, rfl⟩).2.1 _
      obtain ⟨w3, e3⟩ : ∃ w3, w3 = w0.setCell ⟨gO, 2, none⟩ (.int .i64 (p : Int)) := ⟨_, rfl⟩
      rw [← e3] at hA2 hbl2 ⊢
      clear e3 x0 x1 x2 f2 HA1 HBL1 KP
      have hbx := (hA2.box gO _ ⟨rfl, rfl⟩).1
      have x1 := cell_of_block hbx 1
      have x2 := cell_of_block hbx 2
      have f1 := unfrozen_of_block hbx 1
      have HA2 := Lib.hid hA2
      have HBL2 := Lib.hid hbl2
      clear hA2 hbl2 hbx
      obtain ⟨P, M, N, m1, m2, m3, m4, m5, m6, m7, m8⟩ := mask64 cn p hn32 hp
      have HN : Hid (N < 2 ^ p) := by
        show _ < _
        rw [m4]
        exact Nat.mod_lt _ (Nat.pow_pos (by decide))
      have hwN : IntKind.u32.wrap (N : Int) = (N : Int) := by rw [IntKind.wrap_u32']; omega
      have hwn : IntKind.u64.wrap (cn : Int) = (cn : Int) := by rw [IntKind.wrap_u64]; omega
      clear m4
      refine wp_region_still_tail 10 (by kernel_rfl) (by kernel_rfl) ?_
      simp only [List.take_succ_cons, List.take_zero, List.drop_succ_cons, List.drop_zero]
      repeat still_step
      refine wpStill_nil ?_
      change wpList _ _ _ _ _ w3.drew
      go_upto_region 10 with fail
      have hA3 : All isW W.heap.size (X1 gO (.cells #[.int .i64 kd, .int .u32 (N : Int), .int .i64 (p : Int)] 42 (0, 0))) ((w3.setCell ⟨gO, 1, none⟩ (.int .u32 (N : Int))).drew) vw vv (runs ps) t O1 (runs ps) 0 O2 (.slice ao t ac) (bytesAt (runs ps) 0 t) (.slice lo k lc) ps := (HA2.out.set D 1 (.int .u32 (N : Int))).below D (Below.refl _ _).drew
      have hbl3 : Below W.heap.size W ((w3.setCell ⟨gO, 1, none⟩ (.int .u32 (N : Int))).drew) := (HBL2.out.setCell (p := ⟨gO, 1, none⟩) (HA2.out.box gO _ ⟨rfl, rfl⟩).2.1 _).drew
      obtain ⟨w4, e4⟩ : ∃ w4, w4 = (w3.setCell ⟨gO, 1, none⟩ (.int .u32 (N : Int))).drew := ⟨_, rfl⟩
      rw [← e4] at hA3 hbl3 ⊢
      clear e4 x1 x2 f1 HA2 HBL2 m1 m2 m3 m5 m6 m7 m8 hwn hn32 hk64
      have hbx := (hA3.box gO _ ⟨rfl, rfl⟩).1
      have x0 := cell_of_block hbx 0
      have x1 := cell_of_block hbx 1
      have x2 := cell_of_block hbx 2
      have HA3 := Lib.hid hA3
      have HBL3 := Lib.hid hbl3
      have hs3 := hbl3.size
      clear hA3 hbl3 hbx
      have HST : Hid ((step1 (runs ps) ⟨kd, N, p⟩).length ≤ (runs ps).length + 32) := step1_length _ _ hp
      have HZS : Hid (bytesAt (step1 (runs ps) ⟨kd, N, p⟩) 0 t = bytesAt (runs ps) 0 t) := by
        obtain ⟨x, hx⟩ := step1_more (runs ps) ⟨kd, N, p⟩
        show _ = _
        rw [hx, bytesAt_more _ _ _ _ (by have := HLEN.out; omega)]
      have HLG : Hid ((runs ps).length ≤ (step1 (runs ps) ⟨kd, N, p⟩).length) := by
        obtain ⟨x, hx⟩ := step1_more (runs ps) ⟨kd, N, p⟩
        show _ ≤ _
        rw [hx, List.length_append]
        omega
      go_upto_if 45 with fail
      go_cut [7] (fun s7 wx => s7 = .int .i64 (k : Int) ∧ ∃ (O1' O2' : Nat → Prop), Hid (All isW W.heap.size (X1 gO (.cells #[.int .i64 kd, .int .u32 (N : Int), .int .i64 (p : Int)] 42 (0, 0))) wx vw vv (step1 (runs ps) ⟨kd, N, p⟩) t O1' (step1 (runs ps) ⟨kd, N, p⟩) 0 O2' (.slice ao t ac) (bytesAt (runs ps) 0 t) (.slice lo k lc) ps ∧ Below W.heap.size W wx))
      case first =>
        by_cases h6 : kd = 6
        · subst h6
          have hst : step1 (runs ps) ⟨6, N, p⟩ = aligned (runs ps) := by unfold step1; rw [if_pos rfl]
          have HST2 := Lib.hid hst
          clear hst
          go_wp2_with fail
          go_at_call 14
          refine (D.align _ vw (runs ps) t O1 HA3.out.iw (by have := HLEN.out; omega)).mono ?_
          rintro e w5 ⟨O1', rfl, k1, k2, k3⟩
          have HA4 := Lib.hid (HA3.out.callW D k1 k2 k3 hs3)
          have HBL4 := Lib.hid (HBL3.out.trans (k3.below HA3.out.own1 hs3))
          have hs4 := HBL4.out.size
          clear k1 k2 k3
          go_wp2_with fail
          go_at_call 14
          refine (D.align _ vv (runs ps) 0 O2 HA4.out.iv (by have := HLEN.out; omega)).mono ?_
          rintro e w6 ⟨O2', rfl, k1, k2, k3⟩
          have HA5 := Lib.hid (HA4.out.callV D k1 k2 k3 hs4)
          have HBL5 := Lib.hid (HBL4.out.trans (k3.below HA4.out.own2 hs4))
          clear k1 k2 k3
          go_wp2_with fail
          go_meet
          exact ⟨rfl, O1', O2', Lib.hid ⟨by rw [HST2.out]; exact HA5.out, HBL5.out⟩⟩
        · have h6' : (kd == 6) = false := by simp [h6]
          have hst : step1 (runs ps) ⟨kd, N, p⟩ = runs ps ++ bitsOf N p := by unfold step1; rw [if_neg h6]
          have HST2 := Lib.hid hst
          clear hst
          go_wp2_with fail
          go_at_call 11
          refine (D.put _ vw (runs ps) t O1 N p HA3.out.iw (by have := HLEN.out; omega) hp HN.out).mono ?_
          rintro e w5 ⟨O1', rfl, k1, k2, k3⟩
          have HA4 := Lib.hid (HA3.out.callW D k1 k2 k3 hs3)
          have HBL4 := Lib.hid (HBL3.out.trans (k3.below HA3.out.own1 hs3))
          have hs4 := HBL4.out.size
          clear k1 k2 k3
          have hbx := (HA4.out.box gO _ ⟨rfl, rfl⟩).1
          have y1 := cell_of_block hbx 1
          have y2 := cell_of_block hbx 2
          clear hbx
          go_wp2_with fail
          go_at_call 11
          refine (D.put _ vv (runs ps) 0 O2 N p HA4.out.iv (by have := HLEN.out; omega) hp HN.out).mono ?_
          rintro e w6 ⟨O2', rfl, k1, k2, k3⟩
          have HA5 := Lib.hid (HA4.out.callV D k1 k2 k3 hs4)
          have HBL5 := Lib.hid (HBL4.out.trans (k3.below HA4.out.own2 hs4))
          clear k1 k2 k3
          go_wp2_with fail
          go_meet
          exact ⟨rfl, O1', O2', Lib.hid ⟨by rw [HST2.out]; exact HA5.out, HBL5.out⟩⟩
      case rest =>
        obtain ⟨rfl, O1', O2', HB⟩ := hcut
        clear HA3 HBL3 x0 x1 x2 hs3
        obtain ⟨L, eL⟩ : ∃ L, step1 (runs ps) ⟨kd, N, p⟩ = L := ⟨_, rfl⟩
        rw [eL] at HB HST HZS HLG
        rw [← HZS.out] at HB
        have EL := Lib.hid eL
        clear eL HZS
        have hbx := (HB.out.1.box gO _ ⟨rfl, rfl⟩).1
        have x0 := cell_of_block hbx 0
        have hs5 := HB.out.2.size
        clear hbx
        have HLL : Hid (L.length ≤ 32 * k + 32 ∧ 8 * t ≤ L.length) := ⟨by have := HST.out; have := HLEN.out; omega, by have := HLG.out; have := HLEN.out; omega⟩
        go_upto_if 72 with fail
        go_cut [5] (fun s5 wx => ∃ (t' : Nat) (ao' : Option Addr) (ac' : Nat) (O1'' : Nat → Prop), s5 = .slice ao' t' ac' ∧ Hid (All isW W.heap.size (X1 gO (.cells #[.int .i64 kd, .int .u32 (N : Int), .int .i64 (p : Int)] 42 (0, 0))) wx vw vv L t' O1'' L 0 O2' (.slice ao' t' ac') (bytesAt L 0 t') (.slice lo k lc) ps ∧ 8 * t' ≤ L.length ∧ Below W.heap.size W wx))
        case first =>
          by_cases h5 : kd = 5
          · subst h5
            go_wp2_with fail
            go_at_call 13
            refine (D.take _ vw L t O1' HB.out.1.iw (by have := HLL.out; omega) HLL.out.2).mono ?_
            rintro e w5 ⟨u, O1'', rfl, kb, ka, k1, k2, k3⟩
            have HA4 := Lib.hid (HB.out.1.callW D k1 k2 k3 hs5)
            have HBL4 := Lib.hid (HB.out.2.trans (k3.below HB.out.1.own1 hs5))
            have hs4 := HBL4.out.size
            have hrow := HA4.out.all
            rw [bytesAt_length] at hrow
            have KA := append_bytes hrow kb (by rw [bytesAt_length]; have := HLL.out; omega) hs4
            have hcat : bytesAt L 0 t ++ bytesAt L t (L.length / 8 - t) = bytesAt L 0 (L.length / 8) := by
              have h := bytesAt_add L 0 t (L.length / 8 - t)
              rw [Nat.zero_add, show t + (L.length / 8 - t) = L.length / 8 by have := HLL.out; omega] at h
              exact h.symm
            rw [bytesAt_length, hcat, show t + (L.length / 8 - t) = L.length / 8 by have := HLL.out; omega] at KA
            have KA := Lib.hid KA
            clear k1 k2 k3 kb ka hrow hcat
            go_wp2_with (at_builtin; refine wpList_append_lies rfl _ _ 28 rfl _ _ rfl rfl _ KA.out ?_)
            intro v' w6 hown hgrow hwhere
            obtain ⟨o6, c6, rfl⟩ := row1_form hown
            have HA5 := Lib.hid (HA4.out.growA (zs' := bytesAt L 0 (L.length / 8)) D (by rw [bytesAt_length]; exact hown) hgrow hwhere)
            have HBL5 := Lib.hid (HBL4.out.grown hgrow hs4 (fun q hq => (HA4.out.all.lt q hq).1))
            clear hown hgrow hwhere
            obtain ⟨t6, et6⟩ : ∃ t6, L.length / 8 = t6 := ⟨_, rfl⟩
            rw [et6] at HA5 ⊢
            have ET6 := Lib.hid et6
            clear et6
            go_wp2_with fail
            go_meet
            exact ⟨t6, o6, c6, O1'', rfl, Lib.hid ⟨HA5.out, by have := ET6.out; omega, HBL5.out⟩⟩
          · have h5' : (kd == 5) = false := by simp [h5]
            go_wp2_with fail
            go_meet
            exact ⟨t, ao, ac, O1', rfl, Lib.hid ⟨HB.out.1, HLL.out.2, HB.out.2⟩⟩
        case rest =>
          obtain ⟨t', ao', ac', O1'', rfl, HC'⟩ := hcut
          clear HB x0 hs5
          have hbx := (HC'.out.1.box gO _ ⟨rfl, rfl⟩).1
          have x0 := cell_of_block hbx 0
          have x1 := cell_of_block hbx 1
          have x2 := cell_of_block hbx 2
          clear hbx
          have hs6 := HC'.out.2.2.size
          have hal : Below wc.heap.size wc (wc.alloc (.cells #[.int .i64 kd, .int .u32 (N : Int), .int .i64 (p : Int)] 42)) := (Below.refl _ _).alloc (Nat.le_refl _) _
          have HD := Lib.hid (HC'.out.1.below D hal)
          have HBL6 := Lib.hid (HC'.out.2.2.trans (hal.mono hs6))
          have hlst := HD.out.lst
          rw [HPK.out] at hlst
          have KA := Lib.hid (append_call (g := wc.heap.size) (c := ⟨kd, N, p⟩) hlst (heap_alloc_new wc _) (by omega) (HBL6.out.size))
          clear hal hlst
          go_wp2_with (at_builtin; refine wpList_append_lies rfl _ _ 37 rfl _ _ rfl rfl _ KA.out ?_)
          intro v' w6 hown hgrow hwhere
          have HE := Lib.hid (HD.out.growL (ps' := ps ++ [⟨kd, N, p⟩]) D (by rw [List.length_append, HPK.out]; exact hown) hgrow (by simpa using hwhere)).plain
          have HBL7 := Lib.hid (HBL6.out.grown hgrow HBL6.out.size (fun q hq => (HD.out.lst.lt q hq).1))
          clear hown hgrow hwhere
          go_wp2_with fail
          go_roundw
          case rel =>
            have hr : runs (ps ++ [⟨kd, N, p⟩]) = L := by rw [runs_snoc, EL.out]
            refine ⟨k + 1, ps ++ [⟨kd, N, p⟩], t', O1'', O2', by omega, by omega, by go_num, by rw [List.length_append, HPK.out]; rfl, fun c hc => ?_, by rw [hr]; exact HE.out, by rw [hr]; exact HC'.out.2.1, HBL7.out⟩
            rcases List.mem_append.1 hc with h | h
            · exact HPO.out c h
            · obtain rfl := List.mem_singleton.1 h
              exact ⟨hp, HN.out⟩
          case measure => simp [intOf]; omega
    · have hd12 : (decide ((k : Int) < (n : Int)) = false) ∨ (decide ((k : Int) < (n : Int)) = true ∧ decide ((k : Int) < 200) = false) := by
        by_cases h : k < n
        · exact .inr ⟨decide_eq_true (by omega), decide_eq_false (by omega)⟩
        · exact .inl (decide_eq_false (by omega))
      go_upto_region 5 with fail
      go_cut [22] (fun s22 wx => s22 = .bool false ∧ wx = wr)
      case first =>
        clear hd12
        by_cases hn1 : k < n
        · have hn2 : ¬ k < 200 := fun h => hgo ⟨hn1, h⟩
          have hd1 : decide ((k : Int) < (n : Int)) = true := decide_eq_true (by omega)
          have hd2 : decide ((k : Int) < 200) = false := decide_eq_false (by omega)
          clear hgo
          go_wp2_with fail
          all_goals go_meet
          all_goals exact ⟨by first | rfl | rw [hd2], rfl⟩
        · have hd1 : decide ((k : Int) < (n : Int)) = false := decide_eq_false (by omega)
          clear hgo
          go_wp2_with fail
          all_goals go_meet
          all_goals exact ⟨by first | rfl | (exfalso; omega), rfl⟩
      case rest =>
        obtain ⟨rfl, rfl⟩ := hcut
        have hs3 := HBL.out.size
        have hk7 : k ≤ 200 := hk1
        clear hd12 hgo
        go_wp2_with fail
        go_at_call 14
        refine (D.align _ vw (runs ps) t O1 HALL.out.iw (by have := HLEN.out; omega)).mono ?_
        rintro e w5 ⟨O1', rfl, k1, k2, k3⟩
        have HA4 := Lib.hid (HALL.out.callW D k1 k2 k3 hs3)
        have HBL4 := Lib.hid (HBL.out.trans (k3.below HALL.out.own1 hs3))
        have hs4 := HBL4.out.size
        clear k1 k2 k3
        go_wp2_with fail
        go_at_call 14
        refine (D.align _ vv (runs ps) 0 O2 HA4.out.iv (by have := HLEN.out; omega)).mono ?_
        rintro e w6 ⟨O2', rfl, k1, k2, k3⟩
        have HA5 := Lib.hid (HA4.out.callV D k1 k2 k3 hs4)
        have HBL5 := Lib.hid (HBL4.out.trans (k3.below HA4.out.own2 hs4))
        have hs5 := HBL5.out.size
        clear k1 k2 k3
        have hzs : bytesAt (aligned (runs ps)) 0 t = bytesAt (runs ps) 0 t := by
          unfold aligned
          exact bytesAt_more _ _ _ _ (by have := HLEN.out; omega)
        have hA8 : (aligned (runs ps)).length = ((runs ps).length + 7) / 8 * 8 := aligned_length _
        obtain ⟨A, eA⟩ : ∃ A, aligned (runs ps) = A := ⟨_, rfl⟩
        rw [← hzs, eA] at HA5
        rw [eA] at hA8
        have EA := Lib.hid eA
        obtain ⟨m8, em8⟩ : ∃ m8, A.length / 8 = m8 := ⟨_, rfl⟩
        have HM8 : Hid (A.length = 8 * m8 ∧ t ≤ m8 ∧ m8 ≤ 1000 ∧ (runs ps).length ≤ A.length ∧ ((runs ps).length + 7) / 8 * 8 = A.length) := by
          have := HLEN.out
          exact ⟨by omega, by omega, by omega, by omega, by omega⟩
        have EM8 := Lib.hid em8
        clear em8 eA hzs hA8 HA4 HBL4 hs4
        go_wp2_with fail
        go_at_call 13
        refine (D.take _ vw A t O1' HA5.out.iw (by have := HM8.out; omega) (by have := HM8.out; omega)).mono ?_
        rintro e w7 ⟨u, O1'', rfl, kb, ka, k1, k2, k3⟩
        rw [EM8.out] at kb k1
        have HA6 := Lib.hid (HA5.out.callW D k1 k2 k3 hs5)
        have HBL6 := Lib.hid (HBL5.out.trans (k3.below HA5.out.own1 hs5))
        have hs6 := HBL6.out.size
        have hrow := HA6.out.all
        rw [bytesAt_length] at hrow
        have KA := append_bytes hrow kb (by rw [bytesAt_length]; have := HM8.out; omega) hs6
        have hcat : bytesAt A 0 t ++ bytesAt A t (m8 - t) = bytesAt A 0 m8 := by
          have h := bytesAt_add A 0 t (m8 - t)
          rw [Nat.zero_add, show t + (m8 - t) = m8 by have := HM8.out; omega] at h
          exact h.symm
        rw [bytesAt_length, hcat, show t + (m8 - t) = m8 by have := HM8.out; omega] at KA
        have KA := Lib.hid KA
        clear k1 k2 k3 kb ka hrow hcat
        go_wp2_with (at_builtin; refine wpList_append_lies rfl _ _ 28 rfl _ _ rfl rfl _ KA.out ?_)
        intro v' w8 hown hgrow hwhere
        obtain ⟨o6, c6, rfl⟩ := row1_form hown
        have HA7 := Lib.hid (HA6.out.growA (zs' := bytesAt A 0 m8) D (by rw [bytesAt_length]; exact hown) hgrow hwhere)
        have HBL7 := Lib.hid (HBL6.out.grown hgrow hs6 (fun q hq => (HA6.out.all.lt q hq).1))
        have hs7 := HBL7.out.size
        clear hown hgrow hwhere KA HA6 HBL6 hs6 HA5 HBL5 hs5
        go_wp2_with fail
        go_at_call 13
        refine (D.take _ vv A 0 O2' HA7.out.iv (by have := HM8.out; omega) (Nat.zero_le _)).mono ?_
        rintro e w9 ⟨u9, O2'', rfl, kb, ka, k1, k2, k3⟩
        rw [EM8.out] at kb k1
        rw [Nat.sub_zero] at kb
        have HA8 := Lib.hid (HA7.out.callV D k1 k2 k3 hs7)
        have HBL8 := Lib.hid (HBL7.out.trans (k3.below HA7.out.own2 hs7))
        have hs8 := HBL8.out.size
        have hall := own_listed HA8.out.all
        have KS := same_listed _ u9 (bytesAt A 0 m8) w9 hall kb
        clear k1 k2 k3 kb ka hall
        go_wp2_with fail
        go_at_call 15
        refine KS.mono ?_
        rintro e w' ⟨rfl, rfl⟩
        clear KS
        have h8m : 8 * (m8 : Int) = (A.length : Int) := by have := HM8.out; omega
        have hwm : IntKind.i64.wrap (A.length : Int) = (A.length : Int) := by rw [IntKind.wrap_i64]; have := HM8.out; omega
        go_wp2_with fail
        go_at_call 12
        refine (D.bits _ vw A m8 O1'' HA8.out.iw).mono ?_
        rintro e w10 ⟨O1b, rfl, k1, k2, k3⟩
        have HA9 := Lib.hid (HA8.out.callW D k1 k2 k3 hs8)
        have HBL9 := Lib.hid (HBL8.out.trans (k3.below HA8.out.own1 hs8))
        have hs9 := HBL9.out.size
        clear k1 k2 k3 HA7 HBL7 hs7
        have KN := D.rnew w10 _ (bytesAt A 0 m8) (own_listed HA9.out.all) (bytesAt_bytes _ _ _) (by rw [bytesAt_length]; have := HM8.out; omega)
        have hbits : bitsOfBytes (bytesAt A 0 m8) = A := by
          rw [bits_bytes A 0 m8 (by have := HM8.out; omega), Nat.mul_zero, List.drop_zero, ← HM8.out.1, List.take_length]
        rw [hbits] at KN
        clear hbits
        go_wp2_with fail
        go_at_call 16
        refine KN.mono ?_
        rintro e w11 ⟨vr, O3, rfl, k1, k2, k3⟩
        have hlst := (HA9.out.below D k3).lst
        have HF : Hid (After isW isR W.heap.size w11 vw vr A m8 O1b 0 O3 (.slice lo k lc) ps) := by
          refine ⟨(HA9.out.below D k3).iw, k1, D.rlt _ _ _ _ _ k1, (HA9.out.below D k3).lt1, fun q hq => Nat.le_trans hs9 (k2 q hq), fun q hq ho => ?_, hlst, fun q hq ho => ?_⟩
          · have := HA9.out.lt1 q hq
            have := k2 q ho
            omega
          · have := (HA9.out.lst.lt q hq).2
            have := k2 q ho
            omega
        have HBL10 := Lib.hid (HBL9.out.trans (k3.mono hs9))
        have OWN1 := Lib.hid HA9.out.own1
        clear k1 k2 k3 hlst KN HA9 HBL9 HA8 HBL8 hs8 hs9 HALL HBL hs3 h8m hwm
        go_wp2_with fail
        obtain ⟨lcap, hlcap⟩ : ∃ x, x = lc := ⟨_, rfl⟩
        have hst : (runs (ps.take 0)).length = 0 := rfl
        go_loopw [10] (fun i wx => ∃ (j : Nat) (O3' : Nat → Prop), j ≤ k ∧ i = .int .i64 j ∧ After isW isR W.heap.size wx vw vr A m8 O1b (runs (ps.take j)).length O3' (.slice lo k lc) ps ∧ Below W.heap.size W wx) (fun i _ => k - (intOf i).toNat)
        case atStart => exact ⟨0, O3, Nat.zero_le _, rfl, HF.out, HBL10.out⟩
        case round =>
          clear HF HBL10 hst hlcap
          obtain ⟨j, O3', hjk, rfl, hF, hbl⟩ := hrel
          have HF := Lib.hid hF
          have HBL := Lib.hid hbl
          have hsz := hbl.size
          clear hF hbl
          by_cases hj : j < k
          · have hd1 : decide ((j : Int) < (k : Int)) = true := decide_eq_true (by omega)
            obtain ⟨c, ec⟩ : ∃ c, ps[j]? = some c := ⟨ps[j]'(by rw [HPK.out]; exact hj), List.getElem?_eq_getElem _⟩
            obtain ⟨hck, hcn⟩ := HPO.out c (List.mem_of_getElem? ec)
            obtain ⟨z0, z1, z2⟩ := cells3_at ps j c ec
            obtain ⟨gl, rfl, glt⟩ := row3_some HF.out.lst (by rw [HPK.out]; omega)
            have c0 := HF.out.lst.cells rfl _ _ z0
            have c1 := HF.out.lst.cells rfl _ _ z1
            have c2 := HF.out.lst.cells rfl _ _ z2
            rw [Addr.add_lit, Nat.zero_add] at c0 c1 c2
            have HE := Lib.hid ec
            have hr := runs_short ps j
            obtain ⟨T, eT⟩ : ∃ T, (runs (ps.take j)).length = T := ⟨_, rfl⟩
            have ET := Lib.hid eT
            rw [eT] at HF hr
            obtain ⟨kd, cn, ck⟩ := c
            simp only at hck hcn c0 c1 c2
            have HCN := Lib.hid hcn
            have hb32 := pow_le ck hck
            have hcn32 : cn ≤ 4294967295 := by omega
            have hj0 : (0 : Int) ≤ (j : Int) := by omega
            have hjk2 : (j : Int) < (k : Int) := by omega
            clear eT ec z0 z1 z2 hcn hb32
            by_cases h6 : kd = 6
            · subst h6
              have hag := aligned_again ps j _ HE.out rfl
              rw [ET.out] at hag
              go_wp2_with fail
              go_at_call 18
              refine (D.ralign _ vr A T O3' HF.out.ir (by have := HM8.out; omega) (by have := HM8.out; omega)).mono ?_
              rintro e w5 ⟨O4, rfl, k1, k2, k3⟩
              rw [hag] at k1
              have HF2 := Lib.hid (HF.out.call D k1 k2 k3 hsz)
              have HBL2 := Lib.hid (HBL.out.trans (k3.below HF.out.own3 hsz))
              clear k1 k2 k3 hag
              go_wp2_with fail
              go_roundw
              case rel => exact ⟨j + 1, O4, by omega, by go_num, HF2.out, HBL2.out⟩
              case measure => simp [intOf]; omega
            · have h6' : (kd == 6) = false := by simp [h6]
              obtain ⟨g1, g2, g3⟩ := got_again ps j _ HE.out h6 HCN.out
              rw [ET.out] at g1 g3
              rw [EA.out] at g2 g3
              simp only at g1 g3
              have HG1 := Lib.hid g1
              go_wp2_with fail
              go_at_call 17
              refine (D.get _ vr A T O3' ck HF.out.ir hck (by rw [g1]; exact g2) (by have := HM8.out; omega)).mono ?_
              rintro e w5 ⟨O4, rfl, k1, k2, k3⟩
              rw [g3]
              rw [g1] at k1
              have HF2 := Lib.hid (HF.out.call D k1 k2 k3 hsz)
              have HBL2 := Lib.hid (HBL.out.trans (k3.below HF.out.own3 hsz))
              clear k1 k2 k3 g1 g2 g3 c0 c1 c2
              have y1 := HF2.out.lst.cells rfl _ _ (cells3_at ps j _ HE.out).2.1
              rw [Addr.add_lit, Nat.zero_add] at y1
              simp only at y1
              go_wp2_with fail
              go_roundw
              case rel => exact ⟨j + 1, O4, by omega, by go_num, HF2.out, HBL2.out⟩
              case measure => simp [intOf]; omega
          · have hd1 : decide ((j : Int) < (k : Int)) = false := decide_eq_false (by omega)
            obtain rfl : j = k := by omega
            have hall : ps.take j = ps := by rw [← HPK.out, List.take_length]
            rw [hall] at HF
            have HM := HM8.out
            go_wp2_with fail
            go_at_call 18
            refine (D.ralign _ vr A (runs ps).length O3' HF.out.ir (by omega) (by omega)).mono ?_
            rintro e w5 ⟨O4, rfl, k1, k2, k3⟩
            rw [HM.2.2.2.2] at k1
            have HF2 := Lib.hid (HF.out.call D k1 k2 k3 hsz)
            have HBL2 := Lib.hid (HBL.out.trans (k3.below HF.out.own3 hsz))
            have hsz2 := HBL2.out.size
            clear k1 k2 k3
            go_wp2_with fail
            go_at_call 19
            refine (D.place _ vr A A.length O4 HF2.out.ir).mono ?_
            rintro e w6 ⟨O5, rfl, k1, k2, k3⟩
            have HF3 := Lib.hid (HF2.out.call D k1 k2 k3 hsz2)
            have HBL3 := Lib.hid (HBL2.out.trans (k3.below HF2.out.own3 hsz2))
            have hsz3 := HBL3.out.size
            clear k1 k2 k3
            go_wp2_with fail
            go_at_call 12
            refine (D.bits _ vw A m8 O1b HF3.out.iw).mono ?_
            rintro e w7 ⟨O6, rfl, k1, k2, k3⟩
            have HBL4 := Lib.hid (HBL3.out.trans (k3.below (O := O1b) OWN1.out hsz3))
            clear k1 k2 k3
            go_wp2_with fail
            go_at_call 20
            refine (awake_any D _).mono ?_
            rintro e w9 ⟨rfl, hb9⟩
            go_wp2_with fail
            all_goals go_ret
            all_goals exact ⟨rfl, HBL4.out.trans (hb9.mono HBL4.out.size)⟩
end Go.Proofs.Ytenaokijjancgaa.Fx
