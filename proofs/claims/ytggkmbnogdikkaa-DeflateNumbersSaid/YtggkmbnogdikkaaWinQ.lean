/-
  slices.Grow of nothing, slices.Concat of two lists of bytes, Whole, as landed. The conditions stand in each.
-/
import Derived.Lib.AppendZerosOnto
import Derived.Test.YtggkmbnogdikkaaWinP
namespace Go.Proofs.Ytggkmbnogdikkaa.Fx
open Go Go.RowKit Go.Joins
set_option linter.unusedVariables false
/-- 'append', at the operation, where its run is known. -/
theorem wpList_append_eq {P : Program} {w : World} {ops : Array Oper} {rest : List Oper} {o : Oper} {a : Act} {Q : Exit → Act → World → Prop} (hgd : o.guard = none) (s x : Operand) (t t2 : TypeId)
    (ho : o.op = .call { callee := .builtin .append, args := #[s, x], argTypes := #[t, t2] }) (v u v' : Value) (w' : World) (hs : a.eval s = v) (hx : a.eval x = u) (hrun : (Builtin.append_ #[t, t2] o.type #[v, u]).run P w = .ok v' w')
    (h : wpList P ops Q rest (a.put o.dst v') w') : wpList P ops Q (o :: rest) a w := by
  refine wpList_plain hgd fun K' hK' => ?_
  unfold Oper.wp
  simp [execOp, ho, resolve, invoke, builtin, hs, hx, hrun, Result.andThen]
  exact hK' _ _ h
set_option maxHeartbeats 1000000 in
set_option maxRecDepth 100000 in
theorem grow_code (n : Nat) (W : World) (hn : n ≤ 4294967296) : Calls Try.prog 45 #[.slice none 0 0, .int .i64 (n : Int)] W fun e w' => ∃ u, e = .returned u ∧ w'.ownsRow W.heap.size 5 1 u 0 [] ∧ Below W.heap.size W w' := by
  by_cases h0 : n = 0
  · subst h0
    have d1 : decide (((0 : Nat) : Int) < 0) = false := rfl
    go_enter Try.func45, Try.ntmps45
    go_wp2_with fail
    go_ret
    exact ⟨_, rfl, World.ownsRow_nil _ _ _ _, Below.refl _ _⟩
  · obtain ⟨i0, hi, hz0, hz1, hz2⟩ := info_parts infoU8
    have d1 : decide ((n : Int) < 0) = false := decide_eq_false (by omega)
    have d2 : decide ((0 : Int) < (n : Int)) = true := decide_eq_true (by omega)
    have h := fun ty => Lib.run_append_grow_zeros W 25 3 ty 5 i0 (.int .u8 0) .i64 .i64 Try.underlying25 Try.underlying3 hi hz0 none 0 0 [] (run_firstCells_none W.drew i0.size 0 0 0) n (by omega) (by omega) (by omega) (by omega) (by rw [hz2]; omega) (growslice_fits (by omega) (by rw [hz2]; omega))
    have hge := grownCap_ge W (0 + n) 0 5
    have hle := grownCap_le_maxLen W (0 + n) 0 5 (by unfold maxLen; omega)
    rw [Nat.zero_add] at h hge hle
    obtain ⟨G, hG⟩ : ∃ G, grownCap W n 0 5 = G := ⟨_, rfl⟩
    rw [hG] at h hge hle
    obtain ⟨C, hC⟩ : ∃ C, (#[] ++ Builtin.zeroCells (Value.int IntKind.u8 0).cells n ++ Builtin.zeroCells (Value.int IntKind.u8 0).cells (G - n)) = C := ⟨_, rfl⟩
    have hCs : C.size = G := by
      rw [← hC]
      simp [Builtin.zeroCells, Value.cells]
      omega
    rw [show ([] : List Value).toArray = #[] from rfl, hC] at h
    have HCS := Lib.hid hCs
    have HH := Lib.hid h
    have HGE := Lib.hid (And.intro hge hle)
    unfold maxLen at hle
    have hgm : G ≤ 9223372036854775807 := by omega
    clear hC hCs hG hi hz0 hz1 hz2 hle h
    go_enter Try.func45, Try.ntmps45
    go_wp2_with (at_builtin; refine wpList_append_eq rfl _ _ 25 3 rfl (.slice none 0 0) (.int .i64 (n : Int)) _ _ rfl rfl (HH.out _) ?_)
    go_ret
    refine ⟨_, rfl, ⟨rfl, .inr ⟨W.heap.size, G, C, rfl, Nat.le_refl _, heap_alloc_new W.drew _, Nat.zero_le _, HGE.out.2, by rw [HCS.out, Nat.mul_one], by simp⟩⟩, (Below.refl _ _).drew.alloc (Nat.le_refl _) _⟩
set_option maxHeartbeats 2000000 in
set_option maxRecDepth 100000 in
theorem concat_code (q : Nat) (f l : Value) (xs ys : List Nat) (W : World) (h0 : W.cell? ⟨q, 0, none⟩ = some f) (h1 : W.cell? ⟨q, 1, none⟩ = some l) (hf : bytesIn W f xs) (hl : bytesIn W l ys) (hn : xs.length + ys.length ≤ 4294967296) :
    Calls Try.prog 27 #[.slice (some ⟨q, 0, none⟩) 2 2] W fun e w' => ∃ u, e = .returned u ∧ bytesIn w' u (xs ++ ys) ∧ (∀ b, inBlock u b → W.heap.size ≤ b) ∧ Below W.heap.size W w' := by
  have hql := World.block_lt_of_cell? W _ h0
  obtain ⟨fo, fc, rfl⟩ := listed_length hf
  obtain ⟨lo, lc, rfl⟩ := listed_length hl
  have HF := Lib.hid hf
  have HL := Lib.hid hl
  have H0 := Lib.hid h0
  have H1 := Lib.hid h1
  obtain ⟨n, en⟩ : ∃ n, xs.length = n := ⟨_, rfl⟩
  obtain ⟨m, em⟩ : ∃ n, ys.length = n := ⟨_, rfl⟩
  have EN := Lib.hid en
  have EM := Lib.hid em
  rw [en] at HF H0 hn h0
  rw [em] at HL H1 hn h1
  clear hf hl en em
  go_enter Try.func27, Try.ntmps27
  go_wp2_with fail
  go_loopw [3, 11] (fun s3 s11 wr => wr = W ∧ ((s3 = .int .i64 0 ∧ s11 = .int .i64 0) ∨ (s3 = .int .i64 (n : Int) ∧ s11 = .int .i64 1) ∨ (s3 = .int .i64 ((n + m : Nat) : Int) ∧ s11 = .int .i64 2))) (fun _ s11 _ => 2 - (intOf s11).toNat)
  case atStart => exact ⟨rfl, .inl ⟨rfl, rfl⟩⟩
  case round =>
    obtain ⟨hwr, hc⟩ := hrel
    obtain rfl : W = wr := hwr.symm
    rcases hc with ⟨rfl, rfl⟩ | ⟨rfl, rfl⟩ | ⟨rfl, rfl⟩
    · have d1 : decide ((n : Int) < 0) = false := decide_eq_false (by omega)
      go_wp2_with fail
      go_roundw
      case rel => exact ⟨by first | rfl | trivial, .inr (.inl ⟨by go_num, by go_num⟩)⟩
      case measure => simp [intOf]
    · have hsum : (n : Int) + (m : Int) = ((n + m : Nat) : Int) := by omega
      obtain ⟨N, eN⟩ : ∃ N, n + m = N := ⟨_, rfl⟩
      rw [eN] at hsum ⊢
      have d1 : decide ((N : Int) < 0) = false := decide_eq_false (by omega)
      go_wp2_with fail
      go_roundw
      case rel => exact ⟨by first | rfl | trivial, .inr (.inr ⟨by go_num, by go_num⟩)⟩
      case measure => simp [intOf]
    · have KG := grow_code (n + m) W hn
      obtain ⟨N, eN⟩ : ∃ N, n + m = N := ⟨_, rfl⟩
      rw [eN] at KG ⊢
      clear eN
      go_wp2_with fail
      go_at_call 45
      refine KG.mono ?_
      rintro e w1 ⟨u, rfl, k1, k2⟩
      have K1 := Lib.hid k1
      have K2 := Lib.hid k2
      obtain ⟨uo, uc, eu⟩ := row_shape k1
      subst eu
      clear k1 k2 h0 h1
      go_wp2_with fail
      have HLT := Lib.hid hql
      go_loopw [6, 27] (fun s6 s27 wx => ∃ (zs : List Nat) (c : Nat), s27 = .int .i64 (c : Int) ∧ c ≤ 2 ∧ Hid (wx.ownsRow W.heap.size 5 1 s6 zs.length (zs.map byteVal)) ∧ Hid (zs = if c = 0 then [] else if c = 1 then xs else xs ++ ys) ∧ Hid (Below W.heap.size W wx)) (fun _ s27 _ => 2 - (intOf s27).toNat)
      case atStart => exact ⟨[], 0, rfl, by omega, K1.out, rfl, K2.out⟩
      case round =>
        obtain ⟨zs, c, rfl, hc, hown, hzs, hbl⟩ := hrel
        have c0 := (hbl.out.cell (p := ⟨q, 0, none⟩) HLT.out).trans H0.out
        have c1 := (hbl.out.cell (p := ⟨q, 1, none⟩) HLT.out).trans H1.out
        obtain ⟨so, sc, es⟩ := row_shape hown.out
        obtain ⟨k, ek⟩ : ∃ k, zs.length = k := ⟨_, rfl⟩
        have EK := Lib.hid ek
        rw [ek] at es hown
        subst es
        clear ek
        obtain h | h | h : c = 0 ∨ c = 1 ∨ c = 2 := by omega
        · subst h
          have hz : zs = [] := hzs.out
          have HK0 : Hid (k = 0) := by have := EK.out; rw [hz] at this; exact this.symm
          have HZ := Lib.hid hz
          clear hz
          have hb2 := Lib.hid (listed_on HF.out hbl.out)
          have hs2 := hbl.out.size
          go_wp2_with (at_builtin; refine wpList_append_listed (c := byteVal) rfl _ _ 25 rfl W.heap.size 5 (.int .u8 0) Try.underlying25 infoU8 rfl (fun _ => rfl) (.slice so k sc) k zs rfl hown.out (.slice fo n fc) xs rfl hb2.out (by have := HK0.out; rw [EN.out]; omega) hs2 ?_)
          intro v' w5 hown5 hgrow5
          have hb5 : Below W.heap.size W w5 := hbl.out.grown hgrow5 hs2 (fun q hq => (hown.out.lt q hq).1)
          obtain ⟨v5o, v5c, ev5⟩ := row_shape hown5
          subst ev5
          have HO5 : Hid (w5.ownsRow W.heap.size 5 1 (.slice v5o (k + xs.length) v5c) (zs ++ xs).length ((zs ++ xs).map byteVal)) := by
            show World.ownsRow _ _ _ _ _ _ _
            rw [List.length_append, EK.out]
            simpa using hown5
          have HB5 := Lib.hid hb5
          have HZ5 : Hid (zs ++ xs = xs) := by
            show _ = _
            rw [HZ.out]
            exact List.nil_append _
          clear hown5 hgrow5 hb5
          go_wp2_with fail
          go_roundw
          case rel => exact ⟨zs ++ xs, 1, by go_num, by omega, HO5.out, HZ5.out, HB5.out⟩
          case measure => simp [intOf]
        · subst h
          have hz : zs = xs := hzs.out
          have HK0 : Hid (k = n) := by have := EK.out; rw [hz, EN.out] at this; exact this.symm
          have HZ := Lib.hid hz
          clear hz
          have hb2 := Lib.hid (listed_on HL.out hbl.out)
          have hs2 := hbl.out.size
          go_wp2_with (at_builtin; refine wpList_append_listed (c := byteVal) rfl _ _ 25 rfl W.heap.size 5 (.int .u8 0) Try.underlying25 infoU8 rfl (fun _ => rfl) (.slice so k sc) k zs rfl hown.out (.slice lo m lc) ys rfl hb2.out (by have := HK0.out; rw [EM.out]; omega) hs2 ?_)
          intro v' w5 hown5 hgrow5
          have hb5 : Below W.heap.size W w5 := hbl.out.grown hgrow5 hs2 (fun q hq => (hown.out.lt q hq).1)
          obtain ⟨v5o, v5c, ev5⟩ := row_shape hown5
          subst ev5
          have HO5 : Hid (w5.ownsRow W.heap.size 5 1 (.slice v5o (k + ys.length) v5c) (zs ++ ys).length ((zs ++ ys).map byteVal)) := by
            show World.ownsRow _ _ _ _ _ _ _
            rw [List.length_append, EK.out]
            simpa using hown5
          have HB5 := Lib.hid hb5
          have HZ5 : Hid (zs ++ ys = xs ++ ys) := by
            show _ = _
            rw [HZ.out]
          clear hown5 hgrow5 hb5
          go_wp2_with fail
          go_roundw
          case rel => exact ⟨zs ++ ys, 2, by go_num, by omega, HO5.out, HZ5.out, HB5.out⟩
          case measure => simp [intOf]
        · subst h
          have hz : zs = xs ++ ys := hzs.out
          go_wp2_with fail
          go_ret
          exact ⟨_, rfl, by rw [← hz]; have h1 := own_listed hown.out; exact h1, fun b hb => own_fresh hown.out b hb, hbl.out⟩
theorem past_below {O : Nat → Prop} {W w w' : World} (h : Below W.heap.size W w) (k : Past O w w') (hO : ∀ b, O b → W.heap.size ≤ b) : Below W.heap.size W w' := h.trans (k.below hO h.size)
set_option maxHeartbeats 2000000 in
set_option maxRecDepth 100000 in
theorem whole_code (W : World) (bv : Value) (zs : List Nat) (hb : bytesIn W bv zs) (h8 : ∀ x ∈ zs, x < 256) (hl : zs.length ≤ 100000000) :
    Calls Try.prog 10 #[bv] W fun e w' => ∃ u, e = .returned u ∧ bytesIn w' u (wholeOf zs) ∧ (∀ b, inBlock u b → W.heap.size ≤ b) ∧ Below W.heap.size W w' := by
  obtain ⟨bo, bc, ebv⟩ := listed_length hb
  have HB := Lib.hid hb
  have H8 := Lib.hid h8
  have HL := Lib.hid hl
  subst ebv
  obtain ⟨n, en⟩ : ∃ n, zs.length = n := ⟨_, rfl⟩
  rw [en] at HB ⊢
  clear hb h8 hl en
  go_enter Try.func10, Try.ntmps10
  go_wp2_with fail
  go_at_call 14
  refine (new_code W).mono ?_
  rintro e w1 ⟨v, O1, rfl, k1, k2, k3⟩
  have KW := write_code w1 v (.slice bo n bc) [] zs O1 k1 (listed_on HB.out k3) H8.out (fun b hb h => by have := inBlock_lt HB.out hb; have := k2 b h; omega) HL.out
  obtain ⟨h1, hv⟩ : ∃ a, v = .pointer a := by
    obtain ⟨h, g, ov, OP, rfl, _⟩ := k1
    exact ⟨_, rfl⟩
  subst hv
  have K1 := Lib.hid (And.intro k2 k3)
  clear k1 k2 k3
  go_wp2_with fail
  go_at_call 16
  refine KW.mono ?_
  rintro e w2 ⟨u, O2, rfl, j1, j2, j3, j4, j5⟩
  rw [List.nil_append] at j1 j3
  obtain ⟨uo, ul, uc, eu⟩ : ∃ o n c, u = .slice o n c := by
    obtain ⟨o, c, h⟩ := listed_length j1
    exact ⟨o, _, c, h⟩
  subst eu
  have KE := end_code w2 _ zs O2 j3 H8.out HL.out
  have hO2 : ∀ b, O2 b → W.heap.size ≤ b := fun b hb => (j4 b hb).elim (fun h => K1.out.1 b h) (fun h => Nat.le_trans K1.out.2.size h)
  have hb2 : Below W.heap.size W w2 := past_below K1.out.2 j5 K1.out.1
  have K2 := Lib.hid (And.intro j1 (And.intro j2 (And.intro hO2 hb2)))
  clear KW j1 j2 j3 j4 j5 hO2 hb2
  go_wp2_with fail
  go_at_call 18
  refine KE.mono ?_
  rintro e w3 ⟨u2, O3, rfl, j1, j2, j3, j4, j5⟩
  obtain ⟨vo, vl, vc, ev⟩ : ∃ o n c, u2 = .slice o n c := by
    obtain ⟨o, c, h⟩ := listed_length j1
    exact ⟨o, _, c, h⟩
  subst ev
  obtain ⟨i1, i2, i3, i4⟩ := K2.out
  have hb3 : Below W.heap.size W w3 := past_below i4 j5 i3
  have hu3 : bytesIn w3 (.slice uo ul uc) _ := listed_past i1 j5 (fun b hb => (i2 b hb).2)
  have hle := end_len zs
  have hC := fun (wx : World) h0 h1 hbx => concat_code w3.heap.size (.slice uo ul uc) (.slice vo vl vc) _ _ wx h0 h1 (listed_on hu3 hbx) (listed_on j1 hbx) (by rw [bytesAt_length, bytesAt_length]; have := HL.out; have := outOf_len zs; omega)
  have hin : Hid (bytesAt (outOf zs) ((outOf []).length / 8) ((outOf zs).length / 8 - (outOf []).length / 8) ++ bytesAt (endOf zs) ((outOf zs).length / 8) ((endOf zs).length / 8 - (outOf zs).length / 8) = wholeOf zs) := by
    show _ = _
    rw [outOf_nil, ← told_end zs]
    rfl
  rw [hin.out] at hC
  have HC := Lib.hid hC
  have HB3 := Lib.hid hb3
  clear hC KE i1 i2 i3 i4 hu3 hle j1 j2 j3 j4 j5 hb3
  go_wp2_with fail
  have hnew := heap_alloc_new w3 (.cells #[.slice uo ul uc, .slice vo vl vc] 25)
  have hbn : Below w3.heap.size w3 (w3.alloc (.cells #[.slice uo ul uc, .slice vo vl vc] 25)) := (Below.refl _ _).alloc (Nat.le_refl _) _
  have hs3 := HB3.out.size
  refine (HC.out _ (cell_of_block hnew 0) (cell_of_block hnew 1) hbn).mono ?_
  rintro e w5 ⟨u5, rfl, m1, m2, m3⟩
  have HFIN := Lib.hid (And.intro m1 (And.intro (fun b hb => Nat.le_trans (Nat.le_trans hs3 hbn.size) (m2 b hb)) ((HB3.out.trans (hbn.mono hs3)).trans (m3.mono (Nat.le_trans hs3 hbn.size)))))
  obtain ⟨xo, xl, xc, ex⟩ : ∃ o n c, u5 = .slice o n c := by
    obtain ⟨o, c, h⟩ := listed_length m1
    exact ⟨o, _, c, h⟩
  subst ex
  clear m1 m2 m3 hnew hbn
  go_wp2_with fail
  go_ret
  exact ⟨_, rfl, HFIN.out⟩
end Go.Proofs.Ytggkmbnogdikkaa.Fx
