/-
  The document's own answers of layer 6: a block by the fixed codes. The conditions stand in each.
-/
import Derived.Test.YtefdlidjdmlnaaaDeflT
import Derived.Test.YtefdlidjdmlnaaaDeflQ
namespace Go.Proofs.Ytefdlidjdmlnaaa.Fx
open Go Go.RowKit Go.Joins
set_option linter.unusedVariables false
theorem Boxed.form {W w : World} {u : Value} {X : List Bool} {t : Int} (h : Boxed W w u X t) : ∃ o c, u = .slice o X.length c := listed_length h.val
theorem bits_boxed {W w : World} {u : Value} {X : List Bool} {t : Int} {l : Nat} (n k : Nat) (b : Bool) (h : Boxed W w u X t) (hl : X.length = l) (hl2 : l ≤ 1099511627000) (hk : k ≤ 32) (hn : n ≤ 4294967295) :
    Calls Try.prog 92 #[.agg #[u, .int .i64 t], .int .i64 (n : Int), .int .i64 (k : Int), .bool b] w fun e w' => ∃ o c, e = .returned (.agg #[.slice o (l + k) c, .int .i64 t]) ∧ bools w' (.slice o (l + k) c) (X ++ someBits n k b) ∧ (∀ q, inBlock (.slice o (l + k) c) q → W.heap.size + 2 ≤ q) ∧ Below w.heap.size w w' := by
  refine (rbits_any u X t n k b w h.val (by omega) hk hn).mono ?_
  rintro e w' ⟨v, rfl, v1, v2, hb⟩
  obtain ⟨o, c, rfl⟩ := listed_length v1
  have e : (X ++ someBits n k b).length = l + k := by rw [List.length_append, someBits_length, hl]
  rw [e] at v1 v2 ⊢
  refine ⟨o, c, rfl, v1, fun q hq => ?_, hb⟩
  rcases v2 q hq with h1 | h1
  · exact h.new q (h1 ▸ hq)
  · exact Nat.le_trans h.sz h1
theorem fixed_boxed {W w : World} {u : Value} {X : List Bool} {t : Int} {l : Nat} (n : Nat) (h : Boxed W w u X t) (hl : X.length = l) (hl2 : l ≤ 1099511620000) (hn : n ≤ 287) :
    Calls Try.prog 93 #[.agg #[u, .int .i64 t], .int .i64 (n : Int)] w fun e w' => ∃ o c m, m ≤ l + 9 ∧ (X ++ fixedSym n).length = m ∧ e = .returned (.agg #[.slice o m c, .int .i64 t]) ∧ bools w' (.slice o m c) (X ++ fixedSym n) ∧ (∀ q, inBlock (.slice o m c) q → W.heap.size + 2 ≤ q) ∧ Below w.heap.size w w' := by
  refine (rfixed_any u X t n w h.val (by omega) hn).mono ?_
  rintro e w' ⟨v, rfl, v1, v2, hb⟩
  obtain ⟨o, c, rfl⟩ := listed_length v1
  refine ⟨o, c, _, ?_, rfl, rfl, v1, fun q hq => Nat.le_trans h.sz (v2 q hq), hb⟩
  rw [List.length_append, hl]
  have : (fixedSym n).length ≤ 9 := by
    unfold fixedSym
    split
    · rw [turned_length]; omega
    · split
      · rw [turned_length]; omega
      · split
        · rw [turned_length]; omega
        · rw [turned_length]; omega
  omega
/-- Another block behind a call and its store. -/
theorem Boxed.keep {W w0 w : World} {u : Value} {t : Int} (h2 : Below w0.heap.size w0 w) (q : Nat) (hq : q < w0.heap.size) (hn : q ≠ W.heap.size) : ((w.setCell ⟨W.heap.size, 0, none⟩ u).setCell ⟨W.heap.size, 1, none⟩ (.int .i64 t)).heap[q]? = w0.heap[q]? := by
  rw [Below.heap_setCell _ _ _ q hn, Below.heap_setCell _ _ _ q hn]
  exact h2.block q hq
theorem Boxed.below {W w w' : World} {u : Value} {X : List Bool} {t : Int} (h : Boxed W w u X t) (hb : Below w.heap.size w w') : Boxed W w' u X t :=
  ⟨(hb.block _ (by have := h.sz; omega)).trans h.box, (hb.block _ (by have := h.sz; omega)).trans h.res, listed_on h.val hb, h.new, h.bl.trans (hb.mono (by have := h.sz; omega)), Nat.le_trans h.sz hb.size⟩
/-- A token that may be. -/
def Tok.ok (t : Tok) : Prop := (t.back = 0 ∧ t.b < 256) ∨ (3 ≤ t.n ∧ t.n ≤ 258 ∧ 1 ≤ t.back ∧ t.back ≤ 32768)
theorem ints_cell {w : World} {g n c : Nat} {l : List Nat} (h : intsIn w (.slice (some ⟨g, 0, none⟩) n c) l) (j z : Nat) (hj : l[j]? = some z) : w.cell? ⟨g, j, none⟩ = some (.int .i64 (z : Int)) := by
  rcases h with ⟨⟨o, c', h, _⟩, rfl⟩ | ⟨b, off, cap, h, _, _, hc⟩
  · simp at hj
  · simp only [Value.slice.injEq, Option.some.injEq, Addr.mk.injEq] at h
    obtain ⟨⟨rfl, rfl, _⟩, _⟩ := h
    have := hc j z hj
    rwa [Nat.zero_add] at this
theorem ints_lt {w : World} {v : Value} {l : List Nat} (h : intsIn w v l) {b : Nat} (hb : inBlock v b) : b < w.heap.size := by
  obtain ⟨off, n, cap, rfl, hn⟩ := hb
  rcases h with ⟨⟨o, c', h, _⟩, _⟩ | ⟨b', off', cap', h, hlt, _⟩
  · simp only [Value.slice.injEq] at h
    omega
  · simp only [Value.slice.injEq, Option.some.injEq, Addr.mk.injEq] at h
    obtain ⟨⟨rfl, _⟩, _⟩ := h
    exact hlt
theorem ints_new {w : World} {g n c B : Nat} {l : List Nat} (h : intsIn w (.slice (some ⟨g, 0, none⟩) n c) l) (hg : g ≠ B) {b : Nat} (hb : inBlock (.slice (some ⟨g, 0, none⟩) n c) b) : b ≠ B := by
  obtain ⟨off, m, cap, hv, hn⟩ := hb
  simp only [Value.slice.injEq, Option.some.injEq, Addr.mk.injEq] at hv
  obtain ⟨⟨rfl, _⟩, _⟩ := hv
  exact hg
theorem table_get (l : List Nat) (k : Nat) (h : k < l.length) : l[k]? = some (l.getD k 0) := by
  rw [List.getD_eq_getElem?_getD, List.getElem?_eq_getElem h]
  rfl
theorem lext_small (k : Nat) : lext.getD k 0 ≤ 13 := by
  rcases Nat.lt_or_ge k 29 with h | h
  · have : ∀ k, k < 29 → lext.getD k 0 ≤ 13 := by decide +kernel
    exact this k h
  · rw [List.getD_eq_getElem?_getD, List.getElem?_eq_none (by exact h)]
    simp
theorem dext_small (k : Nat) : dext.getD k 0 ≤ 13 := by
  rcases Nat.lt_or_ge k 30 with h | h
  · have : ∀ k, k < 30 → dext.getD k 0 ≤ 13 := by decide +kernel
    exact this k h
  · rw [List.getD_eq_getElem?_getD, List.getElem?_eq_none (by exact h)]
    simp
set_option maxHeartbeats 4000000 in
set_option maxRecDepth 100000 in
theorem rblock_any (vL : Value) (L : List Bool) (t : Int) (lv : Value) (ts : List Tok) (last : Nat) (W : World) (hr : bools W vL L) (hts : toksIn W lv ts) (hok : ∀ x ∈ ts, x.ok) (hl : L.length ≤ 549755813888) (htl : ts.length ≤ 1000000) (hlast : last ≤ 1) :
    Calls Try.prog 78 #[.agg #[vL, .int .i64 t], lv, .int .i64 (last : Int)] W fun e w' =>
      ∃ u, e = .returned (.agg #[u, .int .i64 t]) ∧ bools w' u (fixedBlock L ts last) ∧ (∀ q, inBlock u q → W.heap.size ≤ q) ∧ Below W.heap.size W w' := by
  obtain ⟨w1, e1, hs1, hB0, hB1, hbl⟩ := two_blocks W 63 vL (.int .i64 t) (.slice none 0 0) (.int .i64 0)
  have HR := Lib.hid (listed_on hr hbl)
  obtain ⟨vo, vc, rfl⟩ := listed_length hr
  have HTS := Lib.hid hts
  have HOK := Lib.hid hok
  obtain ⟨n, en⟩ : ∃ n, ts.length = n := ⟨_, rfl⟩
  have EN := Lib.hid en
  obtain ⟨go, gc, rfl⟩ : ∃ go gc, lv = .slice go n gc := by
    rcases hts with ⟨rfl, rfl⟩ | ⟨g, cap, rfl, _⟩
    · exact ⟨none, 0, by rw [← en]; rfl⟩
    · exact ⟨_, cap, by rw [en]⟩
  obtain ⟨l, el⟩ : ∃ l, L.length = l := ⟨_, rfl⟩
  have EL := Lib.hid el
  rw [el] at HR hB0 e1 ⊢
  rw [en] at htl
  clear hr el hts hok en
  have q0 := cell_of_block hB0 0
  have q1 := cell_of_block hB0 1
  have f0 := unfrozen_of_block hB0 0
  have f1 := unfrozen_of_block hB0 1
  have HB0 := Lib.hid hB0
  have HB1 := Lib.hid hB1
  have HBL := Lib.hid hbl
  have hne : ¬ W.heap.size = W.heap.size + 1 := by omega
  clear hB0 hB1 hbl
  have hl2 : l ≤ 549755813888 := by have := EL.out; omega
  go_enter Try.func78, Try.ntmps78
  go_wp2_with fail
  rw [← e1]
  clear e1
  go_at_call 92
  refine (rbits_some (.slice vo l vc) L t last 1 false w1 HR.out (by omega) (by decide) (by decide) (by omega)).mono ?_
  rintro e w2 ⟨o2, c2, rfl, v1, v2, hb2⟩
  rw [someBits_false] at v1
  rw [EL.out] at v1 v2 ⊢
  have HX := Lib.hid (Boxed.store HB0.out HB1.out HBL.out (by omega) v1 (fun q hq => by have := v2 q hq; omega) hb2)
  have hb0 := (hb2.block W.heap.size (by omega)).trans HB0.out
  clear q0 q1 f0 f1
  have q0 := cell_of_block hb0 0
  have q1 := cell_of_block hb0 1
  have f0 := unfrozen_of_block hb0 0
  have f1 := unfrozen_of_block hb0 1
  clear hb0 v1 v2 hb2
  go_upto_region 2 with fail
  obtain ⟨x2, ex2⟩ : ∃ x, x = (w2.setCell ⟨W.heap.size, 0, none⟩ (.slice o2 (l + 1) c2)).setCell ⟨W.heap.size, 1, none⟩ (.int .i64 t) := ⟨_, rfl⟩
  rw [← ex2] at HX ⊢
  clear ex2 q0 q1 f0 f1
  have q0 := cell_of_block HX.out.box 0
  have q1 := cell_of_block HX.out.box 1
  go_wp2_with fail
  go_at_call 92
  refine (bits_boxed 1 2 false HX.out (by rw [List.length_append, bitsOf_length, EL.out]) (by omega) (by decide) (by decide)).mono ?_
  rintro e w3 ⟨o3, c3, rfl, v1, v2, hb3⟩
  rw [someBits_false] at v1
  have hb0 := (hb3.block W.heap.size (by have := HX.out.sz; omega)).trans HX.out.box
  have HX := Lib.hid (Boxed.store HX.out.box HX.out.res HX.out.bl HX.out.sz v1 v2 hb3)
  clear q0 q1
  have q0 := cell_of_block hb0 0
  have q1 := cell_of_block hb0 1
  have f0 := unfrozen_of_block hb0 0
  have f1 := unfrozen_of_block hb0 1
  clear hb0 v1 v2 hb3
  go_upto_region 3 with fail
  obtain ⟨x3, ex3⟩ : ∃ x, x = (w3.setCell ⟨W.heap.size, 0, none⟩ (.slice o3 (l + 1 + 2) c3)).setCell ⟨W.heap.size, 1, none⟩ (.int .i64 t) := ⟨_, rfl⟩
  rw [← ex3] at HX ⊢
  clear ex3 q0 q1 f0 f1
  obtain ⟨Y, eY⟩ : ∃ Y, L ++ bitsOf last 1 ++ bitsOf 1 2 = Y := ⟨_, rfl⟩
  have EY := Lib.hid eY
  have hYl : Y.length = l + 3 := by rw [← eY, List.length_append, List.length_append, bitsOf_length, bitsOf_length, EL.out]
  have EYL := Lib.hid hYl
  rw [eY] at HX
  clear eY hYl
  go_wp2_with fail
  go_loopw [7] (fun i wr => ∃ (j : Nat) (u : Value), j ≤ n ∧ i = .int .i64 j ∧ Hid ((Y ++ (ts.take j).flatMap tokBits).length ≤ l + 3 + 40 * j) ∧ Boxed W wr u (Y ++ (ts.take j).flatMap tokBits) t) (fun i _ => n - (intOf i).toNat)
  case atStart => exact ⟨0, _, Nat.zero_le _, rfl, by show _ ≤ _; rw [List.take_zero, List.flatMap_nil, List.append_nil, EYL.out]; omega, by rw [List.take_zero, List.flatMap_nil, List.append_nil]; exact HX.out⟩
  case round =>
    clear HX HB0 HB1 HR HBL hs1
    obtain ⟨j, u, hj, rfl, hlen, hx⟩ := hrel
    obtain ⟨uo, uc, rfl⟩ := hx.form
    obtain ⟨m, em⟩ : ∃ m, (Y ++ (ts.take j).flatMap tokBits).length = m := ⟨_, rfl⟩
    have hm40 : m ≤ l + 3 + 40 * j := by have := hlen.out; omega
    rw [em] at hx
    have HLX := Lib.hid em
    have HXL := Lib.hid hx
    have q0 := cell_of_block hx.box 0
    have q1 := cell_of_block hx.box 1
    clear hx em hlen
    by_cases hjn : j < n
    · have hd : decide ((j : Int) < (n : Int)) = true := decide_eq_true (by omega)
      obtain ⟨tk, ez⟩ : ∃ z, ts[j]? = some z := ⟨ts[j]'(by rw [EN.out]; exact hjn), List.getElem?_eq_getElem _⟩
      have hokt := HOK.out tk (List.mem_of_getElem? ez)
      have HT : Hid (Y ++ (ts.take (j + 1)).flatMap tokBits = Y ++ (ts.take j).flatMap tokBits ++ tokBits tk) := by
        show _ = _
        rw [List.take_add_one, ez, Option.toList_some, List.flatMap_append, List.append_assoc]
        simp
      obtain ⟨g, rfl, hglt, hc⟩ : ∃ g, go = some ⟨g, 0, none⟩ ∧ g < W.heap.size ∧ (W.cell? ⟨g, j * 3, none⟩ = some (.int .i64 (tk.n : Int)) ∧ W.cell? ⟨g, j * 3 + 1, none⟩ = some (.int .i64 (tk.back : Int)) ∧ W.cell? ⟨g, j * 3 + 2, none⟩ = some (.int .u8 (tk.b : Int))) := by
        rcases HTS.out with ⟨h1, rfl⟩ | ⟨g, cap, h1, h2, h3⟩
        · simp at ez
        · simp only [Value.slice.injEq] at h1
          exact ⟨g, h1.1, h2, h3 j tk ez⟩
      have HC := Lib.hid hc
      clear hc ez
      have CC : Hid (∀ w', Below W.heap.size W w' → (w'.cell? ⟨g, j * 3, none⟩ = some (.int .i64 (tk.n : Int)) ∧ w'.cell? ⟨g, j * 3 + 1, none⟩ = some (.int .i64 (tk.back : Int)) ∧ w'.cell? ⟨g, j * 3 + 2, none⟩ = some (.int .u8 (tk.b : Int)))) := fun w' hb => ⟨(hb.cell hglt).trans HC.out.1, (hb.cell hglt).trans HC.out.2.1, (hb.cell hglt).trans HC.out.2.2⟩
      obtain ⟨c0, c1, c2⟩ := CC.out wr HXL.out.bl
      have hj0 : (0 : Int) ≤ (j : Int) := by omega
      have hjn2 : (j : Int) < (n : Int) := by omega
      obtain ⟨tn, tb, tc⟩ := tk
      simp only at c0 c1 c2 CC
      by_cases hb0 : tb = 0
      · subst hb0
        have htc : tc < 256 := by
          rcases hokt with h | h
          · exact h.2
          · have := h.2.2.1
            simp at this
        have hwz : IntKind.i64.wrap (tc : Int) = (tc : Int) := by rw [IntKind.wrap_i64]; omega
        have HS : Hid (tokBits ⟨tn, 0, tc⟩ = fixedSym tc) := by
          show _ = _
          unfold tokBits
          rw [if_pos rfl]
        have KF := Lib.hid (fixed_boxed tc HXL.out.drew HLX.out (by omega) (by omega))
        go_wp2_with fail
        refine wp_region_still_tail 7 (by kernel_rfl) (by kernel_rfl) ?_
        simp only [List.take_succ_cons, List.take_zero, List.drop_succ_cons, List.drop_zero]
        repeat still_step
        refine wpStill_nil ?_
        change wpList _ _ _ _ _ wr.drew
        go_wp2_with (go_at_call 93; refine KF.out.mono ?_; rintro e w9 ⟨o9, c9, m9, hm9, hl9, rfl, v1, v2, hb9⟩; have hbx := (hb9.block W.heap.size (by have := HXL.out.drew.sz; omega)).trans HXL.out.drew.box; have HX9 := Lib.hid (Boxed.store HXL.out.drew.box HXL.out.drew.res HXL.out.drew.bl HXL.out.drew.sz v1 v2 hb9); have r0 := cell_of_block hbx 0; have r1 := cell_of_block hbx 1; have r2 := unfrozen_of_block hbx 0; have r3 := unfrozen_of_block hbx 1; have HL9 := Lib.hid hl9; clear hbx v1 v2 hb9 hl9)
        go_roundw
        case rel => exact ⟨j + 1, _, by omega, by go_num, by rw [HT.out, HS.out]; show _ ≤ _; rw [HL9.out]; omega, by rw [HT.out, HS.out]; exact HX9.out⟩
        case measure => simp [intOf]; omega
      · have htok : 3 ≤ tn ∧ tn ≤ 258 ∧ 1 ≤ tb ∧ tb ≤ 32768 := by
          rcases hokt with h | h
          · exact absurd h.1 hb0
          · exact h
        obtain ⟨t1, t2, t3, t4⟩ := htok
        have hbz : ((tb : Int) == 0) = false := by simp; omega
        have hbz2 : decide ((tb : Int) = 0) = false := decide_eq_false (by omega)
        obtain ⟨l1, l2, l3⟩ := lens_fit tn t1 t2
        obtain ⟨d1, d2, d3⟩ := dists_fit tb t3 t4
        have HS : Hid (tokBits ⟨tn, tb, tc⟩ = fixedSym (257 + find lens tn) ++ bitsOf (tn - lens.getD (find lens tn) 0) (lext.getD (find lens tn) 0) ++ turned (find dists tb) 5 ++ bitsOf (tb - dists.getD (find dists tb) 0) (dext.getD (find dists tb) 0)) := by
          show _ = _
          unfold tokBits
          rw [if_neg hb0]
        have KF1 : Hid (∀ v w', intsIn w' v lens → Calls Try.prog 95 #[v, .int .i64 (tn : Int)] w' fun e w'' => e = .returned (.int .i64 (find lens tn : Nat)) ∧ w' = w'') := fun v w' h => find_any v lens tn w' h (by decide) (by decide) (by omega)
        have KF2 : Hid (∀ v w', intsIn w' v dists → Calls Try.prog 95 #[v, .int .i64 (tb : Int)] w' fun e w'' => e = .returned (.int .i64 (find dists tb : Nat)) ∧ w' = w'') := fun v w' h => find_any v dists tb w' h (by decide) (by decide) (by omega)
        have G1 := Lib.hid (table_get lens (find lens tn) l1)
        have G2 := Lib.hid (table_get lext (find lens tn) l1)
        have G3 := Lib.hid (table_get dists (find dists tb) d1)
        have G4 := Lib.hid (table_get dext (find dists tb) d1)
        have s1 := lext_small (find lens tn)
        have s2 := dext_small (find dists tb)
        obtain ⟨k1, ek1⟩ : ∃ k, find lens tn = k := ⟨_, rfl⟩
        obtain ⟨k2, ek2⟩ : ∃ k, find dists tb = k := ⟨_, rfl⟩
        rw [ek1] at l1 l2 l3 HS KF1 G1 G2 s1
        rw [ek2] at d1 d2 d3 HS KF2 G3 G4 s2
        clear ek1 ek2
        obtain ⟨a1, ea1⟩ : ∃ a, lens.getD k1 0 = a := ⟨_, rfl⟩
        obtain ⟨e1, ee1⟩ : ∃ a, lext.getD k1 0 = a := ⟨_, rfl⟩
        obtain ⟨a2, ea2⟩ : ∃ a, dists.getD k2 0 = a := ⟨_, rfl⟩
        obtain ⟨e2, ee2⟩ : ∃ a, dext.getD k2 0 = a := ⟨_, rfl⟩
        rw [ea1] at l2 l3 HS G1
        rw [ee1] at l3 HS G2 s1
        rw [ea2] at d2 d3 HS G3
        rw [ee2] at d3 HS G4 s2
        clear ea1 ee1 ea2 ee2
        have hD1 : (tn : Int) - (a1 : Int) = ((tn - a1 : Nat) : Int) := by omega
        have hD2 : (tb : Int) - (a2 : Int) = ((tb - a2 : Nat) : Int) := by omega
        have hD1b : tn - a1 ≤ 258 := by omega
        have hD2b : tb - a2 ≤ 32768 := by omega
        obtain ⟨D1, eD1⟩ : ∃ D, tn - a1 = D := ⟨_, rfl⟩
        obtain ⟨D2, eD2⟩ : ∃ D, tb - a2 = D := ⟨_, rfl⟩
        rw [eD1] at hD1 hD1b HS l3
        rw [eD2] at hD2 hD2b HS d3
        clear eD1 eD2 l3 d3
        have hw1 : IntKind.i64.wrap (D1 : Int) = (D1 : Int) := by rw [IntKind.wrap_i64]; omega
        have hw2 : IntKind.i64.wrap (D2 : Int) = (D2 : Int) := by rw [IntKind.wrap_i64]; omega
        have i1 : (0 : Int) ≤ (k1 : Int) := by omega
        have i2 : (k1 : Int) < 29 := by omega
        have i3 : (0 : Int) ≤ (k2 : Int) := by omega
        have i4 : (k2 : Int) < 30 := by omega
        have hs257 : (257 : Int) + (k1 : Int) = ((257 + k1 : Nat) : Int) := by omega
        have hk1b : 257 + k1 ≤ 287 := by omega
        obtain ⟨S1, eS1⟩ : ∃ S, 257 + k1 = S := ⟨_, rfl⟩
        rw [eS1] at hs257 hk1b HS
        clear eS1
        go_wp2_with fail
        go_at_call 94
        refine (lengths_any wr).mono ?_
        rintro e w5 ⟨g5, h5, rfl, v1, v2, hg5, hh5, hb5⟩
        have HX5 := Lib.hid (HXL.out.below hb5)
        have T1 := Lib.hid v1
        have T2 := Lib.hid v2
        have hz5 := HXL.out.sz
        have hg5n : g5 ≠ W.heap.size := by omega
        have hh5n : h5 ≠ W.heap.size := by omega
        clear q0 q1 c0 c1 c2 v1 v2 hb5
        obtain ⟨c0, c1, c2⟩ := CC.out w5 HX5.out.bl
        have q0 := cell_of_block HX5.out.box 0
        have q1 := cell_of_block HX5.out.box 1
        go_wp2_with fail
        go_at_call 95
        refine (KF1.out _ w5 T1.out).mono ?_
        rintro e w' ⟨rfl, rfl⟩
        go_wp2_with fail
        go_at_call 93
        refine (fixed_boxed S1 HX5.out HLX.out (by omega) hk1b).mono ?_
        rintro e w6 ⟨o6, c6, m6, hm6, hl6, rfl, v1, v2, hb6⟩
        have hbx := (hb6.block W.heap.size (by have := HX5.out.sz; omega)).trans HX5.out.box
        have HX6 := Lib.hid (Boxed.store HX5.out.box HX5.out.res HX5.out.bl HX5.out.sz v1 v2 hb6)
        have HL6 := Lib.hid hl6
        have HK6 := Lib.hid (fun q hq hn => Boxed.keep (W := W) (u := .slice o6 m6 c6) (t := t) hb6 q hq hn)
        have hz6 := hb6.size
        clear q0 q1 c0 c1 c2
        have q0 := cell_of_block hbx 0
        have q1 := cell_of_block hbx 1
        have f0 := unfrozen_of_block hbx 0
        have f1 := unfrozen_of_block hbx 1
        clear hbx v1 v2 hb6 hl6
        go_upto_region 11 with fail
        obtain ⟨x6, ex6⟩ : ∃ x, x = (w6.setCell ⟨W.heap.size, 0, none⟩ (.slice o6 m6 c6)).setCell ⟨W.heap.size, 1, none⟩ (.int .i64 t) := ⟨_, rfl⟩
        have hx6s : x6.heap.size = w6.heap.size := by rw [ex6]; simp
        rw [← ex6] at HX6 HK6 ⊢
        clear ex6 q0 q1 f0 f1
        have T1 := Lib.hid (listed_kept T1.out (w' := x6) (by omega) (fun q hq => HK6.out q (ints_lt T1.out hq) (ints_new T1.out hg5n hq)))
        have T2 := Lib.hid (listed_kept T2.out (w' := x6) (by omega) (fun q hq => HK6.out q (ints_lt T2.out hq) (ints_new T2.out hh5n hq)))
        obtain ⟨c0, c1, c2⟩ := CC.out x6 HX6.out.bl
        have q0 := cell_of_block HX6.out.box 0
        have q1 := cell_of_block HX6.out.box 1
        have p1 := ints_cell T1.out k1 a1 G1.out
        have p2 := ints_cell T2.out k1 e1 G2.out
        have KB := Lib.hid (bits_boxed D1 e1 false HX6.out.drew HL6.out (by omega) (by omega) (by omega))
        refine wp_region_still_tail 15 (by kernel_rfl) (by kernel_rfl) ?_
        simp only [List.take_succ_cons, List.take_zero, List.drop_succ_cons, List.drop_zero]
        repeat still_step
        refine wpStill_nil ?_
        change wpList _ _ _ _ _ x6.drew
        go_wp2_with fail
        go_at_call 92
        refine KB.out.mono ?_
        rintro e w7 ⟨o7, c7, rfl, v1, v2, hb7⟩
        rw [someBits_false] at v1
        have hbx := (hb7.block W.heap.size (by have := HX6.out.drew.sz; omega)).trans HX6.out.drew.box
        have HX7 := Lib.hid (Boxed.store HX6.out.drew.box HX6.out.drew.res HX6.out.drew.bl HX6.out.drew.sz v1 v2 hb7)
        have HL7 : Hid ((Y ++ (ts.take j).flatMap tokBits ++ fixedSym S1 ++ bitsOf D1 e1).length = m6 + e1) := by
          show _ = _
          rw [List.length_append, bitsOf_length, HL6.out]
        clear q0 q1 c0 c1 c2 p1 p2
        have q0 := cell_of_block hbx 0
        have q1 := cell_of_block hbx 1
        have f0 := unfrozen_of_block hbx 0
        have f1 := unfrozen_of_block hbx 1
        clear hbx v1 v2 hb7 KB T1 T2 HK6 hx6s hz6
        go_upto_region 12 with fail
        obtain ⟨x7, ex7⟩ : ∃ x, x = (w7.setCell ⟨W.heap.size, 0, none⟩ (.slice o7 (m6 + e1) c7)).setCell ⟨W.heap.size, 1, none⟩ (.int .i64 t) := ⟨_, rfl⟩
        obtain ⟨m7, em7⟩ : ∃ m, m6 + e1 = m := ⟨_, rfl⟩
        rw [← ex7, em7] at HX7
        rw [em7] at HL7
        rw [← ex7]
        clear q0 q1 f0 f1 ex7
        have q0 := cell_of_block HX7.out.box 0
        have q1 := cell_of_block HX7.out.box 1
        go_wp2_with fail
        go_at_call 96
        refine (distances_any x7).mono ?_
        rintro e w8 ⟨g8, h8, rfl, v1, v2, hg8, hh8, hb8⟩
        have HX8 := Lib.hid (HX7.out.below hb8)
        have T1 := Lib.hid v1
        have T2 := Lib.hid v2
        have hz8 := HX7.out.sz
        have hg8n : g8 ≠ W.heap.size := by omega
        have hh8n : h8 ≠ W.heap.size := by omega
        clear q0 q1 v1 v2 hb8
        obtain ⟨c0, c1, c2⟩ := CC.out w8 HX8.out.bl
        have q0 := cell_of_block HX8.out.box 0
        have q1 := cell_of_block HX8.out.box 1
        go_wp2_with fail
        go_at_call 95
        refine (KF2.out _ w8 T1.out).mono ?_
        rintro e w' ⟨rfl, rfl⟩
        go_wp2_with fail
        go_at_call 92
        refine (bits_boxed k2 5 true HX8.out HL7.out (by omega) (by decide) (by omega)).mono ?_
        rintro e w9 ⟨o9, c9, rfl, v1, v2, hb9⟩
        rw [someBits_true] at v1
        have hbx := (hb9.block W.heap.size (by have := HX8.out.sz; omega)).trans HX8.out.box
        have HX9 := Lib.hid (Boxed.store HX8.out.box HX8.out.res HX8.out.bl HX8.out.sz v1 v2 hb9)
        have HK9 := Lib.hid (fun q hq hn => Boxed.keep (W := W) (u := .slice o9 (m7 + 5) c9) (t := t) hb9 q hq hn)
        have HL9 : Hid ((Y ++ (ts.take j).flatMap tokBits ++ fixedSym S1 ++ bitsOf D1 e1 ++ turned k2 5).length = m7 + 5) := by
          show _ = _
          rw [List.length_append, turned_length, HL7.out]
        have hz9 := hb9.size
        clear q0 q1 c0 c1 c2
        have q0 := cell_of_block hbx 0
        have q1 := cell_of_block hbx 1
        have f0 := unfrozen_of_block hbx 0
        have f1 := unfrozen_of_block hbx 1
        clear hbx v1 v2 hb9
        go_upto_region 15 with fail
        obtain ⟨x9, ex9⟩ : ∃ x, x = (w9.setCell ⟨W.heap.size, 0, none⟩ (.slice o9 (m7 + 5) c9)).setCell ⟨W.heap.size, 1, none⟩ (.int .i64 t) := ⟨_, rfl⟩
        have hx9s : x9.heap.size = w9.heap.size := by rw [ex9]; simp
        rw [← ex9] at HX9 HK9 ⊢
        clear ex9 q0 q1 f0 f1
        have T1 := Lib.hid (listed_kept T1.out (w' := x9) (by omega) (fun q hq => HK9.out q (ints_lt T1.out hq) (ints_new T1.out hg8n hq)))
        have T2 := Lib.hid (listed_kept T2.out (w' := x9) (by omega) (fun q hq => HK9.out q (ints_lt T2.out hq) (ints_new T2.out hh8n hq)))
        obtain ⟨c0, c1, c2⟩ := CC.out x9 HX9.out.bl
        have q0 := cell_of_block HX9.out.box 0
        have q1 := cell_of_block HX9.out.box 1
        have p1 := ints_cell T1.out k2 a2 G3.out
        have p2 := ints_cell T2.out k2 e2 G4.out
        have KB := Lib.hid (bits_boxed D2 e2 false HX9.out.drew HL9.out (by omega) (by omega) (by omega))
        refine wp_region_still_tail 15 (by kernel_rfl) (by kernel_rfl) ?_
        simp only [List.take_succ_cons, List.take_zero, List.drop_succ_cons, List.drop_zero]
        repeat still_step
        refine wpStill_nil ?_
        change wpList _ _ _ _ _ x9.drew
        go_wp2_with (go_at_call 92; refine KB.out.mono ?_; rintro e w10 ⟨o10, c10, rfl, v1, v2, hb10⟩; have hbx := (hb10.block W.heap.size (by have := HX9.out.drew.sz; omega)).trans HX9.out.drew.box; have HX10 := Lib.hid (Boxed.store HX9.out.drew.box HX9.out.drew.res HX9.out.drew.bl HX9.out.drew.sz v1 v2 hb10); have r0 := cell_of_block hbx 0; have r1 := cell_of_block hbx 1; have r2 := unfrozen_of_block hbx 0; have r3 := unfrozen_of_block hbx 1; clear hbx v1 v2 hb10)
        go_roundw
        case rel =>
          have hall : Y ++ (ts.take (j + 1)).flatMap tokBits = Y ++ (ts.take j).flatMap tokBits ++ fixedSym S1 ++ bitsOf D1 e1 ++ turned k2 5 ++ someBits D2 e2 false := by
            rw [HT.out, HS.out, someBits_false]
            simp only [List.append_assoc]
          refine ⟨j + 1, _, by omega, by go_num, ?_, by rw [hall]; exact HX10.out⟩
          show _ ≤ _
          rw [hall, List.length_append, HL9.out, someBits_length]
          omega
        case measure => simp [intOf]; omega
    · have hd : decide ((j : Int) < (n : Int)) = false := decide_eq_false (by omega)
      obtain rfl : j = n := by omega
      have hall : ts.take j = ts := by rw [← EN.out, List.take_length]
      rw [hall] at HXL HLX
      have KF := fixed_boxed 256 HXL.out HLX.out (by omega) (by decide)
      go_wp2_with fail
      go_at_call 93
      refine KF.mono ?_
      rintro e w9 ⟨o9, c9, m9, hm9, hl9, rfl, v1, v2, hb9⟩
      have hbx := (hb9.block (W.heap.size + 1) (by have := HXL.out.sz; omega)).trans HXL.out.res
      have r0 := cell_of_block hbx 0
      have r1 := cell_of_block hbx 1
      have r2 := unfrozen_of_block hbx 0
      have r3 := unfrozen_of_block hbx 1
      have V1 := Lib.hid v1
      have V2 := Lib.hid v2
      have HB9 := Lib.hid (HXL.out.bl.trans (hb9.mono (by have := HXL.out.sz; omega)))
      clear hbx v1 v2 hb9 KF hl9
      go_wp2_with fail
      refine bodyPost_ret (v := .agg #[.slice o9 m9 c9, .int .i64 t]) ?_ rfl ⟨_, rfl, ?_, fun q hq => ?_, ?_⟩
      · simp [results, Try.results78, asAddr, Result.andThen, go_sem, r0, r1]
      · have hfin : fixedBlock L ts last = Y ++ ts.flatMap tokBits ++ fixedSym 256 := by
          unfold fixedBlock
          rw [← EY.out]
        rw [hfin]
        refine listed_kept V1.out (Nat.le_of_eq (by simp)) (fun q hq => ?_)
        have hge := V2.out q hq
        rw [Below.heap_setCell _ _ _ q (by show q ≠ W.heap.size + 1; omega), Below.heap_setCell _ _ _ q (by show q ≠ W.heap.size + 1; omega)]
      · have := V2.out q hq
        omega
      · exact (HB9.out.setCell (p := ⟨W.heap.size + 1, 0, none⟩) (Nat.le_succ _) _).setCell (p := ⟨W.heap.size + 1, 1, none⟩) (Nat.le_succ _) _
end Go.Proofs.Ytefdlidjdmlnaaa.Fx
