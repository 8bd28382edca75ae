/-
  The document's own answers of layer 6: a block. The conditions stand in it.
-/
import Derived.Deep.RegionHeld3
import Derived.Test.YtggkmbnogdikkaaDeflX
import Derived.Test.YtggkmbnogdikkaaDeflW
namespace Go.Proofs.Ytggkmbnogdikkaa.Fx
open Go Go.RowKit Go.Joins
set_option linter.unusedVariables false
theorem two_blocks5 (W : World) (ty : TypeId) (x0 x1 x2 x3 x4 y0 y1 y2 y3 y4 : Value) : ∃ w1, w1 = (W.alloc (.cells #[x0, x1, x2, x3, x4] ty)).alloc (.cells #[y0, y1, y2, y3, y4] ty) ∧ w1.heap.size = W.heap.size + 2 ∧ w1.heap[W.heap.size]? = some (.cells #[x0, x1, x2, x3, x4] ty (0, 0)) ∧ w1.heap[W.heap.size + 1]? = some (.cells #[y0, y1, y2, y3, y4] ty (0, 0)) ∧ Below W.heap.size W w1 := by
  have hs0 : (W.alloc (.cells #[x0, x1, x2, x3, x4] ty)).heap.size = W.heap.size + 1 := by
    show (W.heap.push _).size = _
    simp
  refine ⟨_, rfl, ?_, alloc_old (heap_alloc_new W _), ?_, ((Below.refl _ _).alloc (Nat.le_refl _) _).alloc (by rw [hs0]; omega) _⟩
  · show ((W.alloc _).heap.push _).size = _
    rw [Array.size_push, hs0]
  · rw [← hs0]
    exact heap_alloc_new _ _
theorem alloc_lt (w : World) (o : Obj) : w.heap.size < (w.alloc o).drew.heap.size := by
  show _ < (w.heap.push _).size
  simp
/-- What a call of a writer's loads, and what it may leave. -/
theorem five_keep {B : Nat} {x0 x1 x2 x3 : Value} {w1 w w' : World} (h : w.cell? ⟨B, 0, none⟩ = some x0 ∧ w.cell? ⟨B, 1, none⟩ = some x1 ∧ w.cell? ⟨B, 2, none⟩ = some x2 ∧ w.cell? ⟨B, 3, none⟩ = some x3 ∧ Below w1.heap.size w1 w) (hb : Below w.heap.size w w') : w'.cell? ⟨B, 0, none⟩ = some x0 ∧ w'.cell? ⟨B, 1, none⟩ = some x1 ∧ w'.cell? ⟨B, 2, none⟩ = some x2 ∧ w'.cell? ⟨B, 3, none⟩ = some x3 ∧ Below w1.heap.size w1 w' := by
  obtain ⟨c0, c1, c2, c3, hw⟩ := h
  have hlt : B < w.heap.size := World.block_lt_of_cell? w ⟨B, 0, none⟩ c0
  exact ⟨(hb.cell hlt).trans c0, (hb.cell hlt).trans c1, (hb.cell hlt).trans c2, (hb.cell hlt).trans c3, hw.trans (hb.mono hw.size)⟩
theorem five_store {B g i : Nat} {x0 x1 x2 x3 u : Value} {w1 w : World} (h : w.cell? ⟨B, 0, none⟩ = some x0 ∧ w.cell? ⟨B, 1, none⟩ = some x1 ∧ w.cell? ⟨B, 2, none⟩ = some x2 ∧ w.cell? ⟨B, 3, none⟩ = some x3 ∧ Below w1.heap.size w1 w) (hB : B < w1.heap.size) (hg : w1.heap.size ≤ g) : (w.setCell ⟨g, i, none⟩ u).cell? ⟨B, 0, none⟩ = some x0 ∧ (w.setCell ⟨g, i, none⟩ u).cell? ⟨B, 1, none⟩ = some x1 ∧ (w.setCell ⟨g, i, none⟩ u).cell? ⟨B, 2, none⟩ = some x2 ∧ (w.setCell ⟨g, i, none⟩ u).cell? ⟨B, 3, none⟩ = some x3 ∧ Below w1.heap.size w1 (w.setCell ⟨g, i, none⟩ u) := by
  obtain ⟨c0, c1, c2, c3, hw⟩ := h
  have hk : ∀ j, (w.setCell ⟨g, i, none⟩ u).cell? ⟨B, j, none⟩ = w.cell? ⟨B, j, none⟩ := fun j => World.cell?_of_block (a := ⟨B, j, none⟩) (Below.heap_setCell _ _ _ B (by show B ≠ g; omega))
  exact ⟨(hk 0).trans c0, (hk 1).trans c1, (hk 2).trans c2, (hk 3).trans c3, hw.setCell (p := ⟨g, i, none⟩) hg _⟩
theorem bools_in {w : World} {u : Value} {r : List Bool} (h : bools w u r) {b : Nat} (hb : inBlock u b) : b < w.heap.size := by
  obtain ⟨off, n, cap, rfl, hn⟩ := hb
  rcases h with ⟨⟨o, c', h, _⟩, _⟩ | ⟨b', off', cap', h, hlt, _⟩
  · simp only [Value.slice.injEq] at h
    omega
  · simp only [Value.slice.injEq, Option.some.injEq, Addr.mk.injEq] at h
    obtain ⟨⟨rfl, _⟩, _⟩ := h
    exact hlt
/-- A list in a box of its own: the box made behind the list; the box made before. -/
theorem boxed_new {w1 w0 w2 : World} {u : Value} {X : List Bool} {t : Int} (hv : bools w2 u X) (hf : ∀ q, inBlock u q → w0.heap.size ≤ q) (h0 : Below w1.heap.size w1 w0) (hb : Below w0.heap.size w0 w2) :
    w1.heap.size ≤ w2.heap.size ∧ (w2.alloc (.cells #[u, .int .i64 t] 34)).heap[w2.heap.size]? = some (.cells #[u, .int .i64 t] 34 (0, 0)) ∧ bools (w2.alloc (.cells #[u, .int .i64 t] 34)) u X ∧ (∀ q, inBlock u q → w1.heap.size ≤ q ∧ q ≠ w2.heap.size) ∧ Below w1.heap.size w1 (w2.alloc (.cells #[u, .int .i64 t] 34)) := by
  have h1 := h0.size
  have h2 := hb.size
  exact ⟨by omega, heap_alloc_new w2 _, listed_on hv ((Below.refl _ _).alloc (Nat.le_refl _) _), fun q hq => ⟨by have := hf q hq; omega, by have := bools_in hv hq; omega⟩, (h0.trans (hb.mono h1)).alloc (by omega) _⟩
theorem boxed_set {w1 w0 w2 : World} {g : Nat} {y0 y1 u : Value} {X : List Bool} {t : Int} (hg : w1.heap.size ≤ g) (hg2 : g < w0.heap.size) (hz : w2.heap[g]? = some (.cells #[y0, y1] 34 (0, 0))) (hv : bools w2 u X) (hf : ∀ q, inBlock u q → w0.heap.size ≤ q) (h0 : Below w1.heap.size w1 w0) (hb : Below w0.heap.size w0 w2) :
    w1.heap.size ≤ g ∧ ((w2.setCell ⟨g, 0, none⟩ u).setCell ⟨g, 1, none⟩ (.int .i64 t)).heap[g]? = some (.cells #[u, .int .i64 t] 34 (0, 0)) ∧ bools ((w2.setCell ⟨g, 0, none⟩ u).setCell ⟨g, 1, none⟩ (.int .i64 t)) u X ∧ (∀ q, inBlock u q → w1.heap.size ≤ q ∧ q ≠ g) ∧ Below w1.heap.size w1 ((w2.setCell ⟨g, 0, none⟩ u).setCell ⟨g, 1, none⟩ (.int .i64 t)) := by
  have h1 := h0.size
  refine ⟨hg, block_setCell (block_setCell hz _) _, listed_kept hv (Nat.le_of_eq (by simp)) (fun q hq => ?_), fun q hq => ⟨by have := hf q hq; omega, by have := hf q hq; omega⟩, ((h0.trans (hb.mono h1)).setCell (p := ⟨g, 0, none⟩) hg _).setCell (p := ⟨g, 1, none⟩) hg _⟩
  have := hf q hq
  rw [Below.heap_setCell _ _ _ q (by show q ≠ g; omega), Below.heap_setCell _ _ _ q (by show q ≠ g; omega)]
theorem toks_ok (b : List Nat) (up f i : Nat) (h8 : ∀ x ∈ b, x < 256) (hu : up ≤ b.length) : (∀ t ∈ toks b up f i, t.ok) ∧ (toks b up f i).length ≤ f := by
  induction f generalizing i with
  | zero => exact ⟨fun t ht => (by simp [toks] at ht), by simp [toks]⟩
  | succ f ih =>
    unfold toks
    by_cases hi : i < up
    · rw [if_pos hi]
      by_cases h3 : 3 ≤ (matchOf b i up).1
      · rw [if_pos h3]
        obtain ⟨m1, m2, m3, m4, _⟩ := matchOf_spec b i up (by omega)
        obtain ⟨i1, i2⟩ := ih (i + (matchOf b i up).1)
        refine ⟨fun t ht => ?_, by rw [List.length_cons]; omega⟩
        rcases List.mem_cons.1 ht with rfl | ht
        · exact .inr ⟨h3, m1, by simp only; omega, by simp only; omega⟩
        · exact i1 t ht
      · rw [if_neg h3]
        obtain ⟨i1, i2⟩ := ih (i + 1)
        refine ⟨fun t ht => ?_, by rw [List.length_cons]; omega⟩
        rcases List.mem_cons.1 ht with rfl | ht
        · refine .inl ⟨rfl, ?_⟩
          simp only
          rw [List.getD_eq_getElem?_getD, List.getElem?_eq_getElem (by omega)]
          exact h8 _ (List.getElem_mem _)
        · exact i1 t ht
    · rw [if_neg hi]
      exact ⟨fun t ht => (by cases ht), by simp⟩
theorem tokens_ok (b : List Nat) (a up : Nat) (h8 : ∀ x ∈ b, x < 256) (hu : up ≤ b.length) : (∀ t ∈ tokens b a up, t.ok) ∧ (tokens b a up).length ≤ up - a := toks_ok b up (up - a) a h8 hu
set_option maxHeartbeats 2000000 in
set_option maxRecDepth 100000 in
theorem wblock_any (av lv : Value) (all : List Nat) (L : List Bool) (a up last : Nat) (t : Int) (ov : Bool) (W : World) (ha : bytesIn W av all) (h8 : ∀ x ∈ all, x < 256) (hl : bools W lv L) (hau : a ≤ up) (hu : up ≤ all.length) (hs : up - a ≤ 65535) (hz : all.length ≤ 1099511627776) (hL : L.length ≤ 549755813888) (hlast : last ≤ 1) :
    Calls Try.prog 36 #[.agg #[av, .int .i64 (a : Int), lv, .int .i64 t, .bool ov], .int .i64 (up : Int), .int .i64 (last : Int)] W fun e w' =>
      ∃ u, e = .returned (.agg #[av, .int .i64 (up : Int), u, .int .i64 t, .bool ov]) ∧ bools w' u (blockOf L all a up last) ∧ (∀ q, inBlock u q → W.heap.size ≤ q) ∧ Below W.heap.size W w' := by
  obtain ⟨ao, ac, rfl⟩ := listed_length ha
  obtain ⟨lo, lc, rfl⟩ := listed_length hl
  obtain ⟨zs, hsl, hzs⟩ : ∃ zs, (∀ w, (Instr.slice 25 (.slice ao all.length ac) (some (.int .i64 (a : Int))) (some (.int .i64 (up : Int))) none).run Try.prog w = .ok zs w) ∧ bytesIn W zs ((all.take up).drop a) := listed_slice Try.underlying25 (fun w => by rfl) ha a up hau hu
  have hzl : ((all.take up).drop a).length ≤ 65535 := by rw [List.length_drop, List.length_take]; omega
  have hz8 : ∀ x ∈ (all.take up).drop a, x < 256 := fun x hx => h8 x (List.mem_of_mem_take (List.mem_of_mem_drop hx))
  have KS0 : Hid (∀ w', Below W.heap.size W w' → Calls Try.prog 56 #[.agg #[.slice lo L.length lc, .int .i64 t], zs, .int .i64 (last : Int)] w' fun e w'' => ∃ o m c, e = .returned (.agg #[.slice o m c, .int .i64 t]) ∧ Hid ((storedBlock L ((all.take up).drop a) last).length = m ∧ bools w'' (.slice o m c) (storedBlock L ((all.take up).drop a) last) ∧ (∀ q, inBlock (.slice o m c) q → w'.heap.size ≤ q) ∧ Below w'.heap.size w' w'')) := fun w' hb => by
    refine (rstored_any _ L t zs _ last w' (listed_on hl hb) (listed_on hzs hb) hz8 hL hzl hlast).mono ?_
    rintro e w'' ⟨u, rfl, v1, v2, v3⟩
    obtain ⟨o, c, rfl⟩ := listed_length v1
    exact ⟨o, _, c, rfl, rfl, v1, v2, v3⟩
  obtain ⟨hto, htl⟩ := tokens_ok all a up h8 hu
  have KT0 : Hid (∀ w', Below W.heap.size W w' → Calls Try.prog 58 #[.slice ao all.length ac, .int .i64 (a : Int), .int .i64 (up : Int)] w' fun e w'' => ∃ u, e = .returned u ∧ toksIn w'' u (tokens all a up) ∧ Below w'.heap.size w' w'') := fun w' hb => tokens_any _ all a up w' (listed_on ha hb) h8 hau hu hz (by omega)
  have KF0 : Hid (∀ u w', Below W.heap.size W w' → toksIn w' u (tokens all a up) → Calls Try.prog 57 #[.agg #[.slice lo L.length lc, .int .i64 t], u, .int .i64 (last : Int)] w' fun e w'' => ∃ o m c, e = .returned (.agg #[.slice o m c, .int .i64 t]) ∧ Hid ((fixedBlock L (tokens all a up) last).length = m ∧ bools w'' (.slice o m c) (fixedBlock L (tokens all a up) last) ∧ (∀ q, inBlock (.slice o m c) q → w'.heap.size ≤ q) ∧ Below w'.heap.size w' w'')) := fun u w' hb hu2 => by
    refine (rblock_any _ L t u _ last w' (listed_on hl hb) hu2 hto hL (by omega) hlast).mono ?_
    rintro e w'' ⟨u, rfl, v1, v2, v3⟩
    obtain ⟨o, c, rfl⟩ := listed_length v1
    exact ⟨o, _, c, rfl, rfl, v1, v2, v3⟩
  have HBK : Hid (blockOf L all a up last = if (storedBlock L ((all.take up).drop a) last).length < (fixedBlock L (tokens all a up) last).length then storedBlock L ((all.take up).drop a) last else fixedBlock L (tokens all a up) last) := rfl
  generalize storedBlock L ((all.take up).drop a) last = SB at *
  generalize fixedBlock L (tokens all a up) last = FB at *
  generalize tokens all a up = TS at *
  generalize blockOf L all a up last = BO at *
  obtain ⟨w1, e1, hs1, hB0, hB1, hbl⟩ := two_blocks5 W 36 (.slice ao all.length ac) (.int .i64 (a : Int)) (.slice lo L.length lc) (.int .i64 t) (.bool ov) (.slice none 0 0) (.int .i64 0) (.slice none 0 0) (.int .i64 0) (.bool false)
  obtain ⟨an, ean⟩ : ∃ n, all.length = n := ⟨_, rfl⟩
  obtain ⟨ln, eln⟩ : ∃ n, L.length = n := ⟨_, rfl⟩
  rw [ean] at hsl hB0 e1 KT0 ⊢
  rw [eln] at hB0 e1 KS0 KF0 ⊢
  clear ha hl hzs hz8 hzl hto htl h8 ean eln hu hz hL
  go_enter Try.func36, Try.ntmps36
  go_upto_region 1 with fail
  rw [← e1]
  clear e1
  have HB0 := Lib.hid hB0
  have HB1 := Lib.hid hB1
  have HBL := Lib.hid hbl
  have q0 := cell_of_block hB0 0
  have q1 := cell_of_block hB0 1
  have q2 := cell_of_block hB0 2
  have q3 := cell_of_block hB0 3
  have a0 := fun o => cell_of_block (alloc_old (o' := o) hB0) 0
  have a1 := fun o => cell_of_block (alloc_old (o' := o) hB0) 1
  have a2 := fun o => cell_of_block (alloc_old (o' := o) hB0) 2
  have a3 := fun o => cell_of_block (alloc_old (o' := o) hB0) 3
  have hd1 : Below W.heap.size W w1.drew := hbl.drew
  have hd2 : Below W.heap.size W (w1.alloc (.cells #[.slice none 0 0, .int .i64 0] 34)).drew := (hbl.alloc hbl.size _).drew
  have HS1 := Lib.hid hs1
  clear hB0 hB1 hbl hs1
  go_cut [7] (fun s7 wx => ∃ (g m : Nat) (o : Option Addr) (c : Nat), s7 = .pointer (some ⟨g, 0, none⟩) ∧ SB.length = m ∧ Hid (w1.heap.size ≤ g ∧ wx.heap[g]? = some (.cells #[.slice o m c, .int .i64 t] 34 (0, 0)) ∧ bools wx (.slice o m c) SB ∧ (∀ q, inBlock (.slice o m c) q → w1.heap.size ≤ q ∧ q ≠ g) ∧ Below w1.heap.size w1 wx))
  case first =>
    have HS := Lib.hid (show w1.cell? ⟨W.heap.size, 0, none⟩ = some (.slice ao an ac) ∧ w1.cell? ⟨W.heap.size, 1, none⟩ = some (.int .i64 (a : Int)) ∧ w1.cell? ⟨W.heap.size, 2, none⟩ = some (.slice lo ln lc) ∧ w1.cell? ⟨W.heap.size, 3, none⟩ = some (.int .i64 t) ∧ Below w1.heap.size w1 w1 from ⟨q0, q1, q2, q3, Below.refl _ _⟩)
    have hBs : W.heap.size < w1.heap.size := by have := HS1.out; omega
    go_region_held3 (fun w' => w'.cell? ⟨W.heap.size, 0, none⟩ = some (.slice ao an ac) ∧ w'.cell? ⟨W.heap.size, 1, none⟩ = some (.int .i64 (a : Int)) ∧ w'.cell? ⟨W.heap.size, 2, none⟩ = some (.slice lo ln lc) ∧ w'.cell? ⟨W.heap.size, 3, none⟩ = some (.int .i64 t) ∧ Below w1.heap.size w1 w') (first | (with_reducible assumption) | exact five_keep HS.out (Below.refl _ _).drew | exact five_keep (five_keep HS.out (Below.refl _ _).drew) ((Below.refl _ _).alloc (Nat.le_refl _) _) | exact five_keep (five_keep (five_keep HS.out (Below.refl _ _).drew) ((Below.refl _ _).alloc (Nat.le_refl _) _)) HV.out.2.2.2 | exact five_keep (five_keep HS.out (Below.refl _ _).drew) HV.out.2.2.2 | exact five_keep (five_keep (five_keep HS.out (Below.refl _ _).drew) HV.out.2.2.2) ((Below.refl _ _).alloc (Nat.le_refl _) _) | exact five_store (five_store (five_keep (five_keep (five_keep HS.out (Below.refl _ _).drew) ((Below.refl _ _).alloc (Nat.le_refl _) _)) HV.out.2.2.2) hBs (Nat.le_refl _)) hBs (Nat.le_refl _) | exact five_store (five_store (five_keep (five_keep (five_keep HS.out (Below.refl _ _).drew) HV.out.2.2.2) ((Below.refl _ _).alloc (Nat.le_refl _) _)) hBs HV.out.2.2.2.size) hBs HV.out.2.2.2.size) (first | (go_at_call 56; refine (KS0.out w1.drew hd1).mono ?_; rintro e w2 ⟨o, m, c, rfl, HV⟩) | (go_at_call 56; refine (KS0.out (w1.drew.alloc (.cells #[.slice none 0 0, .int .i64 0] 34)) hd2).mono ?_; rintro e w2 ⟨o, m, c, rfl, HV⟩; have hzz := (HV.out.2.2.2.block w1.heap.size (alloc_lt w1 _)).trans (heap_alloc_new w1 _); have r0 := cell_of_block hzz 0; have r1 := cell_of_block hzz 1; have r2 := unfrozen_of_block hzz 0; have r3 := unfrozen_of_block hzz 1))
    all_goals go_wp2_with fail
    all_goals go_meet
    all_goals first | exact ⟨_, m, o, c, rfl, HV.out.1, Lib.hid (boxed_new HV.out.2.1 HV.out.2.2.1 (Below.refl _ _).drew HV.out.2.2.2)⟩ | exact ⟨_, m, o, c, rfl, HV.out.1, Lib.hid (boxed_set (Nat.le_refl _) (alloc_lt w1 (.cells #[.slice none 0 0, .int .i64 0] 34)) hzz HV.out.2.1 HV.out.2.2.1 (((Below.refl _ _).alloc (Nat.le_refl _) _).drew) HV.out.2.2.2)⟩
  case rest =>
    obtain ⟨g7, m7, o7, c7, rfl, hm7, HG⟩ := hcut
    obtain ⟨x1, ex1⟩ : ∃ x, x = wc := ⟨_, rfl⟩
    rw [← ex1] at HG ⊢
    clear ex1 q0 q1 q2 q3 a0 a1 a2 a3 hd1 hd2
    have hB0 := (HG.out.2.2.2.2.block W.heap.size (by have := HS1.out; omega)).trans HB0.out
    have hB1 := (HG.out.2.2.2.2.block (W.heap.size + 1) (by have := HS1.out; omega)).trans HB1.out
    have hbl2 := HBL.out.trans (HG.out.2.2.2.2.mono HBL.out.size)
    have q0 := cell_of_block hB0 0
    have q1 := cell_of_block hB0 1
    have q2 := cell_of_block hB0 2
    have q3 := cell_of_block hB0 3
    have HC0 := Lib.hid hB0
    have HC1 := Lib.hid hB1
    have HBL2 := Lib.hid hbl2
    have hd3 : Below W.heap.size W x1.drew := hbl2.drew
    have hd4 : Below W.heap.size W (x1.drew.alloc (.cells #[.slice none 0 0, .int .i64 0] 34)) := hbl2.drew.alloc hbl2.size _
    have HS2 := Lib.hid (show x1.cell? ⟨W.heap.size, 0, none⟩ = some (.slice ao an ac) ∧ x1.cell? ⟨W.heap.size, 1, none⟩ = some (.int .i64 (a : Int)) ∧ x1.cell? ⟨W.heap.size, 2, none⟩ = some (.slice lo ln lc) ∧ x1.cell? ⟨W.heap.size, 3, none⟩ = some (.int .i64 t) ∧ Below x1.heap.size x1 x1 from ⟨q0, q1, q2, q3, Below.refl _ _⟩)
    have hBs2 : W.heap.size < x1.heap.size := (Array.getElem?_eq_some_iff.1 hB0).1
    clear hB0 hB1 hbl2
    go_upto_region 2 with fail
    go_cut [8] (fun s8 wx => ∃ (g m : Nat) (o : Option Addr) (c : Nat), s8 = .pointer (some ⟨g, 0, none⟩) ∧ FB.length = m ∧ Hid (x1.heap.size ≤ g ∧ wx.heap[g]? = some (.cells #[.slice o m c, .int .i64 t] 34 (0, 0)) ∧ bools wx (.slice o m c) FB ∧ (∀ q, inBlock (.slice o m c) q → x1.heap.size ≤ q ∧ q ≠ g) ∧ Below x1.heap.size x1 wx))
    case first =>
      go_region_held3 (fun w' => w'.cell? ⟨W.heap.size, 0, none⟩ = some (.slice ao an ac) ∧ w'.cell? ⟨W.heap.size, 1, none⟩ = some (.int .i64 (a : Int)) ∧ w'.cell? ⟨W.heap.size, 2, none⟩ = some (.slice lo ln lc) ∧ w'.cell? ⟨W.heap.size, 3, none⟩ = some (.int .i64 t) ∧ Below x1.heap.size x1 w') (first | (with_reducible assumption) | exact five_keep HS2.out (Below.refl _ _).drew | exact five_keep (five_keep HS2.out (Below.refl _ _).drew) ((Below.refl _ _).alloc (Nat.le_refl _) _) | exact five_keep (five_keep HS2.out (Below.refl _ _).drew) hbT | exact five_keep (five_keep (five_keep HS2.out (Below.refl _ _).drew) ((Below.refl _ _).alloc (Nat.le_refl _) _)) hbT | exact five_keep (five_keep (five_keep HS2.out (Below.refl _ _).drew) hbT) ((Below.refl _ _).alloc (Nat.le_refl _) _) | exact five_keep (five_keep (five_keep HS2.out (Below.refl _ _).drew) hbT) HF.out.2.2.2 | exact five_keep (five_keep (five_keep (five_keep HS2.out (Below.refl _ _).drew) ((Below.refl _ _).alloc (Nat.le_refl _) _)) hbT) HF.out.2.2.2 | exact five_keep (five_keep (five_keep (five_keep HS2.out (Below.refl _ _).drew) hbT) ((Below.refl _ _).alloc (Nat.le_refl _) _)) HF.out.2.2.2 | exact five_keep (five_keep (five_keep (five_keep HS2.out (Below.refl _ _).drew) hbT) HF.out.2.2.2) ((Below.refl _ _).alloc (Nat.le_refl _) _) | exact five_store (five_store (five_keep (five_keep (five_keep (five_keep HS2.out (Below.refl _ _).drew) ((Below.refl _ _).alloc (Nat.le_refl _) _)) hbT) HF.out.2.2.2) hBs2 (Nat.le_refl _)) hBs2 (Nat.le_refl _) | exact five_store (five_store (five_keep (five_keep (five_keep (five_keep HS2.out (Below.refl _ _).drew) hbT) ((Below.refl _ _).alloc (Nat.le_refl _) _)) HF.out.2.2.2) hBs2 hbT.size) hBs2 hbT.size | exact five_store (five_store (five_keep (five_keep (five_keep (five_keep HS2.out (Below.refl _ _).drew) hbT) HF.out.2.2.2) ((Below.refl _ _).alloc (Nat.le_refl _) _)) hBs2 (Nat.le_trans hbT.size HF.out.2.2.2.size)) hBs2 (Nat.le_trans hbT.size HF.out.2.2.2.size)) (first | (go_at_call 58; refine (KT0.out x1.drew hd3).mono ?_; rintro e w2 ⟨u2, rfl, hu2, hbT⟩) | (go_at_call 58; refine (KT0.out (x1.drew.alloc (.cells #[.slice none 0 0, .int .i64 0] 34)) hd4).mono ?_; rintro e w2 ⟨u2, rfl, hu2, hbT⟩; have hzT := (hbT.block x1.heap.size (alloc_lt x1 _)).trans (heap_alloc_new x1 _)) | (go_at_call 57; refine (KF0.out u2 w2 (by first | exact hd3.trans (hbT.mono hd3.size) | exact hd4.trans (hbT.mono hd4.size)) hu2).mono ?_; rintro e w3 ⟨o, m, c, rfl, HF⟩; first | (have hzz := (HF.out.2.2.2.block x1.heap.size (Array.getElem?_eq_some_iff.1 hzT).1).trans hzT; have r0 := cell_of_block hzz 0; have r1 := cell_of_block hzz 1; have r2 := unfrozen_of_block hzz 0; have r3 := unfrozen_of_block hzz 1) | skip) | (go_at_call 57; refine (KF0.out u2 (w2.alloc (.cells #[.slice none 0 0, .int .i64 0] 34)) ((hd3.trans (hbT.mono hd3.size)).alloc (Nat.le_trans hd3.size hbT.size) _) (toksIn_on hu2 ((Below.refl _ _).alloc (Nat.le_refl _) _))).mono ?_; rintro e w3 ⟨o, m, c, rfl, HF⟩; have hzz := (HF.out.2.2.2.block w2.heap.size (alloc_lt w2 _)).trans (heap_alloc_new w2 _); have r0 := cell_of_block hzz 0; have r1 := cell_of_block hzz 1; have r2 := unfrozen_of_block hzz 0; have r3 := unfrozen_of_block hzz 1))
      all_goals go_wp2_with fail
      all_goals go_meet
      all_goals first
        | exact ⟨_, m, o, c, rfl, HF.out.1, Lib.hid (boxed_new HF.out.2.1 HF.out.2.2.1 ((Below.refl _ _).drew.trans hbT) HF.out.2.2.2)⟩
        | exact ⟨_, m, o, c, rfl, HF.out.1, Lib.hid (boxed_set (Nat.le_refl _) (Array.getElem?_eq_some_iff.1 hzT).1 hzz HF.out.2.1 HF.out.2.2.1 (((Below.refl _ _).drew.alloc (Nat.le_refl _) _).trans (hbT.mono (Nat.le_of_lt (alloc_lt x1 (.cells #[.slice none 0 0, .int .i64 0] 34))))) HF.out.2.2.2)⟩
        | exact ⟨_, m, o, c, rfl, HF.out.1, Lib.hid (boxed_set (w0 := w2.alloc (.cells #[.slice none 0 0, .int .i64 0] 34)) hbT.size (alloc_lt w2 (.cells #[.slice none 0 0, .int .i64 0] 34)) hzz HF.out.2.1 HF.out.2.2.1 (((Below.refl _ _).drew.trans hbT).alloc hbT.size _) HF.out.2.2.2)⟩
    case rest =>
      obtain ⟨g8, m8, o8, c8, rfl, hm8, HH⟩ := hcut
      obtain ⟨x2, ex2⟩ : ∃ x, x = wc := ⟨_, rfl⟩
      rw [← ex2] at HH ⊢
      clear ex2 q0 q1 q2 q3 hd3 hd4
      have hz1 := HH.out.2.2.2.2.size
      have hg7lt := (Array.getElem?_eq_some_iff.1 HG.out.2.1).1
      have hB0 := (HH.out.2.2.2.2.block W.heap.size hBs2).trans HC0.out
      have hB1 := (HH.out.2.2.2.2.block (W.heap.size + 1) (Array.getElem?_eq_some_iff.1 HC1.out).1).trans HC1.out
      have hB7 := (HH.out.2.2.2.2.block g7 hg7lt).trans HG.out.2.1
      have hB8 := HH.out.2.1
      have V7 : Hid (bools x2 (.slice o7 m7 c7) SB ∧ ∀ q, inBlock (.slice o7 m7 c7) q → w1.heap.size ≤ q) := ⟨listed_on HG.out.2.2.1 HH.out.2.2.2.2, fun q hq => (HG.out.2.2.2.1 q hq).1⟩
      have V8 : Hid (bools x2 (.slice o8 m8 c8) FB ∧ ∀ q, inBlock (.slice o8 m8 c8) q → w1.heap.size ≤ q) := ⟨HH.out.2.2.1, fun q hq => Nat.le_trans HG.out.2.2.2.2.size (HH.out.2.2.2.1 q hq).1⟩
      have HBL3 := Lib.hid (HBL2.out.trans (HH.out.2.2.2.2.mono HBL2.out.size))
      have n7 : ¬ g7 = W.heap.size := fun e => by have := HG.out.1; have := HS1.out; omega
      have n8 : ¬ g8 = W.heap.size := fun e => by have := HH.out.1; omega
      have n7' : ¬ W.heap.size = g7 := fun e => n7 e.symm
      have n8' : ¬ W.heap.size = g8 := fun e => n8 e.symm
      have n7r : ¬ g7 = W.heap.size + 1 := fun e => by have := HG.out.1; have := HS1.out; omega
      have nr : ¬ W.heap.size = W.heap.size + 1 := by omega
      have q2 := cell_of_block hB0 2
      have q3 := cell_of_block hB0 3
      have f2 := unfrozen_of_block hB0 2
      have f3 := unfrozen_of_block hB0 3
      have c80 := cell_of_block hB8 0
      have c81 := cell_of_block hB8 1
      have HD1 := Lib.hid hB1
      have HD7 := Lib.hid hB7
      have HD8 := Lib.hid hB8
      have HD0 : Hid (((x2.setCell ⟨W.heap.size, 2, none⟩ (.slice o8 m8 c8)).setCell ⟨W.heap.size, 3, none⟩ (.int .i64 t)).heap[W.heap.size]? = some (.cells #[.slice ao an ac, .int .i64 (a : Int), .slice o8 m8 c8, .int .i64 t, .bool ov] 36 (0, 0))) := block_setCell (block_setCell hB0 _) _
      have HK3 : Hid (∀ q, q ≠ W.heap.size → ((x2.setCell ⟨W.heap.size, 2, none⟩ (.slice o8 m8 c8)).setCell ⟨W.heap.size, 3, none⟩ (.int .i64 t)).heap[q]? = x2.heap[q]?) := fun q hq => by rw [Below.heap_setCell _ _ _ q hq, Below.heap_setCell _ _ _ q hq]
      have HBL4 := Lib.hid ((HBL3.out.setCell (p := ⟨W.heap.size, 2, none⟩) (Nat.le_refl _) (.slice o8 m8 c8)).setCell (p := ⟨W.heap.size, 3, none⟩) (Nat.le_refl _) (.int .i64 t))
      have hz3 : ((x2.setCell ⟨W.heap.size, 2, none⟩ (.slice o8 m8 c8)).setCell ⟨W.heap.size, 3, none⟩ (.int .i64 t)).heap.size = x2.heap.size := by simp
      clear hB0 hB1 hB7 hB8
      go_upto_region 4 with fail
      obtain ⟨x3, ex3⟩ : ∃ x, x = (x2.setCell ⟨W.heap.size, 2, none⟩ (.slice o8 m8 c8)).setCell ⟨W.heap.size, 3, none⟩ (.int .i64 t) := ⟨_, rfl⟩
      rw [← ex3] at HD0 HK3 HBL4 hz3 ⊢
      clear ex3 q2 q3 f2 f3 c80 c81
      have hB1 := (HK3.out _ (by omega)).trans HD1.out
      have hB7 := (HK3.out _ n7).trans HD7.out
      have hB8 := (HK3.out _ n8).trans HD8.out
      have c70 := cell_of_block hB7 0
      have c71 := cell_of_block hB7 1
      have c80 := cell_of_block hB8 0
      have q0 := cell_of_block HD0.out 0
      have q1 := cell_of_block HD0.out 1
      have q2 := cell_of_block HD0.out 2
      have q3 := cell_of_block HD0.out 3
      have q4 := cell_of_block HD0.out 4
      have f1 := unfrozen_of_block HD0.out 1
      have f2 := unfrozen_of_block HD0.out 2
      have f3 := unfrozen_of_block HD0.out 3
      have HE1 := Lib.hid hB1
      clear hB1 hB7 hB8 HD1 HD7 HD8 n7' n8' n7r HG HH
      have W7 : Hid (bools x3 (.slice o7 m7 c7) SB) := listed_kept V7.out.1 (Nat.le_of_eq hz3.symm) (fun q hq => HK3.out q (fun e => by have := V7.out.2 q hq; have := HS1.out; omega))
      have W8 : Hid (bools x3 (.slice o8 m8 c8) FB) := listed_kept V8.out.1 (Nat.le_of_eq hz3.symm) (fun q hq => HK3.out q (fun e => by have := V8.out.2 q hq; have := HS1.out; omega))
      have HBO : Hid (BO = if m7 < m8 then SB else FB) := by
        show _ = _
        rw [HBK.out, hm7, hm8]
      have HM := Lib.hid (And.intro hm7 hm8)
      clear hm7 hm8 HBK HS2 hBs2 hg7lt hz1
      go_upto_if 37 with fail
      go_cut [1] (fun s1 wx => s1 = .int .i64 (up : Int) ∧ ∃ (o : Option Addr) (m c : Nat), Hid (wx.heap[W.heap.size]? = some (.cells #[.slice ao an ac, .int .i64 (a : Int), .slice o m c, .int .i64 t, .bool ov] 36 (0, 0)) ∧ wx.heap[W.heap.size + 1]? = some (.cells #[.slice none 0 0, .int .i64 0, .slice none 0 0, .int .i64 0, .bool false] 36 (0, 0)) ∧ bools wx (.slice o m c) BO ∧ (∀ q, inBlock (.slice o m c) q → w1.heap.size ≤ q) ∧ Below W.heap.size W wx))
      case first =>
        by_cases hlt' : m7 < m8
        · have hd : decide ((m7 : Int) < (m8 : Int)) = true := decide_eq_true (by omega)
          have hdn : decide (m7 < m8) = true := decide_eq_true hlt'
          go_wp2_with fail
          go_meet
          refine ⟨rfl, o7, m7, c7, Lib.hid ⟨block_setCell (block_setCell HD0.out _) _, ?_, ?_, V7.out.2, (HBL4.out.setCell (p := ⟨W.heap.size, 2, none⟩) (Nat.le_refl _) _).setCell (p := ⟨W.heap.size, 3, none⟩) (Nat.le_refl _) _⟩⟩
          · rw [Below.heap_setCell _ _ _ _ (by show W.heap.size + 1 ≠ W.heap.size; omega), Below.heap_setCell _ _ _ _ (by show W.heap.size + 1 ≠ W.heap.size; omega)]
            exact HE1.out
          · rw [HBO.out, if_pos hlt']
            refine listed_kept W7.out (Nat.le_of_eq (by simp)) (fun q hq => ?_)
            have h1 := V7.out.2 q hq
            have h2 := HS1.out
            rw [Below.heap_setCell _ _ _ q (by show q ≠ W.heap.size; omega), Below.heap_setCell _ _ _ q (by show q ≠ W.heap.size; omega)]
        · have hd : decide ((m7 : Int) < (m8 : Int)) = false := decide_eq_false (by omega)
          have hdn : decide (m7 < m8) = false := decide_eq_false hlt'
          go_wp2_with fail
          go_meet
          exact ⟨rfl, o8, m8, c8, Lib.hid ⟨HD0.out, HE1.out, by rw [HBO.out, if_neg hlt']; exact W8.out, V8.out.2, HBL4.out⟩⟩
      case rest =>
        obtain ⟨rfl, o, m, c, HR⟩ := hcut
        obtain ⟨h0, h1, h2, h3, h4⟩ := HR.out
        clear q0 q1 q2 q3 q4 f1 f2 f3 c70 c71 c80 HD0 HE1 HK3 W7 W8 V7 V8
        have f1 := unfrozen_of_block h0 1
        have hN : Hid ((wc.setCell ⟨W.heap.size, 1, none⟩ (.int .i64 (up : Int))).heap[W.heap.size]? = some (.cells #[.slice ao an ac, .int .i64 (up : Int), .slice o m c, .int .i64 t, .bool ov] 36 (0, 0))) := block_setCell h0 _
        have q1 := cell_of_block h0 1
        have H1 := Lib.hid h1
        have H2 := Lib.hid h2
        have H3 := Lib.hid h3
        have H4 := Lib.hid (h4.setCell (p := ⟨W.heap.size, 1, none⟩) (Nat.le_refl _) (.int .i64 (up : Int)))
        clear h0 h1 h2 h3 h4 HR
        go_upto_region 7 with fail
        obtain ⟨x4, ex4⟩ : ∃ x, x = wc.setCell ⟨W.heap.size, 1, none⟩ (.int .i64 (up : Int)) := ⟨_, rfl⟩
        have hE1 : x4.heap[W.heap.size + 1]? = _ := (by rw [ex4]; exact Below.heap_setCell _ _ _ _ (by show W.heap.size + 1 ≠ W.heap.size; omega) : x4.heap[W.heap.size + 1]? = wc.heap[W.heap.size + 1]?).trans H1.out
        have H5 : Hid (bools x4 (.slice o m c) BO) := listed_kept H2.out (Nat.le_of_eq (by rw [ex4]; simp)) (fun q hq => by have := H3.out q hq; have := HS1.out; rw [ex4]; exact Below.heap_setCell _ _ _ q (by show q ≠ W.heap.size; omega))
        rw [← ex4] at hN H4 ⊢
        clear ex4 q1 f1 H1 H2
        have q0 := cell_of_block hN.out 0
        have q1 := cell_of_block hN.out 1
        have q2 := cell_of_block hN.out 2
        have q3 := cell_of_block hN.out 3
        have q4 := cell_of_block hN.out 4
        have p0 := cell_of_block hE1 0
        have p1 := cell_of_block hE1 1
        have p2 := cell_of_block hE1 2
        have p3 := cell_of_block hE1 3
        have p4 := cell_of_block hE1 4
        have e0 := unfrozen_of_block hE1 0
        have e1 := unfrozen_of_block hE1 1
        have e2 := unfrozen_of_block hE1 2
        have e3 := unfrozen_of_block hE1 3
        have e4 := unfrozen_of_block hE1 4
        clear hE1
        go_wp2_with fail
        refine bodyPost_ret (v := .agg #[.slice ao an ac, .int .i64 (up : Int), .slice o m c, .int .i64 t, .bool ov]) ?_ rfl ⟨_, rfl, ?_, fun q hq => by have := H3.out q hq; have := HS1.out; omega, ?_⟩
        · simp [results, Try.results36, asAddr, Result.andThen, go_sem, p0, p1, p2, p3, p4]
        · refine listed_kept H5.out (Nat.le_of_eq (by simp)) (fun q hq => ?_)
          have h1 := H3.out q hq
          have h2 := HS1.out
          rw [Below.heap_setCell _ _ _ q (by show q ≠ W.heap.size + 1; omega), Below.heap_setCell _ _ _ q (by show q ≠ W.heap.size + 1; omega), Below.heap_setCell _ _ _ q (by show q ≠ W.heap.size + 1; omega), Below.heap_setCell _ _ _ q (by show q ≠ W.heap.size + 1; omega), Below.heap_setCell _ _ _ q (by show q ≠ W.heap.size + 1; omega)]
        · exact ((((H4.out.setCell (p := ⟨W.heap.size + 1, 0, none⟩) (Nat.le_succ _) _).setCell (p := ⟨W.heap.size + 1, 1, none⟩) (Nat.le_succ _) _).setCell (p := ⟨W.heap.size + 1, 2, none⟩) (Nat.le_succ _) _).setCell (p := ⟨W.heap.size + 1, 3, none⟩) (Nat.le_succ _) _).setCell (p := ⟨W.heap.size + 1, 4, none⟩) (Nat.le_succ _) _
end Go.Proofs.Ytggkmbnogdikkaa.Fx
