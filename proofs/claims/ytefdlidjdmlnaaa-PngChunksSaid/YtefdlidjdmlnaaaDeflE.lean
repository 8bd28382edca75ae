/-
  The document's own answers of layer 6: a block. The conditions stand in it.
  The document's own answers of layer 6: Write. The conditions stand in it.
  The document's own answers of layer 6: End. The conditions stand in it.
-/
import Derived.Deep.RegionHeld3
import Derived.Test.YtefdlidjdmlnaaaDeflX
import Derived.Test.YtefdlidjdmlnaaaDeflQ
import Derived.Test.YtefdlidjdmlnaaaBitsO
namespace Go.Proofs.Ytefdlidjdmlnaaa.Fx
open Go Go.RowKit Go.Joins
set_option linter.unusedVariables false
theorem two_blocks5 (W : World) (ty : TypeId) (x0 x1 x2 x3 x4 y0 y1 y2 y3 y4 : Value) : ∃ w1, w1 = (W.alloc (.cells #[x0, x1, x2, x3, x4] ty)).alloc (.cells #[y0, y1, y2, y3, y4] ty) ∧ w1.heap.size = W.heap.size + 2 ∧ w1.heap[W.heap.size]? = some (.cells #[x0, x1, x2, x3, x4] ty (0, 0)) ∧ w1.heap[W.heap.size + 1]? = some (.cells #[y0, y1, y2, y3, y4] ty (0, 0)) ∧ Below W.heap.size W w1 := by
  have hs0 : (W.alloc (.cells #[x0, x1, x2, x3, x4] ty)).heap.size = W.heap.size + 1 := by
    show (W.heap.push _).size = _
    simp
  refine ⟨_, rfl, ?_, alloc_old (heap_alloc_new W _), ?_, ((Below.refl _ _).alloc (Nat.le_refl _) _).alloc (by rw [hs0]; omega) _⟩
  · show ((W.alloc _).heap.push _).size = _
    rw [Array.size_push, hs0]
  · rw [← hs0]
    exact heap_alloc_new _ _
theorem alloc_lt (w : World) (o : Obj) : w.heap.size < (w.alloc o).drew.heap.size := by
  show _ < (w.heap.push _).size
  simp
/-- What a call of a writer's loads, and what it may leave. -/
theorem five_keep {B : Nat} {x0 x1 x2 x3 : Value} {w1 w w' : World} (h : w.cell? ⟨B, 0, none⟩ = some x0 ∧ w.cell? ⟨B, 1, none⟩ = some x1 ∧ w.cell? ⟨B, 2, none⟩ = some x2 ∧ w.cell? ⟨B, 3, none⟩ = some x3 ∧ Below w1.heap.size w1 w) (hb : Below w.heap.size w w') : w'.cell? ⟨B, 0, none⟩ = some x0 ∧ w'.cell? ⟨B, 1, none⟩ = some x1 ∧ w'.cell? ⟨B, 2, none⟩ = some x2 ∧ w'.cell? ⟨B, 3, none⟩ = some x3 ∧ Below w1.heap.size w1 w' := by
  obtain ⟨c0, c1, c2, c3, hw⟩ := h
  have hlt : B < w.heap.size := World.block_lt_of_cell? w ⟨B, 0, none⟩ c0
  exact ⟨(hb.cell hlt).trans c0, (hb.cell hlt).trans c1, (hb.cell hlt).trans c2, (hb.cell hlt).trans c3, hw.trans (hb.mono hw.size)⟩
theorem five_store {B g i : Nat} {x0 x1 x2 x3 u : Value} {w1 w : World} (h : w.cell? ⟨B, 0, none⟩ = some x0 ∧ w.cell? ⟨B, 1, none⟩ = some x1 ∧ w.cell? ⟨B, 2, none⟩ = some x2 ∧ w.cell? ⟨B, 3, none⟩ = some x3 ∧ Below w1.heap.size w1 w) (hB : B < w1.heap.size) (hg : w1.heap.size ≤ g) : (w.setCell ⟨g, i, none⟩ u).cell? ⟨B, 0, none⟩ = some x0 ∧ (w.setCell ⟨g, i, none⟩ u).cell? ⟨B, 1, none⟩ = some x1 ∧ (w.setCell ⟨g, i, none⟩ u).cell? ⟨B, 2, none⟩ = some x2 ∧ (w.setCell ⟨g, i, none⟩ u).cell? ⟨B, 3, none⟩ = some x3 ∧ Below w1.heap.size w1 (w.setCell ⟨g, i, none⟩ u) := by
  obtain ⟨c0, c1, c2, c3, hw⟩ := h
  have hk : ∀ j, (w.setCell ⟨g, i, none⟩ u).cell? ⟨B, j, none⟩ = w.cell? ⟨B, j, none⟩ := fun j => World.cell?_of_block (a := ⟨B, j, none⟩) (Below.heap_setCell _ _ _ B (by show B ≠ g; omega))
  exact ⟨(hk 0).trans c0, (hk 1).trans c1, (hk 2).trans c2, (hk 3).trans c3, hw.setCell (p := ⟨g, i, none⟩) hg _⟩
theorem bools_in {w : World} {u : Value} {r : List Bool} (h : bools w u r) {b : Nat} (hb : inBlock u b) : b < w.heap.size := by
  obtain ⟨off, n, cap, rfl, hn⟩ := hb
  rcases h with ⟨⟨o, c', h, _⟩, _⟩ | ⟨b', off', cap', h, hlt, _⟩
  · simp only [Value.slice.injEq] at h
    omega
  · simp only [Value.slice.injEq, Option.some.injEq, Addr.mk.injEq] at h
    obtain ⟨⟨rfl, _⟩, _⟩ := h
    exact hlt
/-- A list in a box of its own: the box made behind the list; the box made before. -/
theorem boxed_new {w1 w0 w2 : World} {u : Value} {X : List Bool} {t : Int} (hv : bools w2 u X) (hf : ∀ q, inBlock u q → w0.heap.size ≤ q) (h0 : Below w1.heap.size w1 w0) (hb : Below w0.heap.size w0 w2) :
    w1.heap.size ≤ w2.heap.size ∧ (w2.alloc (.cells #[u, .int .i64 t] 63)).heap[w2.heap.size]? = some (.cells #[u, .int .i64 t] 63 (0, 0)) ∧ bools (w2.alloc (.cells #[u, .int .i64 t] 63)) u X ∧ (∀ q, inBlock u q → w1.heap.size ≤ q ∧ q ≠ w2.heap.size) ∧ Below w1.heap.size w1 (w2.alloc (.cells #[u, .int .i64 t] 63)) := by
  have h1 := h0.size
  have h2 := hb.size
  exact ⟨by omega, heap_alloc_new w2 _, listed_on hv ((Below.refl _ _).alloc (Nat.le_refl _) _), fun q hq => ⟨by have := hf q hq; omega, by have := bools_in hv hq; omega⟩, (h0.trans (hb.mono h1)).alloc (by omega) _⟩
theorem boxed_set {w1 w0 w2 : World} {g : Nat} {y0 y1 u : Value} {X : List Bool} {t : Int} (hg : w1.heap.size ≤ g) (hg2 : g < w0.heap.size) (hz : w2.heap[g]? = some (.cells #[y0, y1] 63 (0, 0))) (hv : bools w2 u X) (hf : ∀ q, inBlock u q → w0.heap.size ≤ q) (h0 : Below w1.heap.size w1 w0) (hb : Below w0.heap.size w0 w2) :
    w1.heap.size ≤ g ∧ ((w2.setCell ⟨g, 0, none⟩ u).setCell ⟨g, 1, none⟩ (.int .i64 t)).heap[g]? = some (.cells #[u, .int .i64 t] 63 (0, 0)) ∧ bools ((w2.setCell ⟨g, 0, none⟩ u).setCell ⟨g, 1, none⟩ (.int .i64 t)) u X ∧ (∀ q, inBlock u q → w1.heap.size ≤ q ∧ q ≠ g) ∧ Below w1.heap.size w1 ((w2.setCell ⟨g, 0, none⟩ u).setCell ⟨g, 1, none⟩ (.int .i64 t)) := by
  have h1 := h0.size
  refine ⟨hg, block_setCell (block_setCell hz _) _, listed_kept hv (Nat.le_of_eq (by simp)) (fun q hq => ?_), fun q hq => ⟨by have := hf q hq; omega, by have := hf q hq; omega⟩, ((h0.trans (hb.mono h1)).setCell (p := ⟨g, 0, none⟩) hg _).setCell (p := ⟨g, 1, none⟩) hg _⟩
  have := hf q hq
  rw [Below.heap_setCell _ _ _ q (by show q ≠ g; omega), Below.heap_setCell _ _ _ q (by show q ≠ g; omega)]
theorem toks_ok (b : List Nat) (up f i : Nat) (h8 : ∀ x ∈ b, x < 256) (hu : up ≤ b.length) : (∀ t ∈ toks b up f i, t.ok) ∧ (toks b up f i).length ≤ f := by
  induction f generalizing i with
  | zero => exact ⟨fun t ht => (by simp [toks] at ht), by simp [toks]⟩
  | succ f ih =>
    unfold toks
    by_cases hi : i < up
    · rw [if_pos hi]
      by_cases h3 : 3 ≤ (matchOf b i up).1
      · rw [if_pos h3]
        obtain ⟨m1, m2, m3, m4, _⟩ := matchOf_spec b i up (by omega)
        obtain ⟨i1, i2⟩ := ih (i + (matchOf b i up).1)
        refine ⟨fun t ht => ?_, by rw [List.length_cons]; omega⟩
        rcases List.mem_cons.1 ht with rfl | ht
        · exact .inr ⟨h3, m1, by simp only; omega, by simp only; omega⟩
        · exact i1 t ht
      · rw [if_neg h3]
        obtain ⟨i1, i2⟩ := ih (i + 1)
        refine ⟨fun t ht => ?_, by rw [List.length_cons]; omega⟩
        rcases List.mem_cons.1 ht with rfl | ht
        · refine .inl ⟨rfl, ?_⟩
          simp only
          rw [List.getD_eq_getElem?_getD, List.getElem?_eq_getElem (by omega)]
          exact h8 _ (List.getElem_mem _)
        · exact i1 t ht
    · rw [if_neg hi]
      exact ⟨fun t ht => (by cases ht), by simp⟩
theorem tokens_ok (b : List Nat) (a up : Nat) (h8 : ∀ x ∈ b, x < 256) (hu : up ≤ b.length) : (∀ t ∈ tokens b a up, t.ok) ∧ (tokens b a up).length ≤ up - a := toks_ok b up (up - a) a h8 hu
set_option maxHeartbeats 2000000 in
set_option maxRecDepth 100000 in
theorem wblock_any (av lv : Value) (all : List Nat) (L : List Bool) (a up last : Nat) (t : Int) (ov : Bool) (W : World) (ha : bytesIn W av all) (h8 : ∀ x ∈ all, x < 256) (hl : bools W lv L) (hau : a ≤ up) (hu : up ≤ all.length) (hs : up - a ≤ 65535) (hz : all.length ≤ 1099511627776) (hL : L.length ≤ 549755813888) (hlast : last ≤ 1) :
    Calls Try.prog 59 #[.agg #[av, .int .i64 (a : Int), lv, .int .i64 t, .bool ov], .int .i64 (up : Int), .int .i64 (last : Int)] W fun e w' =>
      ∃ u, e = .returned (.agg #[av, .int .i64 (up : Int), u, .int .i64 t, .bool ov]) ∧ bools w' u (blockOf L all a up last) ∧ (∀ q, inBlock u q → W.heap.size ≤ q) ∧ Below W.heap.size W w' := by
  obtain ⟨ao, ac, rfl⟩ := listed_length ha
  obtain ⟨lo, lc, rfl⟩ := listed_length hl
  obtain ⟨zs, hsl, hzs⟩ : ∃ zs, (∀ w, (Instr.slice 36 (.slice ao all.length ac) (some (.int .i64 (a : Int))) (some (.int .i64 (up : Int))) none).run Try.prog w = .ok zs w) ∧ bytesIn W zs ((all.take up).drop a) := listed_slice Try.underlying36 (fun w => by rfl) ha a up hau hu
  have hzl : ((all.take up).drop a).length ≤ 65535 := by rw [List.length_drop, List.length_take]; omega
  have hz8 : ∀ x ∈ (all.take up).drop a, x < 256 := fun x hx => h8 x (List.mem_of_mem_take (List.mem_of_mem_drop hx))
  have KS0 : Hid (∀ w', Below W.heap.size W w' → Calls Try.prog 77 #[.agg #[.slice lo L.length lc, .int .i64 t], zs, .int .i64 (last : Int)] w' fun e w'' => ∃ o m c, e = .returned (.agg #[.slice o m c, .int .i64 t]) ∧ Hid ((storedBlock L ((all.take up).drop a) last).length = m ∧ bools w'' (.slice o m c) (storedBlock L ((all.take up).drop a) last) ∧ (∀ q, inBlock (.slice o m c) q → w'.heap.size ≤ q) ∧ Below w'.heap.size w' w'')) := fun w' hb => by
    refine (rstored_any _ L t zs _ last w' (listed_on hl hb) (listed_on hzs hb) hz8 hL hzl hlast).mono ?_
    rintro e w'' ⟨u, rfl, v1, v2, v3⟩
    obtain ⟨o, c, rfl⟩ := listed_length v1
    exact ⟨o, _, c, rfl, rfl, v1, v2, v3⟩
  obtain ⟨hto, htl⟩ := tokens_ok all a up h8 hu
  have KT0 : Hid (∀ w', Below W.heap.size W w' → Calls Try.prog 79 #[.slice ao all.length ac, .int .i64 (a : Int), .int .i64 (up : Int)] w' fun e w'' => ∃ u, e = .returned u ∧ toksIn w'' u (tokens all a up) ∧ Below w'.heap.size w' w'') := fun w' hb => tokens_any _ all a up w' (listed_on ha hb) h8 hau hu hz (by omega)
  have KF0 : Hid (∀ u w', Below W.heap.size W w' → toksIn w' u (tokens all a up) → Calls Try.prog 78 #[.agg #[.slice lo L.length lc, .int .i64 t], u, .int .i64 (last : Int)] w' fun e w'' => ∃ o m c, e = .returned (.agg #[.slice o m c, .int .i64 t]) ∧ Hid ((fixedBlock L (tokens all a up) last).length = m ∧ bools w'' (.slice o m c) (fixedBlock L (tokens all a up) last) ∧ (∀ q, inBlock (.slice o m c) q → w'.heap.size ≤ q) ∧ Below w'.heap.size w' w'')) := fun u w' hb hu2 => by
    refine (rblock_any _ L t u _ last w' (listed_on hl hb) hu2 hto hL (by omega) hlast).mono ?_
    rintro e w'' ⟨u, rfl, v1, v2, v3⟩
    obtain ⟨o, c, rfl⟩ := listed_length v1
    exact ⟨o, _, c, rfl, rfl, v1, v2, v3⟩
  have HBK : Hid (blockOf L all a up last = if (storedBlock L ((all.take up).drop a) last).length < (fixedBlock L (tokens all a up) last).length then storedBlock L ((all.take up).drop a) last else fixedBlock L (tokens all a up) last) := rfl
  generalize storedBlock L ((all.take up).drop a) last = SB at *
  generalize fixedBlock L (tokens all a up) last = FB at *
  generalize tokens all a up = TS at *
  generalize blockOf L all a up last = BO at *
  obtain ⟨w1, e1, hs1, hB0, hB1, hbl⟩ := two_blocks5 W 65 (.slice ao all.length ac) (.int .i64 (a : Int)) (.slice lo L.length lc) (.int .i64 t) (.bool ov) (.slice none 0 0) (.int .i64 0) (.slice none 0 0) (.int .i64 0) (.bool false)
  obtain ⟨an, ean⟩ : ∃ n, all.length = n := ⟨_, rfl⟩
  obtain ⟨ln, eln⟩ : ∃ n, L.length = n := ⟨_, rfl⟩
  rw [ean] at hsl hB0 e1 KT0 ⊢
  rw [eln] at hB0 e1 KS0 KF0 ⊢
  clear ha hl hzs hz8 hzl hto htl h8 ean eln hu hz hL
  go_enter Try.func59, Try.ntmps59
  go_upto_region 1 with fail
  rw [← e1]
  clear e1
  have HB0 := Lib.hid hB0
  have HB1 := Lib.hid hB1
  have HBL := Lib.hid hbl
  have q0 := cell_of_block hB0 0
  have q1 := cell_of_block hB0 1
  have q2 := cell_of_block hB0 2
  have q3 := cell_of_block hB0 3
  have a0 := fun o => cell_of_block (alloc_old (o' := o) hB0) 0
  have a1 := fun o => cell_of_block (alloc_old (o' := o) hB0) 1
  have a2 := fun o => cell_of_block (alloc_old (o' := o) hB0) 2
  have a3 := fun o => cell_of_block (alloc_old (o' := o) hB0) 3
  have hd1 : Below W.heap.size W w1.drew := hbl.drew
  have hd2 : Below W.heap.size W (w1.alloc (.cells #[.slice none 0 0, .int .i64 0] 63)).drew := (hbl.alloc hbl.size _).drew
  have HS1 := Lib.hid hs1
  clear hB0 hB1 hbl hs1
  go_cut [7] (fun s7 wx => ∃ (g m : Nat) (o : Option Addr) (c : Nat), s7 = .pointer (some ⟨g, 0, none⟩) ∧ SB.length = m ∧ Hid (w1.heap.size ≤ g ∧ wx.heap[g]? = some (.cells #[.slice o m c, .int .i64 t] 63 (0, 0)) ∧ bools wx (.slice o m c) SB ∧ (∀ q, inBlock (.slice o m c) q → w1.heap.size ≤ q ∧ q ≠ g) ∧ Below w1.heap.size w1 wx))
  case first =>
    have HS := Lib.hid (show w1.cell? ⟨W.heap.size, 0, none⟩ = some (.slice ao an ac) ∧ w1.cell? ⟨W.heap.size, 1, none⟩ = some (.int .i64 (a : Int)) ∧ w1.cell? ⟨W.heap.size, 2, none⟩ = some (.slice lo ln lc) ∧ w1.cell? ⟨W.heap.size, 3, none⟩ = some (.int .i64 t) ∧ Below w1.heap.size w1 w1 from ⟨q0, q1, q2, q3, Below.refl _ _⟩)
    have hBs : W.heap.size < w1.heap.size := by have := HS1.out; omega
    go_region_held3 (fun w' => w'.cell? ⟨W.heap.size, 0, none⟩ = some (.slice ao an ac) ∧ w'.cell? ⟨W.heap.size, 1, none⟩ = some (.int .i64 (a : Int)) ∧ w'.cell? ⟨W.heap.size, 2, none⟩ = some (.slice lo ln lc) ∧ w'.cell? ⟨W.heap.size, 3, none⟩ = some (.int .i64 t) ∧ Below w1.heap.size w1 w') (first | (with_reducible assumption) | exact five_keep HS.out (Below.refl _ _).drew | exact five_keep (five_keep HS.out (Below.refl _ _).drew) ((Below.refl _ _).alloc (Nat.le_refl _) _) | exact five_keep (five_keep (five_keep HS.out (Below.refl _ _).drew) ((Below.refl _ _).alloc (Nat.le_refl _) _)) HV.out.2.2.2 | exact five_keep (five_keep HS.out (Below.refl _ _).drew) HV.out.2.2.2 | exact five_keep (five_keep (five_keep HS.out (Below.refl _ _).drew) HV.out.2.2.2) ((Below.refl _ _).alloc (Nat.le_refl _) _) | exact five_store (five_store (five_keep (five_keep (five_keep HS.out (Below.refl _ _).drew) ((Below.refl _ _).alloc (Nat.le_refl _) _)) HV.out.2.2.2) hBs (Nat.le_refl _)) hBs (Nat.le_refl _) | exact five_store (five_store (five_keep (five_keep (five_keep HS.out (Below.refl _ _).drew) HV.out.2.2.2) ((Below.refl _ _).alloc (Nat.le_refl _) _)) hBs HV.out.2.2.2.size) hBs HV.out.2.2.2.size) (first | (go_at_call 77; refine (KS0.out w1.drew hd1).mono ?_; rintro e w2 ⟨o, m, c, rfl, HV⟩) | (go_at_call 77; refine (KS0.out (w1.drew.alloc (.cells #[.slice none 0 0, .int .i64 0] 63)) hd2).mono ?_; rintro e w2 ⟨o, m, c, rfl, HV⟩; have hzz := (HV.out.2.2.2.block w1.heap.size (alloc_lt w1 _)).trans (heap_alloc_new w1 _); have r0 := cell_of_block hzz 0; have r1 := cell_of_block hzz 1; have r2 := unfrozen_of_block hzz 0; have r3 := unfrozen_of_block hzz 1))
    all_goals go_wp2_with fail
    all_goals go_meet
    all_goals first | exact ⟨_, m, o, c, rfl, HV.out.1, Lib.hid (boxed_new HV.out.2.1 HV.out.2.2.1 (Below.refl _ _).drew HV.out.2.2.2)⟩ | exact ⟨_, m, o, c, rfl, HV.out.1, Lib.hid (boxed_set (Nat.le_refl _) (alloc_lt w1 (.cells #[.slice none 0 0, .int .i64 0] 63)) hzz HV.out.2.1 HV.out.2.2.1 (((Below.refl _ _).alloc (Nat.le_refl _) _).drew) HV.out.2.2.2)⟩
  case rest =>
    obtain ⟨g7, m7, o7, c7, rfl, hm7, HG⟩ := hcut
    obtain ⟨x1, ex1⟩ : ∃ x, x = wc := ⟨_, rfl⟩
    rw [← ex1] at HG ⊢
    clear ex1 q0 q1 q2 q3 a0 a1 a2 a3 hd1 hd2
    have hB0 := (HG.out.2.2.2.2.block W.heap.size (by have := HS1.out; omega)).trans HB0.out
    have hB1 := (HG.out.2.2.2.2.block (W.heap.size + 1) (by have := HS1.out; omega)).trans HB1.out
    have hbl2 := HBL.out.trans (HG.out.2.2.2.2.mono HBL.out.size)
    have q0 := cell_of_block hB0 0
    have q1 := cell_of_block hB0 1
    have q2 := cell_of_block hB0 2
    have q3 := cell_of_block hB0 3
    have HC0 := Lib.hid hB0
    have HC1 := Lib.hid hB1
    have HBL2 := Lib.hid hbl2
    have hd3 : Below W.heap.size W x1.drew := hbl2.drew
    have hd4 : Below W.heap.size W (x1.drew.alloc (.cells #[.slice none 0 0, .int .i64 0] 63)) := hbl2.drew.alloc hbl2.size _
    have HS2 := Lib.hid (show x1.cell? ⟨W.heap.size, 0, none⟩ = some (.slice ao an ac) ∧ x1.cell? ⟨W.heap.size, 1, none⟩ = some (.int .i64 (a : Int)) ∧ x1.cell? ⟨W.heap.size, 2, none⟩ = some (.slice lo ln lc) ∧ x1.cell? ⟨W.heap.size, 3, none⟩ = some (.int .i64 t) ∧ Below x1.heap.size x1 x1 from ⟨q0, q1, q2, q3, Below.refl _ _⟩)
    have hBs2 : W.heap.size < x1.heap.size := (Array.getElem?_eq_some_iff.1 hB0).1
    clear hB0 hB1 hbl2
    go_upto_region 2 with fail
    go_cut [8] (fun s8 wx => ∃ (g m : Nat) (o : Option Addr) (c : Nat), s8 = .pointer (some ⟨g, 0, none⟩) ∧ FB.length = m ∧ Hid (x1.heap.size ≤ g ∧ wx.heap[g]? = some (.cells #[.slice o m c, .int .i64 t] 63 (0, 0)) ∧ bools wx (.slice o m c) FB ∧ (∀ q, inBlock (.slice o m c) q → x1.heap.size ≤ q ∧ q ≠ g) ∧ Below x1.heap.size x1 wx))
    case first =>
      go_region_held3 (fun w' => w'.cell? ⟨W.heap.size, 0, none⟩ = some (.slice ao an ac) ∧ w'.cell? ⟨W.heap.size, 1, none⟩ = some (.int .i64 (a : Int)) ∧ w'.cell? ⟨W.heap.size, 2, none⟩ = some (.slice lo ln lc) ∧ w'.cell? ⟨W.heap.size, 3, none⟩ = some (.int .i64 t) ∧ Below x1.heap.size x1 w') (first | (with_reducible assumption) | exact five_keep HS2.out (Below.refl _ _).drew | exact five_keep (five_keep HS2.out (Below.refl _ _).drew) ((Below.refl _ _).alloc (Nat.le_refl _) _) | exact five_keep (five_keep HS2.out (Below.refl _ _).drew) hbT | exact five_keep (five_keep (five_keep HS2.out (Below.refl _ _).drew) ((Below.refl _ _).alloc (Nat.le_refl _) _)) hbT | exact five_keep (five_keep (five_keep HS2.out (Below.refl _ _).drew) hbT) ((Below.refl _ _).alloc (Nat.le_refl _) _) | exact five_keep (five_keep (five_keep HS2.out (Below.refl _ _).drew) hbT) HF.out.2.2.2 | exact five_keep (five_keep (five_keep (five_keep HS2.out (Below.refl _ _).drew) ((Below.refl _ _).alloc (Nat.le_refl _) _)) hbT) HF.out.2.2.2 | exact five_keep (five_keep (five_keep (five_keep HS2.out (Below.refl _ _).drew) hbT) ((Below.refl _ _).alloc (Nat.le_refl _) _)) HF.out.2.2.2 | exact five_keep (five_keep (five_keep (five_keep HS2.out (Below.refl _ _).drew) hbT) HF.out.2.2.2) ((Below.refl _ _).alloc (Nat.le_refl _) _) | exact five_store (five_store (five_keep (five_keep (five_keep (five_keep HS2.out (Below.refl _ _).drew) ((Below.refl _ _).alloc (Nat.le_refl _) _)) hbT) HF.out.2.2.2) hBs2 (Nat.le_refl _)) hBs2 (Nat.le_refl _) | exact five_store (five_store (five_keep (five_keep (five_keep (five_keep HS2.out (Below.refl _ _).drew) hbT) ((Below.refl _ _).alloc (Nat.le_refl _) _)) HF.out.2.2.2) hBs2 hbT.size) hBs2 hbT.size | exact five_store (five_store (five_keep (five_keep (five_keep (five_keep HS2.out (Below.refl _ _).drew) hbT) HF.out.2.2.2) ((Below.refl _ _).alloc (Nat.le_refl _) _)) hBs2 (Nat.le_trans hbT.size HF.out.2.2.2.size)) hBs2 (Nat.le_trans hbT.size HF.out.2.2.2.size)) (first | (go_at_call 79; refine (KT0.out x1.drew hd3).mono ?_; rintro e w2 ⟨u2, rfl, hu2, hbT⟩) | (go_at_call 79; refine (KT0.out (x1.drew.alloc (.cells #[.slice none 0 0, .int .i64 0] 63)) hd4).mono ?_; rintro e w2 ⟨u2, rfl, hu2, hbT⟩; have hzT := (hbT.block x1.heap.size (alloc_lt x1 _)).trans (heap_alloc_new x1 _)) | (go_at_call 78; refine (KF0.out u2 w2 (by first | exact hd3.trans (hbT.mono hd3.size) | exact hd4.trans (hbT.mono hd4.size)) hu2).mono ?_; rintro e w3 ⟨o, m, c, rfl, HF⟩; first | (have hzz := (HF.out.2.2.2.block x1.heap.size (Array.getElem?_eq_some_iff.1 hzT).1).trans hzT; have r0 := cell_of_block hzz 0; have r1 := cell_of_block hzz 1; have r2 := unfrozen_of_block hzz 0; have r3 := unfrozen_of_block hzz 1) | skip) | (go_at_call 78; refine (KF0.out u2 (w2.alloc (.cells #[.slice none 0 0, .int .i64 0] 63)) ((hd3.trans (hbT.mono hd3.size)).alloc (Nat.le_trans hd3.size hbT.size) _) (toksIn_on hu2 ((Below.refl _ _).alloc (Nat.le_refl _) _))).mono ?_; rintro e w3 ⟨o, m, c, rfl, HF⟩; have hzz := (HF.out.2.2.2.block w2.heap.size (alloc_lt w2 _)).trans (heap_alloc_new w2 _); have r0 := cell_of_block hzz 0; have r1 := cell_of_block hzz 1; have r2 := unfrozen_of_block hzz 0; have r3 := unfrozen_of_block hzz 1))
      all_goals go_wp2_with fail
      all_goals go_meet
      all_goals first
        | exact ⟨_, m, o, c, rfl, HF.out.1, Lib.hid (boxed_new HF.out.2.1 HF.out.2.2.1 ((Below.refl _ _).drew.trans hbT) HF.out.2.2.2)⟩
        | exact ⟨_, m, o, c, rfl, HF.out.1, Lib.hid (boxed_set (Nat.le_refl _) (Array.getElem?_eq_some_iff.1 hzT).1 hzz HF.out.2.1 HF.out.2.2.1 (((Below.refl _ _).drew.alloc (Nat.le_refl _) _).trans (hbT.mono (Nat.le_of_lt (alloc_lt x1 (.cells #[.slice none 0 0, .int .i64 0] 63))))) HF.out.2.2.2)⟩
        | exact ⟨_, m, o, c, rfl, HF.out.1, Lib.hid (boxed_set (w0 := w2.alloc (.cells #[.slice none 0 0, .int .i64 0] 63)) hbT.size (alloc_lt w2 (.cells #[.slice none 0 0, .int .i64 0] 63)) hzz HF.out.2.1 HF.out.2.2.1 (((Below.refl _ _).drew.trans hbT).alloc hbT.size _) HF.out.2.2.2)⟩
    case rest =>
      obtain ⟨g8, m8, o8, c8, rfl, hm8, HH⟩ := hcut
      obtain ⟨x2, ex2⟩ : ∃ x, x = wc := ⟨_, rfl⟩
      rw [← ex2] at HH ⊢
      clear ex2 q0 q1 q2 q3 hd3 hd4
      have hz1 := HH.out.2.2.2.2.size
      have hg7lt := (Array.getElem?_eq_some_iff.1 HG.out.2.1).1
      have hB0 := (HH.out.2.2.2.2.block W.heap.size hBs2).trans HC0.out
      have hB1 := (HH.out.2.2.2.2.block (W.heap.size + 1) (Array.getElem?_eq_some_iff.1 HC1.out).1).trans HC1.out
      have hB7 := (HH.out.2.2.2.2.block g7 hg7lt).trans HG.out.2.1
      have hB8 := HH.out.2.1
      have V7 : Hid (bools x2 (.slice o7 m7 c7) SB ∧ ∀ q, inBlock (.slice o7 m7 c7) q → w1.heap.size ≤ q) := ⟨listed_on HG.out.2.2.1 HH.out.2.2.2.2, fun q hq => (HG.out.2.2.2.1 q hq).1⟩
      have V8 : Hid (bools x2 (.slice o8 m8 c8) FB ∧ ∀ q, inBlock (.slice o8 m8 c8) q → w1.heap.size ≤ q) := ⟨HH.out.2.2.1, fun q hq => Nat.le_trans HG.out.2.2.2.2.size (HH.out.2.2.2.1 q hq).1⟩
      have HBL3 := Lib.hid (HBL2.out.trans (HH.out.2.2.2.2.mono HBL2.out.size))
      have n7 : ¬ g7 = W.heap.size := fun e => by have := HG.out.1; have := HS1.out; omega
      have n8 : ¬ g8 = W.heap.size := fun e => by have := HH.out.1; omega
      have n7' : ¬ W.heap.size = g7 := fun e => n7 e.symm
      have n8' : ¬ W.heap.size = g8 := fun e => n8 e.symm
      have n7r : ¬ g7 = W.heap.size + 1 := fun e => by have := HG.out.1; have := HS1.out; omega
      have nr : ¬ W.heap.size = W.heap.size + 1 := by omega
      have q2 := cell_of_block hB0 2
      have q3 := cell_of_block hB0 3
      have f2 := unfrozen_of_block hB0 2
      have f3 := unfrozen_of_block hB0 3
      have c80 := cell_of_block hB8 0
      have c81 := cell_of_block hB8 1
      have HD1 := Lib.hid hB1
      have HD7 := Lib.hid hB7
      have HD8 := Lib.hid hB8
      have HD0 : Hid (((x2.setCell ⟨W.heap.size, 2, none⟩ (.slice o8 m8 c8)).setCell ⟨W.heap.size, 3, none⟩ (.int .i64 t)).heap[W.heap.size]? = some (.cells #[.slice ao an ac, .int .i64 (a : Int), .slice o8 m8 c8, .int .i64 t, .bool ov] 65 (0, 0))) := block_setCell (block_setCell hB0 _) _
      have HK3 : Hid (∀ q, q ≠ W.heap.size → ((x2.setCell ⟨W.heap.size, 2, none⟩ (.slice o8 m8 c8)).setCell ⟨W.heap.size, 3, none⟩ (.int .i64 t)).heap[q]? = x2.heap[q]?) := fun q hq => by rw [Below.heap_setCell _ _ _ q hq, Below.heap_setCell _ _ _ q hq]
      have HBL4 := Lib.hid ((HBL3.out.setCell (p := ⟨W.heap.size, 2, none⟩) (Nat.le_refl _) (.slice o8 m8 c8)).setCell (p := ⟨W.heap.size, 3, none⟩) (Nat.le_refl _) (.int .i64 t))
      have hz3 : ((x2.setCell ⟨W.heap.size, 2, none⟩ (.slice o8 m8 c8)).setCell ⟨W.heap.size, 3, none⟩ (.int .i64 t)).heap.size = x2.heap.size := by simp
      clear hB0 hB1 hB7 hB8
      go_upto_region 4 with fail
      obtain ⟨x3, ex3⟩ : ∃ x, x = (x2.setCell ⟨W.heap.size, 2, none⟩ (.slice o8 m8 c8)).setCell ⟨W.heap.size, 3, none⟩ (.int .i64 t) := ⟨_, rfl⟩
      rw [← ex3] at HD0 HK3 HBL4 hz3 ⊢
      clear ex3 q2 q3 f2 f3 c80 c81
      have hB1 := (HK3.out _ (by omega)).trans HD1.out
      have hB7 := (HK3.out _ n7).trans HD7.out
      have hB8 := (HK3.out _ n8).trans HD8.out
      have c70 := cell_of_block hB7 0
      have c71 := cell_of_block hB7 1
      have c80 := cell_of_block hB8 0
      have q0 := cell_of_block HD0.out 0
      have q1 := cell_of_block HD0.out 1
      have q2 := cell_of_block HD0.out 2
      have q3 := cell_of_block HD0.out 3
      have q4 := cell_of_block HD0.out 4
      have f1 := unfrozen_of_block HD0.out 1
      have f2 := unfrozen_of_block HD0.out 2
      have f3 := unfrozen_of_block HD0.out 3
      have HE1 := Lib.hid hB1
      clear hB1 hB7 hB8 HD1 HD7 HD8 n7' n8' n7r HG HH
      have W7 : Hid (bools x3 (.slice o7 m7 c7) SB) := listed_kept V7.out.1 (Nat.le_of_eq hz3.symm) (fun q hq => HK3.out q (fun e => by have := V7.out.2 q hq; have := HS1.out; omega))
      have W8 : Hid (bools x3 (.slice o8 m8 c8) FB) := listed_kept V8.out.1 (Nat.le_of_eq hz3.symm) (fun q hq => HK3.out q (fun e => by have := V8.out.2 q hq; have := HS1.out; omega))
      have HBO : Hid (BO = if m7 < m8 then SB else FB) := by
        show _ = _
        rw [HBK.out, hm7, hm8]
      have HM := Lib.hid (And.intro hm7 hm8)
      clear hm7 hm8 HBK HS2 hBs2 hg7lt hz1
      go_upto_if 37 with fail
      go_cut [1] (fun s1 wx => s1 = .int .i64 (up : Int) ∧ ∃ (o : Option Addr) (m c : Nat), Hid (wx.heap[W.heap.size]? = some (.cells #[.slice ao an ac, .int .i64 (a : Int), .slice o m c, .int .i64 t, .bool ov] 65 (0, 0)) ∧ wx.heap[W.heap.size + 1]? = some (.cells #[.slice none 0 0, .int .i64 0, .slice none 0 0, .int .i64 0, .bool false] 65 (0, 0)) ∧ bools wx (.slice o m c) BO ∧ (∀ q, inBlock (.slice o m c) q → w1.heap.size ≤ q) ∧ Below W.heap.size W wx))
      case first =>
        by_cases hlt' : m7 < m8
        · have hd : decide ((m7 : Int) < (m8 : Int)) = true := decide_eq_true (by omega)
          have hdn : decide (m7 < m8) = true := decide_eq_true hlt'
          go_wp2_with fail
          go_meet
          refine ⟨rfl, o7, m7, c7, Lib.hid ⟨block_setCell (block_setCell HD0.out _) _, ?_, ?_, V7.out.2, (HBL4.out.setCell (p := ⟨W.heap.size, 2, none⟩) (Nat.le_refl _) _).setCell (p := ⟨W.heap.size, 3, none⟩) (Nat.le_refl _) _⟩⟩
          · rw [Below.heap_setCell _ _ _ _ (by show W.heap.size + 1 ≠ W.heap.size; omega), Below.heap_setCell _ _ _ _ (by show W.heap.size + 1 ≠ W.heap.size; omega)]
            exact HE1.out
          · rw [HBO.out, if_pos hlt']
            refine listed_kept W7.out (Nat.le_of_eq (by simp)) (fun q hq => ?_)
            have h1 := V7.out.2 q hq
            have h2 := HS1.out
            rw [Below.heap_setCell _ _ _ q (by show q ≠ W.heap.size; omega), Below.heap_setCell _ _ _ q (by show q ≠ W.heap.size; omega)]
        · have hd : decide ((m7 : Int) < (m8 : Int)) = false := decide_eq_false (by omega)
          have hdn : decide (m7 < m8) = false := decide_eq_false hlt'
          go_wp2_with fail
          go_meet
          exact ⟨rfl, o8, m8, c8, Lib.hid ⟨HD0.out, HE1.out, by rw [HBO.out, if_neg hlt']; exact W8.out, V8.out.2, HBL4.out⟩⟩
      case rest =>
        obtain ⟨rfl, o, m, c, HR⟩ := hcut
        obtain ⟨h0, h1, h2, h3, h4⟩ := HR.out
        clear q0 q1 q2 q3 q4 f1 f2 f3 c70 c71 c80 HD0 HE1 HK3 W7 W8 V7 V8
        have f1 := unfrozen_of_block h0 1
        have hN : Hid ((wc.setCell ⟨W.heap.size, 1, none⟩ (.int .i64 (up : Int))).heap[W.heap.size]? = some (.cells #[.slice ao an ac, .int .i64 (up : Int), .slice o m c, .int .i64 t, .bool ov] 65 (0, 0))) := block_setCell h0 _
        have q1 := cell_of_block h0 1
        have H1 := Lib.hid h1
        have H2 := Lib.hid h2
        have H3 := Lib.hid h3
        have H4 := Lib.hid (h4.setCell (p := ⟨W.heap.size, 1, none⟩) (Nat.le_refl _) (.int .i64 (up : Int)))
        clear h0 h1 h2 h3 h4 HR
        go_upto_region 7 with fail
        obtain ⟨x4, ex4⟩ : ∃ x, x = wc.setCell ⟨W.heap.size, 1, none⟩ (.int .i64 (up : Int)) := ⟨_, rfl⟩
        have hE1 : x4.heap[W.heap.size + 1]? = _ := (by rw [ex4]; exact Below.heap_setCell _ _ _ _ (by show W.heap.size + 1 ≠ W.heap.size; omega) : x4.heap[W.heap.size + 1]? = wc.heap[W.heap.size + 1]?).trans H1.out
        have H5 : Hid (bools x4 (.slice o m c) BO) := listed_kept H2.out (Nat.le_of_eq (by rw [ex4]; simp)) (fun q hq => by have := H3.out q hq; have := HS1.out; rw [ex4]; exact Below.heap_setCell _ _ _ q (by show q ≠ W.heap.size; omega))
        rw [← ex4] at hN H4 ⊢
        clear ex4 q1 f1 H1 H2
        have q0 := cell_of_block hN.out 0
        have q1 := cell_of_block hN.out 1
        have q2 := cell_of_block hN.out 2
        have q3 := cell_of_block hN.out 3
        have q4 := cell_of_block hN.out 4
        have p0 := cell_of_block hE1 0
        have p1 := cell_of_block hE1 1
        have p2 := cell_of_block hE1 2
        have p3 := cell_of_block hE1 3
        have p4 := cell_of_block hE1 4
        have e0 := unfrozen_of_block hE1 0
        have e1 := unfrozen_of_block hE1 1
        have e2 := unfrozen_of_block hE1 2
        have e3 := unfrozen_of_block hE1 3
        have e4 := unfrozen_of_block hE1 4
        clear hE1
        go_wp2_with fail
        refine bodyPost_ret (v := .agg #[.slice ao an ac, .int .i64 (up : Int), .slice o m c, .int .i64 t, .bool ov]) ?_ rfl ⟨_, rfl, ?_, fun q hq => by have := H3.out q hq; have := HS1.out; omega, ?_⟩
        · simp [results, Try.results59, asAddr, Result.andThen, go_sem, p0, p1, p2, p3, p4]
        · refine listed_kept H5.out (Nat.le_of_eq (by simp)) (fun q hq => ?_)
          have h1 := H3.out q hq
          have h2 := HS1.out
          rw [Below.heap_setCell _ _ _ q (by show q ≠ W.heap.size + 1; omega), Below.heap_setCell _ _ _ q (by show q ≠ W.heap.size + 1; omega), Below.heap_setCell _ _ _ q (by show q ≠ W.heap.size + 1; omega), Below.heap_setCell _ _ _ q (by show q ≠ W.heap.size + 1; omega), Below.heap_setCell _ _ _ q (by show q ≠ W.heap.size + 1; omega)]
        · exact ((((H4.out.setCell (p := ⟨W.heap.size + 1, 0, none⟩) (Nat.le_succ _) _).setCell (p := ⟨W.heap.size + 1, 1, none⟩) (Nat.le_succ _) _).setCell (p := ⟨W.heap.size + 1, 2, none⟩) (Nat.le_succ _) _).setCell (p := ⟨W.heap.size + 1, 3, none⟩) (Nat.le_succ _) _).setCell (p := ⟨W.heap.size + 1, 4, none⟩) (Nat.le_succ _) _
end Go.Proofs.Ytefdlidjdmlnaaa.Fx
namespace Go.Proofs.Ytefdlidjdmlnaaa.Fx
open Go Go.RowKit Go.Joins
set_option linter.unusedVariables false
theorem blocksOf_len (all : List Nat) (j : Nat) (h : 4096 * j ≤ all.length) : (blocksOf all j).length ≤ 8 * (all.length + 5 * j) := by
  have := blocksOf_length all j h
  omega
theorem info8' : (Try.prog.info? 5).map (fun i => (i.zero, i.size, i.bytes)) = some (some (.int .u8 0), 1, 1) := by kernel_rfl
theorem row1_shape {w : World} {base : Nat} {e : TypeId} {v : Value} {n : Nat} {xs : List Value} (h : w.ownsRow base e 1 v n xs) : ∃ o cap, v = .slice o n cap := by
  rcases h.2 with ⟨rfl, rfl⟩ | ⟨g, cap, cur, rfl, _⟩
  · exact ⟨none, 0, rfl⟩
  · exact ⟨_, cap, rfl⟩
theorem set5_heap (w : World) (B : Nat) (x0 x1 x2 x3 x4 : Value) (q : Nat) (hq : q ≠ B) : (((((w.setCell ⟨B, 0, none⟩ x0).setCell ⟨B, 1, none⟩ x1).setCell ⟨B, 2, none⟩ x2).setCell ⟨B, 3, none⟩ x3).setCell ⟨B, 4, none⟩ x4).heap[q]? = w.heap[q]? := by
  rw [Below.heap_setCell _ _ _ q hq, Below.heap_setCell _ _ _ q hq, Below.heap_setCell _ _ _ q hq, Below.heap_setCell _ _ _ q hq, Below.heap_setCell _ _ _ q hq]
set_option maxHeartbeats 2000000 in
set_option maxRecDepth 100000 in
theorem rwrite_any (av lv b : Value) (all zs : List Nat) (W : World) (ha : bytesIn W av all) (h8 : ∀ x ∈ all ++ zs, x < 256) (hl : bools W lv (outOf all)) (hb : bytesIn W b zs) (hz : (all ++ zs).length ≤ 1000000) :
    Calls Try.prog 41 #[.agg #[av, .int .i64 ((4096 * fullOf all.length : Nat) : Int), lv, .int .i64 (((outOf all).length / 8 : Nat) : Int), .bool false], b] W fun e w' =>
      ∃ av' lv' u, e = .returned (.tuple #[.agg #[av', .int .i64 ((4096 * fullOf (all ++ zs).length : Nat) : Int), lv', .int .i64 (((outOf (all ++ zs)).length / 8 : Nat) : Int), .bool false], u, .int .i64 0]) ∧ bytesIn w' av' (all ++ zs) ∧ bools w' lv' (outOf (all ++ zs)) ∧ bytesIn w' u (bytesAt (outOf (all ++ zs)) ((outOf all).length / 8) ((outOf (all ++ zs)).length / 8 - (outOf all).length / 8)) ∧
        (∀ q, inBlock av' q → W.heap.size ≤ q) ∧ (∀ q, inBlock lv' q → lv' = lv ∨ W.heap.size ≤ q) ∧ (∀ q, inBlock u q → W.heap.size ≤ q) ∧ Below W.heap.size W w' ∧ w'.ownsRow W.heap.size 5 1 u ((outOf (all ++ zs)).length / 8 - (outOf all).length / 8) ((bytesAt (outOf (all ++ zs)) ((outOf all).length / 8) ((outOf (all ++ zs)).length / 8 - (outOf all).length / 8)).map byteVal) := by
  obtain ⟨ao, ac, rfl⟩ := listed_length ha
  obtain ⟨lo, lc, rfl⟩ := listed_length hl
  obtain ⟨bo, bc, rfl⟩ := listed_length hb
  have HA := Lib.hid ha
  have HL := Lib.hid hl
  have HBZ := Lib.hid hb
  have H8 := Lib.hid h8
  obtain ⟨A, eA⟩ : ∃ A, 4096 * fullOf all.length = A := ⟨_, rfl⟩
  obtain ⟨T, eT⟩ : ∃ A, (outOf all).length / 8 = A := ⟨_, rfl⟩
  obtain ⟨n, en⟩ : ∃ A, all.length = A := ⟨_, rfl⟩
  obtain ⟨m, em⟩ : ∃ A, zs.length = A := ⟨_, rfl⟩
  obtain ⟨ln, eln⟩ : ∃ A, (outOf all).length = A := ⟨_, rfl⟩
  have eN : (all ++ zs).length = n + m := by rw [List.length_append, en, em]
  have HZ : Hid (n + m ≤ 1000000) := by
    show _ ≤ _
    rw [eN] at hz
    exact hz
  have EA := Lib.hid eA
  have ET := Lib.hid eT
  have EN := Lib.hid en
  have EM := Lib.hid em
  have ELN := Lib.hid eln
  have ENM := Lib.hid eN
  rw [eA, eT]
  rw [en] at HA ⊢
  rw [em] at HBZ ⊢
  rw [eln] at HL ⊢
  clear eA eT en em eln eN
  obtain ⟨w1, e1, hs1, hB0, hB1, hbl⟩ := two_blocks5 W 65 (.slice ao n ac) (.int .i64 (A : Int)) (.slice lo ln lc) (.int .i64 (T : Int)) (.bool false) (.slice none 0 0) (.int .i64 0) (.slice none 0 0) (.int .i64 0) (.bool false)
  clear ha hl hb h8 hz
  have q0 := cell_of_block hB0 0
  have q1 := cell_of_block hB0 1
  have q2 := cell_of_block hB0 2
  have q3 := cell_of_block hB0 3
  have q4 := cell_of_block hB0 4
  have f0 := unfrozen_of_block hB0 0
  have HB0 := Lib.hid hB0
  have HB1 := Lib.hid hB1
  have HBL := Lib.hid hbl
  have HS1 := Lib.hid hs1
  have HR1 := Lib.hid (listed_on HA.out hbl)
  clear hB0 hB1 hbl hs1
  go_enter Try.func41, Try.ntmps41
  go_upto_region 4 with fail
  rw [← e1]
  clear e1
  go_wp2_with (at_builtin; refine wpList_append_listed (c := byteVal) rfl _ _ 36 rfl w1.heap.size 5 (.int .u8 0) Try.underlying36 info8' rfl (fun _ => rfl) (.slice none 0 0) 0 [] rfl (World.ownsRow_nil _ _ _ _) _ all rfl HR1.out (by rw [EN.out]; have := HZ.out; omega) (Nat.le_refl _) ?_)
  intro v2 w2 hown hgrow
  rw [EN.out] at hown
  have hb2 : Below w1.heap.size w1 w2 := (Below.refl _ _).grown hgrow (Nat.le_refl _) (fun q hq => by simp [Value.ownBlock] at hq)
  obtain ⟨o2, c2, rfl⟩ := row1_shape hown
  have HO2 := Lib.hid hown
  have HB2 := Lib.hid hb2
  have hq0 := (hb2.block W.heap.size (by have := HS1.out; omega)).trans HB0.out
  clear q0 q1 q2 q3 q4 f0 hown hgrow hb2
  have q0 := cell_of_block hq0 0
  have f0 := unfrozen_of_block hq0 0
  have HR2 : Hid (bytesIn w2 (.slice bo m bc) zs) := listed_on HBZ.out (HBL.out.trans (HB2.out.mono HBL.out.size))
  go_upto_region 5 with fail
  go_wp2_with (at_builtin; refine wpList_append_listed (c := byteVal) rfl _ _ 36 rfl w1.heap.size 5 (.int .u8 0) Try.underlying36 info8' rfl (fun _ => rfl) (.slice o2 n c2) n all rfl HO2.out _ zs rfl HR2.out (by rw [EM.out]; have := HZ.out; omega) HB2.out.size ?_)
  intro v3 w3 hown hgrow
  have hb3 : Below w1.heap.size w2 w3 := (Below.refl _ _).grown hgrow HB2.out.size (fun q hq => (HO2.out.lt q hq).1)
  rw [EM.out] at hown
  obtain ⟨o3, c3, rfl⟩ := row1_shape hown
  have hq3 := (hb3.block W.heap.size (by have := HS1.out; omega)).trans hq0
  have hr3 := (hb3.block (W.heap.size + 1) (by have := HS1.out; omega)).trans ((HB2.out.block (W.heap.size + 1) (by have := HS1.out; omega)).trans HB1.out)
  have HO3 := Lib.hid hown
  have HB3 := Lib.hid hb3
  clear q0 f0 hown hgrow hb3 hq0
  have q0 := cell_of_block hq3 0
  have f0 := unfrozen_of_block hq3 0
  have hn0 : Hid ((w3.setCell ⟨W.heap.size, 0, none⟩ (.slice o3 (n + m) c3)).heap[W.heap.size]? = some (.cells #[.slice o3 (n + m) c3, .int .i64 (A : Int), .slice lo ln lc, .int .i64 (T : Int), .bool false] 65 (0, 0))) := block_setCell hq3 _
  obtain ⟨N, eNN⟩ : ∃ N, n + m = N := ⟨_, rfl⟩
  rw [eNN] at HO3 hn0 HZ ENM ⊢
  have HNN := Lib.hid eNN
  clear eNN
  go_upto_block 0 with fail
  clear f0 q0
  obtain ⟨x, ex⟩ : ∃ x, x = w3.setCell ⟨W.heap.size, 0, none⟩ (.slice o3 N c3) := ⟨_, rfl⟩
  have HBX : Hid (Below W.heap.size W x) := by
    rw [ex]
    exact ((HBL.out.trans (HB2.out.mono HBL.out.size)).trans (HB3.out.mono HBL.out.size)).setCell (p := ⟨W.heap.size, 0, none⟩) (Nat.le_refl _) _
  have HX1 : Hid (x.heap[W.heap.size + 1]? = some (.cells #[.slice none 0 0, .int .i64 0, .slice none 0 0, .int .i64 0, .bool false] 65 (0, 0))) := by
    show _ = _
    rw [ex, Below.heap_setCell _ _ _ _ (by show W.heap.size + 1 ≠ W.heap.size; omega)]
    exact hr3
  have HIN : Hid (∀ q, inBlock (.slice o3 N c3) q → w1.heap.size ≤ q) := by
    rintro q ⟨of, nn, cc, h, _⟩
    exact (HO3.out.lt q (by rw [h]; rfl)).1
  have HXL : Hid (bytesIn x (.slice o3 N c3) (all ++ zs)) := by
    have h0 : listed byteVal w3 (.slice o3 N c3) (all ++ zs) := own_listed (by rw [List.map_append]; exact HO3.out)
    rw [ex]
    refine listed_kept h0 (by simp) (fun q hq => Below.heap_setCell _ _ _ _ ?_)
    have := HIN.out q hq
    have := HS1.out
    show q ≠ W.heap.size
    omega
  rw [← ex] at hn0 ⊢
  have HXB : Hid (bools x (.slice lo ln lc) (outOf all)) := listed_on HL.out HBX.out
  have HLI : Hid (∀ q, inBlock (.slice lo ln lc) q → q < W.heap.size) := fun q hq => bools_in HL.out hq
  have hN := HZ.out
  have HAF : Hid (4096 * fullOf n = A ∧ 4096 * fullOf n ≤ n ∧ A ≤ N ∧ blocksOf (all ++ zs) (fullOf n) = outOf all) := by
    have h1 := EA.out
    rw [EN.out] at h1
    have h2 : 4096 * fullOf n ≤ n := by unfold fullOf; omega
    refine ⟨h1, h2, by have := HNN.out; omega, ?_⟩
    rw [blocksOf_local _ _ _ (by rw [EN.out]; exact h2)]
    unfold outOf
    rw [EN.out]
  have hAN := HAF.out.2.2.1
  have HXA := Lib.hid hn0
  clear ex hq3 hr3 hn0
  go_wp2_with fail
  go_loopw [25] (fun _ wr => ∃ (a k l : Nat) (o : Option Addr) (c : Nat), a ≤ N ∧ Hid (4096 * k = a ∧ fullOf n ≤ k ∧ (k = fullOf n ∨ a < N)) ∧ Hid ((blocksOf (all ++ zs) k).length = l) ∧ Hid (wr.heap[W.heap.size]? = some (.cells #[.slice o3 N c3, .int .i64 (a : Int), .slice o l c, .int .i64 (T : Int), .bool false] 65 (0, 0))) ∧ Hid (wr.heap[W.heap.size + 1]? = some (.cells #[.slice none 0 0, .int .i64 0, .slice none 0 0, .int .i64 0, .bool false] 65 (0, 0))) ∧ Hid (bytesIn wr (.slice o3 N c3) (all ++ zs) ∧ bools wr (.slice o l c) (blocksOf (all ++ zs) k) ∧ (∀ q, inBlock (.slice o l c) q → q ≠ W.heap.size ∧ q ≠ W.heap.size + 1 ∧ (.slice o l c = Value.slice lo ln lc ∨ W.heap.size ≤ q)) ∧ Below W.heap.size W wr)) (fun _ wr => N - (intOf ((wr.cell? ⟨W.heap.size, 1, none⟩).getD (.int .i64 0))).toNat)
  case atStart =>
    refine ⟨A, fullOf n, ln, lo, lc, hAN, Lib.hid ⟨HAF.out.1, Nat.le_refl _, .inl rfl⟩, ?_, HXA, HX1, Lib.hid ⟨HXL.out, ?_, fun q hq => ?_, HBX.out⟩⟩
    · show _ = _
      rw [HAF.out.2.2.2]
      exact ELN.out
    · rw [HAF.out.2.2.2]
      exact HXB.out
    · have := HLI.out q hq
      exact ⟨by omega, by omega, .inl rfl⟩
  case round =>
    obtain ⟨a, k, l, o, c, haN, HK, HLL, HC0, HC1, HV⟩ := hrel
    have q0 := cell_of_block HC0.out 0
    have q1 := cell_of_block HC0.out 1
    have q2 := cell_of_block HC0.out 2
    have q3 := cell_of_block HC0.out 3
    have q4 := cell_of_block HC0.out 4
    have hw1 : IntKind.i64.wrap ((N : Int) - (a : Int)) = (N : Int) - (a : Int) := by rw [IntKind.wrap_i64]; omega
    by_cases hgo : a + 4096 < N
    · have d1 : decide ((4096 : Int) < (N : Int) - (a : Int)) = true := decide_eq_true (by omega)
      obtain ⟨b, eb⟩ : ∃ b, a + 4096 = b := ⟨_, rfl⟩
      have hab : (a : Int) + 4096 = (b : Int) := by omega
      have hk1 : Hid (4096 * (k + 1) = b ∧ blocksOf (all ++ zs) (k + 1) = blockOf (blocksOf (all ++ zs) k) (all ++ zs) a b 0) := by
        have h1 := HK.out.1
        refine ⟨by omega, ?_⟩
        rw [blocksOf, h1, show 4096 * (k + 1) = b by omega]
      have hll : (blocksOf (all ++ zs) k).length ≤ 549755813888 := by
        have h1 := HK.out.1
        have h2 := blocksOf_length (all ++ zs) k (by rw [ENM.out]; omega)
        have h3 : k ≤ 1000000 := by omega
        omega
      have KB := wblock_any (.slice o3 N c3) (.slice o l c) (all ++ zs) (blocksOf (all ++ zs) k) a b 0 T false wr HV.out.1 H8.out HV.out.2.1 (by omega) (by rw [ENM.out]; omega) (by omega) (by rw [ENM.out]; omega) hll (by omega)
      rw [← hk1.out.2] at KB
      have hkb := hk1.out.1
      have hbN : b < N := by omega
      have hB := (Array.getElem?_eq_some_iff.1 HC0.out).1
      have hB1 := (Array.getElem?_eq_some_iff.1 HC1.out).1
      have HBB := Lib.hid (And.intro hB hB1)
      have HKB := Lib.hid hkb
      clear hk1 hll hkb hB hB1 eb
      go_wp2_with fail
      go_at_call 59
      refine KB.mono ?_
      rintro e w4 ⟨u, rfl, v1, v2, v3⟩
      obtain ⟨o', c', rfl⟩ := listed_length v1
      obtain ⟨l', el'⟩ : ∃ l', (blocksOf (all ++ zs) (k + 1)).length = l' := ⟨_, rfl⟩
      rw [el'] at v1 v2 ⊢
      have HL' := Lib.hid el'
      have V1 := Lib.hid v1
      have V2 := Lib.hid v2
      have V3 := Lib.hid v3
      have hD0 := (v3.block W.heap.size HBB.out.1).trans HC0.out
      have HD0 := Lib.hid hD0
      have f0 := unfrozen_of_block hD0 0
      have f1 := unfrozen_of_block hD0 1
      have f2 := unfrozen_of_block hD0 2
      have f3 := unfrozen_of_block hD0 3
      have f4 := unfrozen_of_block hD0 4
      have g0 := cell_of_block hD0 0
      have g1 := cell_of_block hD0 1
      have g2 := cell_of_block hD0 2
      have g3 := cell_of_block hD0 3
      have g4 := cell_of_block hD0 4
      clear v1 v2 v3 hD0 el' KB
      go_wp2_with fail
      go_roundw
      case rel =>
        refine ⟨b, k + 1, l', o', c', by omega, Lib.hid ⟨HKB.out, by have := HK.out.2.1; omega, .inr hbN⟩, HL', Lib.hid (block_setCell (block_setCell (block_setCell (block_setCell (block_setCell HD0.out _) _) _) _) _), ?_, Lib.hid ⟨?_, ?_, fun q hq => ?_, ?_⟩⟩
        · show _ = _
          rw [set5_heap _ _ _ _ _ _ _ _ (by omega)]
          exact (V3.out.block _ HBB.out.2).trans HC1.out
        · refine listed_kept (listed_on HV.out.1 V3.out) (by simp) (fun q hq => set5_heap _ _ _ _ _ _ _ _ ?_)
          have := HIN.out q hq
          have := HS1.out
          omega
        · refine listed_kept V1.out (by simp) (fun q hq => set5_heap _ _ _ _ _ _ _ _ ?_)
          have := V2.out q hq
          have := HBB.out.1
          omega
        · have h1 := V2.out q hq
          have h2 := HBB.out
          exact ⟨by omega, by omega, .inr (by omega)⟩
        · exact (((((HV.out.2.2.2.trans (V3.out.mono HV.out.2.2.2.size)).setCell (p := ⟨W.heap.size, 0, none⟩) (Nat.le_refl _) _).setCell (p := ⟨W.heap.size, 1, none⟩) (Nat.le_refl _) _).setCell (p := ⟨W.heap.size, 2, none⟩) (Nat.le_refl _) _).setCell (p := ⟨W.heap.size, 3, none⟩) (Nat.le_refl _) _).setCell (p := ⟨W.heap.size, 4, none⟩) (Nat.le_refl _) _
      case measure =>
        rw [q1, cell_of_block (block_setCell (block_setCell (block_setCell (block_setCell (block_setCell HD0.out _) _) _) _) _) 1]
        simp [intOf]
        omega
    · have d1 : decide ((4096 : Int) < (N : Int) - (a : Int)) = false := decide_eq_false (by omega)
      have hkN : k = fullOf N := by
        have h1 := HK.out
        have h2 := HAF.out
        have h3 := HNN.out
        unfold fullOf at h1 h2 ⊢
        omega
      have HOUT : Hid (blocksOf (all ++ zs) k = outOf (all ++ zs) ∧ 4096 * fullOf N = a) := by
        refine ⟨?_, by have := HK.out.1; rw [← hkN]; exact this⟩
        unfold outOf
        rw [ENM.out, hkN]
      rw [HOUT.out.1] at HLL HV
      have hlT : 8 * T ≤ (outOf (all ++ zs)).length := by
        have h1 := ET.out
        obtain ⟨y, hy⟩ := outOf_more all zs
        rw [hy, List.length_append]
        omega
      have hlm : (outOf (all ++ zs)).length ≤ 1099511627000 := by
        have h1 := HK.out.1
        have h2 := blocksOf_length (all ++ zs) k (by rw [ENM.out]; omega)
        have h3 : k ≤ 1000000 := by omega
        rw [HOUT.out.1] at h2
        omega
      have KT := rtake_own (.slice o l c) (outOf (all ++ zs)) T wr HV.out.2.1 hlm hlT
      clear hkN hlT hlm
      have HBB := Lib.hid (And.intro (Array.getElem?_eq_some_iff.1 HC0.out).1 (Array.getElem?_eq_some_iff.1 HC1.out).1)
      go_wp2_with fail
      go_at_call 60
      refine KT.mono ?_
      rintro e w5 ⟨u, rfl, v1, v2, v4, v3⟩
      obtain ⟨uo, uc, rfl⟩ := listed_length v1
      obtain ⟨ul, eul⟩ : ∃ x, (bytesAt (outOf (all ++ zs)) T ((outOf (all ++ zs)).length / 8 - T)).length = x := ⟨_, rfl⟩
      obtain ⟨T', eT'⟩ : ∃ x, (outOf (all ++ zs)).length / 8 = x := ⟨_, rfl⟩
      rw [eul] at v1 v2 v4 ⊢
      rw [eT'] at v1 v4 ⊢
      have V4 := Lib.hid v4
      have V1 := Lib.hid v1
      have V2 := Lib.hid v2
      have V3 := Lib.hid v3
      have ET' := Lib.hid eT'
      have HD0 := Lib.hid ((v3.block W.heap.size HBB.out.1).trans HC0.out)
      have HD1 := Lib.hid ((v3.block (W.heap.size + 1) HBB.out.2).trans HC1.out)
      have f2 := unfrozen_of_block HD0.out 2
      have f3 := unfrozen_of_block HD0.out 3
      clear v1 v2 v3 v4 eT' eul KT q0 q1 q2 q3 q4
      go_upto_region 9 with fail
      obtain ⟨x6, ex6⟩ : ∃ x, x = w5.alloc (.cells #[.slice o l c, .int .i64 (T' : Int)] 63) := ⟨_, rfl⟩
      have HB6 : Hid (Below w5.heap.size w5 x6) := by
        show Below _ _ _
        rw [ex6]
        exact (Below.refl _ _).alloc (Nat.le_refl _) _
      have hA9 : x6.heap[w5.heap.size]? = some (.cells #[.slice o l c, .int .i64 (T' : Int)] 63 (0, 0)) := by
        rw [ex6]
        show (w5.heap.push _)[w5.heap.size]? = _
        simp
      have O6 : Hid (x6.ownsRow wr.heap.size 5 1 (.slice uo ul uc) (T' - T) ((bytesAt (outOf (all ++ zs)) T (T' - T)).map byteVal)) := by
        show World.ownsRow _ _ _ _ _ _ _
        rw [ex6]
        exact V4.out.alloc _
      have HWR : Hid (W.heap.size + 1 < wr.heap.size) := HBB.out.2
      rw [← ex6]
      clear ex6 f2 f3 V4
      have hlt0 : W.heap.size < w5.heap.size := Nat.lt_of_lt_of_le HBB.out.1 V3.out.size
      have hlt1 : W.heap.size + 1 < w5.heap.size := Nat.lt_of_lt_of_le HBB.out.2 V3.out.size
      have hA0 := (HB6.out.block W.heap.size hlt0).trans HD0.out
      have hA1 := (HB6.out.block (W.heap.size + 1) hlt1).trans HD1.out
      have L6 : Hid (bytesIn x6 (.slice o3 N c3) (all ++ zs)) := listed_on (listed_on HV.out.1 V3.out) HB6.out
      have M6 : Hid (bools x6 (.slice o l c) (outOf (all ++ zs))) := listed_on (listed_on HV.out.2.1 V3.out) HB6.out
      have U6 : Hid (bytesIn x6 (.slice uo ul uc) (bytesAt (outOf (all ++ zs)) T (T' - T))) := listed_on V1.out HB6.out
      have HB6W : Hid (Below W.heap.size W x6) := (HV.out.2.2.2.trans (V3.out.mono HV.out.2.2.2.size)).trans (HB6.out.mono (Nat.le_of_lt hlt0))
      have HU : Hid (∀ q, inBlock (.slice uo ul uc) q → W.heap.size + 1 < q) := fun q hq => Nat.lt_of_lt_of_le HBB.out.2 (V2.out q hq)
      obtain ⟨g9, eg9⟩ : ∃ g, w5.heap.size = g := ⟨_, rfl⟩
      rw [eg9] at hA9 hlt0 hlt1 ⊢
      have n9 : ¬ g9 = W.heap.size := by omega
      have n9' : ¬ W.heap.size = g9 := by omega
      have c90 := cell_of_block hA9 0
      have c91 := cell_of_block hA9 1
      have f2 := unfrozen_of_block hA0 2
      have f3 := unfrozen_of_block hA0 3
      have q2 := cell_of_block hA0 2
      have q3 := cell_of_block hA0 3
      have HA1 := Lib.hid hA1
      have HA0 : Hid (((x6.setCell ⟨W.heap.size, 2, none⟩ (.slice o l c)).setCell ⟨W.heap.size, 3, none⟩ (.int .i64 (T' : Int))).heap[W.heap.size]? = some (.cells #[.slice o3 N c3, .int .i64 (a : Int), .slice o l c, .int .i64 (T' : Int), .bool false] 65 (0, 0))) := block_setCell (block_setCell hA0 _) _
      clear hA9 hA0 hA1 eg9 V1 V2 V3 HB6 HD0 HD1 HBB hlt0 hlt1
      go_upto_region 10 with fail
      obtain ⟨x7, ex7⟩ : ∃ x, x = (x6.setCell ⟨W.heap.size, 2, none⟩ (.slice o l c)).setCell ⟨W.heap.size, 3, none⟩ (.int .i64 (T' : Int)) := ⟨_, rfl⟩
      have HK7 : Hid (∀ q, q ≠ W.heap.size → x7.heap[q]? = x6.heap[q]?) := fun q hq => by rw [ex7, Below.heap_setCell _ _ _ q hq, Below.heap_setCell _ _ _ q hq]
      have hs7 : x7.heap.size = x6.heap.size := by rw [ex7]; simp
      have HB7 : Hid (Below W.heap.size W x7) := by
        show Below _ _ _
        rw [ex7]
        exact (HB6W.out.setCell (p := ⟨W.heap.size, 2, none⟩) (Nat.le_refl _) _).setCell (p := ⟨W.heap.size, 3, none⟩) (Nat.le_refl _) _
      have O7 : Hid (x7.ownsRow wr.heap.size 5 1 (.slice uo ul uc) (T' - T) ((bytesAt (outOf (all ++ zs)) T (T' - T)).map byteVal)) := by
        show World.ownsRow _ _ _ _ _ _ _
        rw [ex7]
        have hlt := HWR.out
        exact ownsRow_setCell_below (ownsRow_setCell_below O6.out (by show W.heap.size < _; omega) _) (by show W.heap.size < _; omega) _
      rw [← ex7] at HA0 ⊢
      clear ex7 f2 f3 q2 q3 c90 c91 n9 n9'
      have hE1 := (HK7.out (W.heap.size + 1) (by omega)).trans HA1.out
      have HI3 : Hid (∀ q, inBlock (.slice o3 N c3) q → W.heap.size + 1 < q) := fun q hq => by
        have := HIN.out q hq
        have := HS1.out
        omega
      have L7 : Hid (bytesIn x7 (.slice o3 N c3) (all ++ zs)) := listed_kept L6.out (Nat.le_of_eq hs7.symm) (fun q hq => HK7.out q (by have := HI3.out q hq; omega))
      have M7 : Hid (bools x7 (.slice o l c) (outOf (all ++ zs))) := listed_kept M6.out (Nat.le_of_eq hs7.symm) (fun q hq => HK7.out q (HV.out.2.2.1 q hq).1)
      have U7 : Hid (bytesIn x7 (.slice uo ul uc) (bytesAt (outOf (all ++ zs)) T (T' - T))) := listed_kept U6.out (Nat.le_of_eq hs7.symm) (fun q hq => HK7.out q (by have := HU.out q hq; omega))
      have q0 := cell_of_block HA0.out 0
      have q1 := cell_of_block HA0.out 1
      have q2 := cell_of_block HA0.out 2
      have q3 := cell_of_block HA0.out 3
      have q4 := cell_of_block HA0.out 4
      have p0 := cell_of_block hE1 0
      have p1 := cell_of_block hE1 1
      have p2 := cell_of_block hE1 2
      have p3 := cell_of_block hE1 3
      have p4 := cell_of_block hE1 4
      have e0 := unfrozen_of_block hE1 0
      have e1 := unfrozen_of_block hE1 1
      have e2 := unfrozen_of_block hE1 2
      have e3 := unfrozen_of_block hE1 3
      have e4 := unfrozen_of_block hE1 4
      clear hE1 hs7
      go_wp2_with fail
      refine bodyPost_ret (v := .tuple #[.agg #[.slice o3 N c3, .int .i64 (a : Int), .slice o l c, .int .i64 (T' : Int), .bool false], .slice uo ul uc, .int .i64 0]) ?_ rfl ⟨.slice o3 N c3, .slice o l c, .slice uo ul uc, by rw [ENM.out, HOUT.out.2, ET'.out], ?_, ?_, ?_, fun q hq => by have := HI3.out q hq; omega, fun q hq => (HV.out.2.2.1 q hq).2.2, fun q hq => by have := HU.out q hq; omega, ?_, ?_⟩
      · simp [results, Try.results41, asAddr, Result.andThen, go_sem, p0, p1, p2, p3, p4]
      · exact listed_kept L7.out (by simp) (fun q hq => set5_heap _ _ _ _ _ _ _ _ (by have := HI3.out q hq; omega))
      · exact listed_kept M7.out (by simp) (fun q hq => set5_heap _ _ _ _ _ _ _ _ (HV.out.2.2.1 q hq).2.1)
      · rw [ET'.out]
        exact listed_kept U7.out (by simp) (fun q hq => set5_heap _ _ _ _ _ _ _ _ (by have := HU.out q hq; omega))
      · exact ((((HB7.out.setCell (p := ⟨W.heap.size + 1, 0, none⟩) (Nat.le_succ _) _).setCell (p := ⟨W.heap.size + 1, 1, none⟩) (Nat.le_succ _) _).setCell (p := ⟨W.heap.size + 1, 2, none⟩) (Nat.le_succ _) _).setCell (p := ⟨W.heap.size + 1, 3, none⟩) (Nat.le_succ _) _).setCell (p := ⟨W.heap.size + 1, 4, none⟩) (Nat.le_succ _) _
      · rw [ET'.out]
        have hlt := HWR.out
        exact World.ownsRow.mono (ownsRow_setCell_below (ownsRow_setCell_below (ownsRow_setCell_below (ownsRow_setCell_below (ownsRow_setCell_below O7.out hlt _) hlt _) hlt _) hlt _) hlt _) (by omega)
end Go.Proofs.Ytefdlidjdmlnaaa.Fx
namespace Go.Proofs.Ytefdlidjdmlnaaa.Fx
open Go Go.RowKit Go.Joins
set_option linter.unusedVariables false
set_option maxHeartbeats 2000000 in
set_option maxRecDepth 100000 in
theorem rend_any (av lv : Value) (all : List Nat) (W : World) (ha : bytesIn W av all) (h8 : ∀ x ∈ all, x < 256) (hl : bools W lv (outOf all)) (hz : all.length ≤ 1000000) :
    Calls Try.prog 43 #[.agg #[av, .int .i64 ((4096 * fullOf all.length : Nat) : Int), lv, .int .i64 (((outOf all).length / 8 : Nat) : Int), .bool false]] W fun e w' =>
      ∃ o1 n1 c1 x1 o2 n2 c2 x2 u, e = .returned (.tuple #[.agg #[.slice o1 n1 c1, .int .i64 x1, .slice o2 n2 c2, .int .i64 x2, .bool true], u, .int .i64 0]) ∧ bytesIn w' u (bytesAt (endOf all) ((outOf all).length / 8) ((endOf all).length / 8 - (outOf all).length / 8)) ∧ (∀ q, inBlock u q → W.heap.size ≤ q) ∧ Below W.heap.size W w' ∧ av = .slice o1 n1 c1 := by
  obtain ⟨ao, ac, rfl⟩ := listed_length ha
  obtain ⟨lo, lc, rfl⟩ := listed_length hl
  have HA := Lib.hid ha
  have HL := Lib.hid hl
  have H8 := Lib.hid h8
  obtain ⟨A, eA⟩ : ∃ A, 4096 * fullOf all.length = A := ⟨_, rfl⟩
  obtain ⟨T, eT⟩ : ∃ A, (outOf all).length / 8 = A := ⟨_, rfl⟩
  have hAB : Hid (A ≤ all.length ∧ all.length - A ≤ 65535 ∧ endOf all = aligned (blockOf (outOf all) all A all.length 1)) := by
    have hh : 4096 * fullOf all.length ≤ all.length ∧ all.length - 4096 * fullOf all.length ≤ 65535 := by unfold fullOf; omega
    refine ⟨by omega, by omega, ?_⟩
    unfold endOf outOf
    rw [eA]
  have hlen : Hid ((outOf all).length ≤ 549755813888 ∧ (blockOf (outOf all) all A all.length 1).length ≤ 1099511627000 ∧ (endOf all).length ≤ 1099511627000 ∧ 8 * T ≤ (endOf all).length) := by
    obtain ⟨y, hy⟩ := endOf_more all
    obtain ⟨h1, h2⟩ := endOf_length all
    have h3 : (endOf all).length = (outOf all).length + y.length := by rw [hy, List.length_append]
    have hf : fullOf all.length ≤ 1000000 := by unfold fullOf; omega
    have h4 : (blockOf (outOf all) all A all.length 1).length ≤ (endOf all).length := by
      rw [hAB.out.2.2]
      unfold aligned
      rw [List.length_append]
      omega
    refine ⟨by omega, by omega, by omega, by omega⟩
  obtain ⟨n, en⟩ : ∃ A, all.length = A := ⟨_, rfl⟩
  obtain ⟨ln, eln⟩ : ∃ A, (outOf all).length = A := ⟨_, rfl⟩
  have EN := Lib.hid en
  have KB := fun w (hb : Below W.heap.size W w) => wblock_any (.slice ao all.length ac) (.slice lo (outOf all).length lc) all (outOf all) A all.length 1 (T : Int) false w (listed_on ha hb) h8 (listed_on hl hb) hAB.out.1 (Nat.le_refl _) hAB.out.2.1 (by omega) hlen.out.1 (by omega)
  have HKB := Lib.hid KB
  rw [eA, eT]
  rw [en] at HA HKB ⊢
  rw [eln] at HL HKB ⊢
  obtain ⟨w1, e1, hs1, hB0, hB1, hbl⟩ := two_blocks5 W 65 (.slice ao n ac) (.int .i64 (A : Int)) (.slice lo ln lc) (.int .i64 (T : Int)) (.bool false) (.slice none 0 0) (.int .i64 0) (.slice none 0 0) (.int .i64 0) (.bool false)
  clear ha hl h8 hz eA eT en eln KB
  have q0 := cell_of_block hB0 0
  have q1 := cell_of_block hB0 1
  have q2 := cell_of_block hB0 2
  have q3 := cell_of_block hB0 3
  have q4 := cell_of_block hB0 4
  have HB0 := Lib.hid hB0
  have HB1 := Lib.hid hB1
  have HBL := Lib.hid hbl
  have HS1 := Lib.hid hs1
  have KB1 := HKB.out w1 hbl
  have KB1' := Lib.hid KB1
  clear hB0 hB1 hbl hs1 KB1
  go_enter Try.func43, Try.ntmps43
  go_upto_region 3 with fail
  rw [← e1]
  clear e1
  go_wp2_with fail
  go_at_call 59
  refine KB1'.out.mono ?_
  rintro e w4 ⟨u, rfl, v1, v2, v3⟩
  obtain ⟨o', c', rfl⟩ := listed_length v1
  obtain ⟨L, eL⟩ : ∃ L, blockOf (outOf all) all A n 1 = L := ⟨_, rfl⟩
  have EL : Hid (endOf all = aligned L) := by
    have h := hAB.out.2.2
    rw [EN.out, eL] at h
    exact h
  have ELL : Hid (L.length ≤ 1099511627000) := by
    have h := hlen.out.2.1
    rw [EN.out, eL] at h
    exact h
  rw [eL] at v1 v2 ⊢
  obtain ⟨l', el'⟩ : ∃ l', L.length = l' := ⟨_, rfl⟩
  rw [el'] at v1 v2 ⊢
  have V1 := Lib.hid v1
  have V2 := Lib.hid v2
  have V3 := Lib.hid v3
  have hD0 := (v3.block W.heap.size (by have := HS1.out; omega)).trans HB0.out
  have hD1 := (v3.block (W.heap.size + 1) (by have := HS1.out; omega)).trans HB1.out
  have HD0 := Lib.hid hD0
  have HD1 := Lib.hid hD1
  have f0 := unfrozen_of_block hD0 0
  have f1 := unfrozen_of_block hD0 1
  have f2 := unfrozen_of_block hD0 2
  have f3 := unfrozen_of_block hD0 3
  have f4 := unfrozen_of_block hD0 4
  have g0 := cell_of_block hD0 0
  have g1 := cell_of_block hD0 1
  have g2 := cell_of_block hD0 2
  have g3 := cell_of_block hD0 3
  have g4 := cell_of_block hD0 4
  clear v1 v2 v3 hD0 hD1 el' KB1' eL q0 q1 q2 q3 q4
  go_upto_region 4 with fail
  have hBs : Hid (W.heap.size < w4.heap.size ∧ W.heap.size + 1 < w4.heap.size) := ⟨by have := HS1.out; have := V3.out.size; omega, by have := HS1.out; have := V3.out.size; omega⟩
  obtain ⟨x, ex⟩ : ∃ x, x = ((((w4.setCell ⟨W.heap.size, 0, none⟩ (.slice ao n ac)).setCell ⟨W.heap.size, 1, none⟩ (.int .i64 (n : Int))).setCell ⟨W.heap.size, 2, none⟩ (.slice o' l' c')).setCell ⟨W.heap.size, 3, none⟩ (.int .i64 (T : Int))).setCell ⟨W.heap.size, 4, none⟩ (.bool false) := ⟨_, rfl⟩
  have hX0 : x.heap[W.heap.size]? = some (.cells #[.slice ao n ac, .int .i64 (n : Int), .slice o' l' c', .int .i64 (T : Int), .bool false] 65 (0, 0)) := by
    rw [ex]
    exact block_setCell (block_setCell (block_setCell (block_setCell (block_setCell HD0.out _) _) _) _) _
  have hX1 : x.heap[W.heap.size + 1]? = some (.cells #[.slice none 0 0, .int .i64 0, .slice none 0 0, .int .i64 0, .bool false] 65 (0, 0)) := by
    rw [ex, set5_heap _ _ _ _ _ _ _ _ (by omega)]
    exact HD1.out
  have HXS : Hid (x.heap.size = w4.heap.size) := by
    show _ = _
    rw [ex]
    simp
  have HXB : Hid (bools x (.slice o' l' c') L) := by
    rw [ex]
    refine listed_kept V1.out (by simp) (fun q hq => set5_heap _ _ _ _ _ _ _ _ ?_)
    have := V2.out q hq
    have := HS1.out
    omega
  have HXW : Hid (Below W.heap.size W x) := by
    show Below _ _ _
    rw [ex]
    exact (((((HBL.out.trans (V3.out.mono HBL.out.size)).setCell (p := ⟨W.heap.size, 0, none⟩) (Nat.le_refl _) _).setCell (p := ⟨W.heap.size, 1, none⟩) (Nat.le_refl _) _).setCell (p := ⟨W.heap.size, 2, none⟩) (Nat.le_refl _) _).setCell (p := ⟨W.heap.size, 3, none⟩) (Nat.le_refl _) _).setCell (p := ⟨W.heap.size, 4, none⟩) (Nat.le_refl _) _
  have HUB : Hid (∀ q, inBlock (.slice o' l' c') q → W.heap.size + 1 < q) := fun q hq => by
    have := V2.out q hq
    have := HS1.out
    omega
  rw [← ex]
  clear ex f0 f1 f2 f3 f4 g0 g1 g2 g3 g4
  have HX0 := Lib.hid hX0
  have HX1 := Lib.hid hX1
  have g2 := cell_of_block hX0 2
  have g3 := cell_of_block hX0 3
  clear hX0 hX1
  go_wp2_with fail
  go_at_call 61
  refine (rwalign_any (.slice o' l' c') L (T : Int) x HXB.out ELL.out).mono ?_
  rintro e w5 ⟨u5, rfl, v1, v2, v3⟩
  rw [← EL.out] at v1
  obtain ⟨o5, c5, rfl⟩ := listed_length v1
  obtain ⟨l5, el5⟩ : ∃ l5, (endOf all).length = l5 := ⟨_, rfl⟩
  rw [el5] at v1 v2 ⊢
  have EL5 := Lib.hid el5
  have HW5 : Hid (Below W.heap.size W w5) := HXW.out.trans (v3.mono HXW.out.size)
  have hE0 := (v3.block W.heap.size (by have := HXS.out; have := hBs.out; omega)).trans HX0.out
  have hE1 := (v3.block (W.heap.size + 1) (by have := HXS.out; have := hBs.out; omega)).trans HX1.out
  have V15 := Lib.hid v1
  have HUB5 : Hid (∀ q, inBlock (.slice o5 l5 c5) q → W.heap.size + 1 < q) := fun q hq => by
    rcases v2 q hq with h | h
    · exact HUB.out q (by rw [← h]; exact hq)
    · have := HXS.out
      have := hBs.out
      omega
  have HBS5 : Hid (W.heap.size + 1 < w5.heap.size) := by
    have := HXS.out
    have := hBs.out
    have := v3.size
    show _ < _
    omega
  have HE0 := Lib.hid hE0
  have HE1 := Lib.hid hE1
  clear g2 g3 v1 v2 v3 el5
  have f2 := unfrozen_of_block hE0 2
  have f3 := unfrozen_of_block hE0 3
  have f4 := unfrozen_of_block hE0 4
  have g2 := cell_of_block hE0 2
  have g3 := cell_of_block hE0 3
  have g4 := cell_of_block hE0 4
  clear hE0 hE1
  go_upto_region 6 with fail
  obtain ⟨y, ey⟩ : ∃ y, y = ((w5.setCell ⟨W.heap.size, 2, none⟩ (.slice o5 l5 c5)).setCell ⟨W.heap.size, 3, none⟩ (.int .i64 (T : Int))).setCell ⟨W.heap.size, 4, none⟩ (.bool true) := ⟨_, rfl⟩
  have hY0 : y.heap[W.heap.size]? = some (.cells #[.slice ao n ac, .int .i64 (n : Int), .slice o5 l5 c5, .int .i64 (T : Int), .bool true] 65 (0, 0)) := by
    rw [ey]
    exact block_setCell (block_setCell (block_setCell HE0.out _) _) _
  have hY1 : y.heap[W.heap.size + 1]? = some (.cells #[.slice none 0 0, .int .i64 0, .slice none 0 0, .int .i64 0, .bool false] 65 (0, 0)) := by
    rw [ey, Below.heap_setCell _ _ _ _ (by show W.heap.size + 1 ≠ W.heap.size; omega), Below.heap_setCell _ _ _ _ (by show W.heap.size + 1 ≠ W.heap.size; omega), Below.heap_setCell _ _ _ _ (by show W.heap.size + 1 ≠ W.heap.size; omega)]
    exact HE1.out
  have HYS : Hid (y.heap.size = w5.heap.size) := by
    show _ = _
    rw [ey]
    simp
  have HYW : Hid (Below W.heap.size W y) := by
    show Below _ _ _
    rw [ey]
    exact ((HW5.out.setCell (p := ⟨W.heap.size, 2, none⟩) (Nat.le_refl _) _).setCell (p := ⟨W.heap.size, 3, none⟩) (Nat.le_refl _) _).setCell (p := ⟨W.heap.size, 4, none⟩) (Nat.le_refl _) _
  have HYB : Hid (bools y (.slice o5 l5 c5) (endOf all)) := by
    rw [ey]
    refine listed_kept V15.out (by simp) (fun q hq => ?_)
    have h := HUB5.out q hq
    rw [Below.heap_setCell _ _ _ _ (by show q ≠ W.heap.size; omega), Below.heap_setCell _ _ _ _ (by show q ≠ W.heap.size; omega), Below.heap_setCell _ _ _ _ (by show q ≠ W.heap.size; omega)]
  rw [← ey]
  clear ey f2 f3 f4 g2 g3 g4
  have HY0 := Lib.hid hY0
  have HY1 := Lib.hid hY1
  have g2 := cell_of_block hY0 2
  have g3 := cell_of_block hY0 3
  clear hY0 hY1
  have KT := rtake_any (.slice o5 l5 c5) (endOf all) T y HYB.out hlen.out.2.2.1 hlen.out.2.2.2
  go_wp2_with fail
  go_at_call 60
  refine KT.mono ?_
  rintro e w6 ⟨u, rfl, v1, v2, v3⟩
  obtain ⟨uo, uc, rfl⟩ := listed_length v1
  obtain ⟨ul, eul⟩ : ∃ z, (bytesAt (endOf all) T ((endOf all).length / 8 - T)).length = z := ⟨_, rfl⟩
  obtain ⟨T', eT'⟩ : ∃ z, (endOf all).length / 8 = z := ⟨_, rfl⟩
  rw [eul] at v1 v2 ⊢
  have ET' := Lib.hid eT'
  rw [eT'] at v1 ⊢
  have V16 := Lib.hid v1
  have V26 := Lib.hid v2
  have V36 := Lib.hid v3
  have HF0 := Lib.hid ((v3.block W.heap.size (by have := HYS.out; have := HBS5.out; omega)).trans HY0.out)
  have HF1 := Lib.hid ((v3.block (W.heap.size + 1) (by have := HYS.out; have := HBS5.out; omega)).trans HY1.out)
  clear v1 v2 v3 eul eT' KT g2 g3
  go_upto_region 7 with fail
  obtain ⟨x6, ex6⟩ : ∃ x, x = w6.alloc (.cells #[.slice o5 l5 c5, .int .i64 (T' : Int)] 63) := ⟨_, rfl⟩
  have HB6 : Hid (Below w6.heap.size w6 x6) := by
    show Below _ _ _
    rw [ex6]
    exact (Below.refl _ _).alloc (Nat.le_refl _) _
  have hA9 : x6.heap[w6.heap.size]? = some (.cells #[.slice o5 l5 c5, .int .i64 (T' : Int)] 63 (0, 0)) := by
    rw [ex6]
    show (w6.heap.push _)[w6.heap.size]? = _
    simp
  rw [← ex6]
  clear ex6
  have hlt1 : W.heap.size + 1 < w6.heap.size := by
    have := HYS.out
    have := HBS5.out
    have := V36.out.size
    omega
  have hA0 := (HB6.out.block W.heap.size (by omega)).trans HF0.out
  have hA1 := (HB6.out.block (W.heap.size + 1) hlt1).trans HF1.out
  have U6 : Hid (bytesIn x6 (.slice uo ul uc) (bytesAt (endOf all) T (T' - T))) := listed_on V16.out HB6.out
  have HB6W : Hid (Below W.heap.size W x6) := (HYW.out.trans (V36.out.mono HYW.out.size)).trans (HB6.out.mono (by omega))
  have HU : Hid (∀ q, inBlock (.slice uo ul uc) q → W.heap.size + 1 < q) := fun q hq => by
    have h := V26.out q hq
    have := HYS.out
    have := HBS5.out
    omega
  obtain ⟨g9, eg9⟩ : ∃ g, w6.heap.size = g := ⟨_, rfl⟩
  rw [eg9] at hA9 hlt1 ⊢
  have n9 : ¬ g9 = W.heap.size := by omega
  have n9' : ¬ W.heap.size = g9 := by omega
  have c90 := cell_of_block hA9 0
  have c91 := cell_of_block hA9 1
  have f2 := unfrozen_of_block hA0 2
  have f3 := unfrozen_of_block hA0 3
  have q2 := cell_of_block hA0 2
  have q3 := cell_of_block hA0 3
  have HA1 := Lib.hid hA1
  have HA0 : Hid (((x6.setCell ⟨W.heap.size, 2, none⟩ (.slice o5 l5 c5)).setCell ⟨W.heap.size, 3, none⟩ (.int .i64 (T' : Int))).heap[W.heap.size]? = some (.cells #[.slice ao n ac, .int .i64 (n : Int), .slice o5 l5 c5, .int .i64 (T' : Int), .bool true] 65 (0, 0))) := block_setCell (block_setCell hA0 _) _
  clear hA9 hA0 hA1 eg9 V16 V26 V36 HB6 HF0 HF1 hlt1
  go_upto_region 8 with fail
  obtain ⟨x7, ex7⟩ : ∃ x, x = (x6.setCell ⟨W.heap.size, 2, none⟩ (.slice o5 l5 c5)).setCell ⟨W.heap.size, 3, none⟩ (.int .i64 (T' : Int)) := ⟨_, rfl⟩
  have HK7 : Hid (∀ q, q ≠ W.heap.size → x7.heap[q]? = x6.heap[q]?) := fun q hq => by rw [ex7, Below.heap_setCell _ _ _ q hq, Below.heap_setCell _ _ _ q hq]
  have hs7 : x7.heap.size = x6.heap.size := by rw [ex7]; simp
  have HB7 : Hid (Below W.heap.size W x7) := by
    show Below _ _ _
    rw [ex7]
    exact (HB6W.out.setCell (p := ⟨W.heap.size, 2, none⟩) (Nat.le_refl _) _).setCell (p := ⟨W.heap.size, 3, none⟩) (Nat.le_refl _) _
  rw [← ex7] at HA0 ⊢
  clear ex7 f2 f3 q2 q3 c90 c91 n9 n9'
  have hE1 := (HK7.out (W.heap.size + 1) (by omega)).trans HA1.out
  have U7 : Hid (bytesIn x7 (.slice uo ul uc) (bytesAt (endOf all) T (T' - T))) := listed_kept U6.out (Nat.le_of_eq hs7.symm) (fun q hq => HK7.out q (by have := HU.out q hq; omega))
  have q0 := cell_of_block HA0.out 0
  have q1 := cell_of_block HA0.out 1
  have q2 := cell_of_block HA0.out 2
  have q3 := cell_of_block HA0.out 3
  have q4 := cell_of_block HA0.out 4
  have p0 := cell_of_block hE1 0
  have p1 := cell_of_block hE1 1
  have p2 := cell_of_block hE1 2
  have p3 := cell_of_block hE1 3
  have p4 := cell_of_block hE1 4
  have e0 := unfrozen_of_block hE1 0
  have e1 := unfrozen_of_block hE1 1
  have e2 := unfrozen_of_block hE1 2
  have e3 := unfrozen_of_block hE1 3
  have e4 := unfrozen_of_block hE1 4
  clear hE1 hs7
  go_wp2_with fail
  refine bodyPost_ret (v := .tuple #[.agg #[.slice ao n ac, .int .i64 (n : Int), .slice o5 l5 c5, .int .i64 (T' : Int), .bool true], .slice uo ul uc, .int .i64 0]) ?_ rfl ⟨_, _, _, _, _, _, _, _, .slice uo ul uc, rfl, ?_, fun q hq => by have := HU.out q hq; omega, ?_, by rfl⟩
  · simp [results, Try.results43, asAddr, Result.andThen, go_sem, p0, p1, p2, p3, p4]
  · have h := listed_kept U7.out (w' := ((((x7.setCell ⟨W.heap.size + 1, 0, none⟩ (.slice ao n ac)).setCell ⟨W.heap.size + 1, 1, none⟩ (.int .i64 (n : Int))).setCell ⟨W.heap.size + 1, 2, none⟩ (.slice o5 l5 c5)).setCell ⟨W.heap.size + 1, 3, none⟩ (.int .i64 (T' : Int))).setCell ⟨W.heap.size + 1, 4, none⟩ (.bool true)) (by simp) (fun q hq => set5_heap _ _ _ _ _ _ _ _ (by have := HU.out q hq; omega))
    rw [ET'.out]
    exact h
  · exact ((((HB7.out.setCell (p := ⟨W.heap.size + 1, 0, none⟩) (Nat.le_succ _) _).setCell (p := ⟨W.heap.size + 1, 1, none⟩) (Nat.le_succ _) _).setCell (p := ⟨W.heap.size + 1, 2, none⟩) (Nat.le_succ _) _).setCell (p := ⟨W.heap.size + 1, 3, none⟩) (Nat.le_succ _) _).setCell (p := ⟨W.heap.size + 1, 4, none⟩) (Nat.le_succ _) _
end Go.Proofs.Ytefdlidjdmlnaaa.Fx
