/-
  A writer of zlib at work beside the document's own. The conditions stand in each.
-/
import Derived.Test.YtbfpbmnnlckldaaDoorZlT
import Derived.Test.YtbfpbmnnlckldaaDoorZlY
import Derived.Test.YtbfpbmnnlckldaaDoorDeflRun
import Derived.Laws.OwnMore
namespace Go.Proofs.YtbfpbmnnlckldaaDoor.Fx
open Go Go.RowKit Go.Joins
set_option linter.unusedVariables false
/-- The document's own writer in a box. -/
abbrev zref (av lv : Value) (A T : Nat) (bg : Bool) : Array Value := #[av, .int .i64 (A : Int), lv, .int .i64 (T : Int), .bool false, .bool bg]
/-- What a writer that holds these bytes, and the document's own with these in box g, own; nothing else is theirs. -/
structure ZTell (W : World) (v : Value) (g : Nat) (p : List Nat) (bp : Bool) (r : List Nat) (br : Bool) (O : Nat → Prop) (av lv : Value) (w : World) : Prop where
  zw : isZW w v p bp O
  fresh : ∀ b, O b → W.heap.size ≤ b
  gW : W.heap.size ≤ g
  gO : ¬ O g
  box : w.heap[g]? = some (.cells (zref av lv (4096 * fullOf r.length) ((outOf r).length / 8) br) 40 (0, 0))
  all : bytesIn w av r
  out : bools w lv (outOf r)
  avF : ∀ q, inBlock av q → W.heap.size ≤ q ∧ q ≠ g ∧ ¬ O q
  lvF : ∀ q, inBlock lv q → W.heap.size ≤ q ∧ q ≠ g ∧ ¬ O q
  below : Below W.heap.size W w
theorem ZTell.glt {W : World} {v : Value} {g : Nat} {p r : List Nat} {bp br : Bool} {O : Nat → Prop} {av lv : Value} {w : World} (h : ZTell W v g p bp r br O av lv w) : g < w.heap.size := (Array.getElem?_eq_some_iff.1 h.box).1
def ZTellIs (W : World) (v : Value) (g : Nat) (p : List Nat) (bp : Bool) (w : World) : Prop := ∃ O av lv, ZTell W v g p bp p bp O av lv w
theorem ztell_start {W w : World} {v : Value} {O : Nat → Prop} (h1 : isZW w v [] false O) (h2 : ∀ b, O b → W.heap.size ≤ b) (h3 : Below W.heap.size W w) :
    ZTellIs W v w.heap.size [] false (w.alloc (.cells zzero 40)) := by
  have hs := h3.size
  have hlt := isZW_lt h1
  exact ⟨O, .slice none 0 0, .slice none 0 0, {
    zw := isZW_keep h1 ((Below.refl _ _).alloc (Nat.le_refl _) _).size (fun k hk => ((Below.refl w.heap.size w).alloc (Nat.le_refl _) _).block k (hlt k hk))
    fresh := h2
    gW := hs
    gO := fun h => Nat.lt_irrefl _ (hlt _ h)
    box := heap_alloc_new w _
    all := listed_none _ _
    out := listed_none _ _
    avF := fun q hq => absurd hq (not_nilBlock q)
    lvF := fun q hq => absurd hq (not_nilBlock q)
    below := h3.alloc hs _ }⟩
/-- Its bytes are written. -/
theorem ztell_write {W w : World} {v bv : Value} {g : Nat} {p r zs : List Nat} {bp br : Bool} {O : Nat → Prop} {av lv : Value} (h : ZTell W v g p bp r br O av lv w) (hb : bytesIn w bv zs) (hbW : ∀ b, inBlock bv b → b < W.heap.size) (h8 : ∀ x ∈ p ++ zs, x < 256) (hl : (p ++ zs).length ≤ 100000000) :
    Calls Tryd.prog 10 #[v, bv] w fun e w' => ∃ u O', e = .returned (.tuple #[u, .int .i64 0]) ∧ Hid (ZTell W v g (p ++ zs) true r br O' av lv w' ∧ bytesIn w' u (headOf bp ++ nextOf p zs) ∧ ∀ q, inBlock u q → q ≠ g) := by
  refine (zwrite_code w v bv p zs bp O h.zw hb h8 (fun b hb ho => by have := hbW b hb; have := h.fresh b ho; omega) hl).mono ?_
  rintro e w' ⟨u, O', rfl, j1, j2, j3, j4, j5, _, _⟩
  have hno : ∀ q, q < w.heap.size → ¬ O q → ¬ O' q := fun q hq ho h' => (j4 q h').elim ho (fun h => by omega)
  have hblk : ∀ q, q < w.heap.size → ¬ O q → w'.heap[q]? = w.heap[q]? := fun q hq ho => j5.block q hq ho
  have hg := h.glt
  have hbs := h.below.size
  refine ⟨u, O', rfl, {
    zw := j3
    fresh := fun b hb => (j4 b hb).elim (h.fresh b) (fun h' => Nat.le_trans hbs h')
    gW := h.gW
    gO := hno g hg h.gO
    box := (hblk g hg h.gO).trans h.box
    all := listed_past h.all j5 (fun b hb => (h.avF b hb).2.2)
    out := listed_past h.out j5 (fun b hb => (h.lvF b hb).2.2)
    avF := fun q hq => ⟨(h.avF q hq).1, (h.avF q hq).2.1, hno q (inBlock_lt h.all hq) (h.avF q hq).2.2⟩
    lvF := fun q hq => ⟨(h.lvF q hq).1, (h.lvF q hq).2.1, hno q (bools_in h.out hq) (h.lvF q hq).2.2⟩
    below := past_below h.below j5 h.fresh }, j1, fun q hq e => ?_⟩
  have := (j2 q hq).1
  omega
/-- The document's own writer has written them, too: its box is filled anew. -/
theorem ztell_read {W w w' w'' : World} {v : Value} {g : Nat} {p r r' : List Nat} {br : Bool} {O : Nat → Prop} {av lv av' lv' : Value} (h : ZTell W v g p true r br O av lv w)
    (hb : Below w.heap.size w w') (ha : bytesIn w' av' r') (hl : bools w' lv' (outOf r')) (hav : ∀ q, inBlock av' q → w.heap.size ≤ q) (hlv : ∀ q, inBlock lv' q → lv' = lv ∨ w.heap.size ≤ q)
    (hs : w''.heap.size = w'.heap.size) (hB : Below W.heap.size W w'') (hbox : w''.heap[g]? = some (.cells (zref av' lv' (4096 * fullOf r'.length) ((outOf r').length / 8) true) 40 (0, 0))) (ho : ∀ q, q ≠ g → w''.heap[q]? = w'.heap[q]?) : ZTell W v g p true r' true O av' lv' w'' := by
  have hg := h.glt
  have hlt := isZW_lt h.zw
  have hWs := h.below.size
  have hsz := hb.size
  have hlv2 : ∀ q, inBlock lv' q → W.heap.size ≤ q ∧ q ≠ g ∧ ¬ O q := fun q hq => by
    rcases hlv q hq with h1 | h1
    · rw [h1] at hq
      exact ⟨(h.lvF q hq).1, (h.lvF q hq).2.1, (h.lvF q hq).2.2⟩
    · exact ⟨by omega, by omega, fun ho' => by have := hlt q ho'; omega⟩
  have hav2 : ∀ q, inBlock av' q → W.heap.size ≤ q ∧ q ≠ g ∧ ¬ O q := fun q hq => by
    have h1 := hav q hq
    exact ⟨by omega, by omega, fun ho' => by have := hlt q ho'; omega⟩
  exact {
    zw := isZW_keep h.zw (by omega) (fun k hk => (ho k (fun e => h.gO (e ▸ hk))).trans (hb.block k (hlt k hk)))
    fresh := h.fresh
    gW := h.gW
    gO := h.gO
    box := hbox
    all := listed_kept ha (by omega) (fun b hb' => ho b (hav2 b hb').2.1)
    out := listed_kept hl (by omega) (fun b hb' => ho b (hlv2 b hb').2.1)
    avF := hav2
    lvF := hlv2
    below := hB }
/-- Behind End: the document's own in box g, and what End told. -/
theorem ztell_end {W w : World} {v : Value} {g : Nat} {p : List Nat} {bp : Bool} (h : ZTellIs W v g p bp w) (h8 : ∀ x ∈ p, x < 256) (hl : p.length ≤ 1000000) :
    Calls Tryd.prog 11 #[v] w fun e w' => ∃ u av lv, e = .returned (.tuple #[u, .int .i64 0]) ∧ Hid (w'.heap[g]? = some (.cells (zref av lv (4096 * fullOf p.length) ((outOf p).length / 8) bp) 40 (0, 0)) ∧ bytesIn w' av p ∧ bools w' lv (outOf p) ∧ bytesIn w' u (headOf bp ++ restOf p ++ fourOf (sumOf p)) ∧ Below W.heap.size W w') := by
  obtain ⟨O, av, lv, h⟩ := h
  refine (zend_code w v p bp O h.zw h8 (by omega)).mono ?_
  rintro e w' ⟨u, O', rfl, j1, _, _, _, j5⟩
  exact ⟨u, av, lv, rfl, (j5.block g h.glt h.gO).trans h.box, listed_past h.all j5 (fun b hb => (h.avF b hb).2.2), listed_past h.out j5 (fun b hb => (h.lvF b hb).2.2), j1, past_below h.below j5 h.fresh⟩
/-! ### The boxes of a region that draws its order -/
theorem seven_keep {B a b : Nat} {x0 x1 x2 x3 x4 x5 y : Value} {w1 w w' : World} (h : w.cell? ⟨B, 0, none⟩ = some x0 ∧ w.cell? ⟨B, 1, none⟩ = some x1 ∧ w.cell? ⟨B, 2, none⟩ = some x2 ∧ w.cell? ⟨B, 3, none⟩ = some x3 ∧ w.cell? ⟨B, 4, none⟩ = some x4 ∧ w.cell? ⟨B, 5, none⟩ = some x5 ∧ w.cell? ⟨a, b, none⟩ = some y ∧ Below w1.heap.size w1 w) (hb : Below w.heap.size w w') :
    w'.cell? ⟨B, 0, none⟩ = some x0 ∧ w'.cell? ⟨B, 1, none⟩ = some x1 ∧ w'.cell? ⟨B, 2, none⟩ = some x2 ∧ w'.cell? ⟨B, 3, none⟩ = some x3 ∧ w'.cell? ⟨B, 4, none⟩ = some x4 ∧ w'.cell? ⟨B, 5, none⟩ = some x5 ∧ w'.cell? ⟨a, b, none⟩ = some y ∧ Below w1.heap.size w1 w' := by
  obtain ⟨c0, c1, c2, c3, c4, c5, cy, hw⟩ := h
  have hlt : B < w.heap.size := World.block_lt_of_cell? w ⟨B, 0, none⟩ c0
  have hla : a < w.heap.size := World.block_lt_of_cell? w ⟨a, b, none⟩ cy
  exact ⟨(hb.cell hlt).trans c0, (hb.cell hlt).trans c1, (hb.cell hlt).trans c2, (hb.cell hlt).trans c3, (hb.cell hlt).trans c4, (hb.cell hlt).trans c5, (hb.cell hla).trans cy, hw.trans (hb.mono hw.size)⟩
theorem seven_store {B a b g i : Nat} {x0 x1 x2 x3 x4 x5 y u : Value} {w1 w : World} (h : w.cell? ⟨B, 0, none⟩ = some x0 ∧ w.cell? ⟨B, 1, none⟩ = some x1 ∧ w.cell? ⟨B, 2, none⟩ = some x2 ∧ w.cell? ⟨B, 3, none⟩ = some x3 ∧ w.cell? ⟨B, 4, none⟩ = some x4 ∧ w.cell? ⟨B, 5, none⟩ = some x5 ∧ w.cell? ⟨a, b, none⟩ = some y ∧ Below w1.heap.size w1 w) (hB : B < w1.heap.size) (hA : a < w1.heap.size) (hg : w1.heap.size ≤ g) :
    (w.setCell ⟨g, i, none⟩ u).cell? ⟨B, 0, none⟩ = some x0 ∧ (w.setCell ⟨g, i, none⟩ u).cell? ⟨B, 1, none⟩ = some x1 ∧ (w.setCell ⟨g, i, none⟩ u).cell? ⟨B, 2, none⟩ = some x2 ∧ (w.setCell ⟨g, i, none⟩ u).cell? ⟨B, 3, none⟩ = some x3 ∧ (w.setCell ⟨g, i, none⟩ u).cell? ⟨B, 4, none⟩ = some x4 ∧ (w.setCell ⟨g, i, none⟩ u).cell? ⟨B, 5, none⟩ = some x5 ∧ (w.setCell ⟨g, i, none⟩ u).cell? ⟨a, b, none⟩ = some y ∧ Below w1.heap.size w1 (w.setCell ⟨g, i, none⟩ u) := by
  obtain ⟨c0, c1, c2, c3, c4, c5, cy, hw⟩ := h
  have hk : ∀ j, (w.setCell ⟨g, i, none⟩ u).cell? ⟨B, j, none⟩ = w.cell? ⟨B, j, none⟩ := fun j => World.cell?_of_block (a := ⟨B, j, none⟩) (Below.heap_setCell _ _ _ B (by show B ≠ g; omega))
  have hk2 : (w.setCell ⟨g, i, none⟩ u).cell? ⟨a, b, none⟩ = w.cell? ⟨a, b, none⟩ := World.cell?_of_block (a := ⟨a, b, none⟩) (Below.heap_setCell _ _ _ a (by show a ≠ g; omega))
  exact ⟨(hk 0).trans c0, (hk 1).trans c1, (hk 2).trans c2, (hk 3).trans c3, (hk 4).trans c4, (hk 5).trans c5, hk2.trans cy, hw.setCell (p := ⟨g, i, none⟩) hg _⟩
/-- What the document's Write leaves: the box it is laid in made behind, or before. -/
def ZLaid (w1 : World) (g : Nat) (av lv lv0 y : Value) (A T : Nat) (r X : List Nat) (w : World) : Prop :=
  w1.heap.size ≤ g ∧ w.heap[g]? = some (.cells (zref av lv A T true) 40 (0, 0)) ∧ bytesIn w av r ∧ bools w lv (outOf r) ∧ bytesIn w y X ∧ (∀ q, inBlock av q → w1.heap.size ≤ q ∧ q ≠ g) ∧ (∀ q, inBlock lv q → (lv = lv0 ∨ w1.heap.size ≤ q) ∧ q ≠ g) ∧ (∀ q, inBlock y q → w1.heap.size ≤ q ∧ q ≠ g) ∧ Below w1.heap.size w1 w
theorem zlaid_new {w1 w0 w2 : World} {av lv lv0 y : Value} {A T : Nat} {r X : List Nat} (ha : bytesIn w2 av r) (hl : bools w2 lv (outOf r)) (hy : bytesIn w2 y X) (fa : ∀ q, inBlock av q → w0.heap.size ≤ q) (fl : ∀ q, inBlock lv q → lv = lv0 ∨ w0.heap.size ≤ q) (fy : ∀ q, inBlock y q → w0.heap.size ≤ q) (h0 : Below w1.heap.size w1 w0) (hb : Below w0.heap.size w0 w2) :
    ZLaid w1 w2.heap.size av lv lv0 y A T r X (w2.alloc (.cells (zref av lv A T true) 40)) := by
  have h1 := h0.size
  have h2 := hb.size
  have hn : Below w2.heap.size w2 (w2.alloc (.cells (zref av lv A T true) 40)) := (Below.refl _ _).alloc (Nat.le_refl _) _
  exact ⟨by omega, heap_alloc_new w2 _, listed_on ha hn, listed_on hl hn, listed_on hy hn, fun q hq => ⟨by have := fa q hq; omega, by have := inBlock_lt ha hq; omega⟩, fun q hq => ⟨(fl q hq).imp id (fun h => by omega), by have := bools_in hl hq; omega⟩, fun q hq => ⟨by have := fy q hq; omega, by have := inBlock_lt hy hq; omega⟩, (h0.trans (hb.mono h1)).alloc (by omega) _⟩
theorem zlaid_set {w1 w0 w2 : World} {g : Nat} {av lv lv0 y z0 z1 z2 z3 z4 z5 : Value} {A T : Nat} {r X : List Nat} (hg : w1.heap.size ≤ g) (hg2 : g < w0.heap.size) (hz : w2.heap[g]? = some (.cells #[z0, z1, z2, z3, z4, z5] 40 (0, 0))) (hlv0 : ∀ q, inBlock lv0 q → q < w1.heap.size) (ha : bytesIn w2 av r) (hl : bools w2 lv (outOf r)) (hy : bytesIn w2 y X) (fa : ∀ q, inBlock av q → w0.heap.size ≤ q) (fl : ∀ q, inBlock lv q → lv = lv0 ∨ w0.heap.size ≤ q) (fy : ∀ q, inBlock y q → w0.heap.size ≤ q) (h0 : Below w1.heap.size w1 w0) (hb : Below w0.heap.size w0 w2) :
    ZLaid w1 g av lv lv0 y A T r X ((((((w2.setCell ⟨g, 0, none⟩ av).setCell ⟨g, 1, none⟩ (.int .i64 (A : Int))).setCell ⟨g, 2, none⟩ lv).setCell ⟨g, 3, none⟩ (.int .i64 (T : Int))).setCell ⟨g, 4, none⟩ (.bool false)).setCell ⟨g, 5, none⟩ (.bool true)) := by
  have h1 := h0.size
  have h2 := hb.size
  have flg : ∀ q, inBlock lv q → q ≠ g := fun q hq => by
    rcases fl q hq with h | h
    · rw [h] at hq
      have := hlv0 q hq
      omega
    · omega
  refine ⟨hg, set6_block hz _ _ _ _ _ _, listed_kept ha (Nat.le_of_eq (by simp)) (fun q hq => set6_heap _ _ _ _ _ _ _ _ q ?_), listed_kept hl (Nat.le_of_eq (by simp)) (fun q hq => set6_heap _ _ _ _ _ _ _ _ q (flg q hq)), listed_kept hy (Nat.le_of_eq (by simp)) (fun q hq => set6_heap _ _ _ _ _ _ _ _ q ?_), fun q hq => ⟨?_, ?_⟩, fun q hq => ⟨(fl q hq).imp id (fun h => by omega), flg q hq⟩, fun q hq => ⟨?_, ?_⟩, ?_⟩
  · have := fa q hq; omega
  · have := fy q hq; omega
  · have := fa q hq; omega
  · have := fa q hq; omega
  · have := fy q hq; omega
  · have := fy q hq; omega
  · exact set6_below (h0.trans (hb.mono h1)) hg _ _ _ _ _ _
end Go.Proofs.YtbfpbmnnlckldaaDoor.Fx
