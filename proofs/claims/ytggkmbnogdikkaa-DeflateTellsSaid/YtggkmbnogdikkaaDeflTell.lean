/-
  A writer at work beside the document's own. The conditions stand in each.
-/
import Derived.Test.YtggkmbnogdikkaaDeflRun
import Derived.Test.YtggkmbnogdikkaaDeflE
import Derived.Laws.OwnMore
namespace Go.Proofs.Ytggkmbnogdikkaa.Fx
open Go Go.RowKit Go.Joins
set_option linter.unusedVariables false
/-- The document's own writer in a box. -/
abbrev refCells (av lv : Value) (A T : Nat) : Array Value := #[av, .int .i64 (A : Int), lv, .int .i64 (T : Int), .bool false]
/-- What a writer that holds these bytes, and the document's own with these in box g, own; nothing else is theirs. -/
structure TellAt (W : World) (v : Value) (g : Nat) (p r : List Nat) (O : Nat → Prop) (av lv : Value) (w : World) : Prop where
  dw : isDW w v p O
  fresh : ∀ b, O b → W.heap.size ≤ b
  gW : W.heap.size ≤ g
  gO : ¬ O g
  box : w.heap[g]? = some (.cells (refCells av lv (4096 * fullOf r.length) ((outOf r).length / 8)) 36 (0, 0))
  all : bytesIn w av r
  out : bools w lv (outOf r)
  avF : ∀ q, inBlock av q → W.heap.size ≤ q ∧ q ≠ g ∧ ¬ O q
  lvF : ∀ q, inBlock lv q → W.heap.size ≤ q ∧ q ≠ g ∧ ¬ O q
  below : Below W.heap.size W w
theorem TellAt.glt {W : World} {v : Value} {g : Nat} {p r : List Nat} {O : Nat → Prop} {av lv : Value} {w : World} (h : TellAt W v g p r O av lv w) : g < w.heap.size := (Array.getElem?_eq_some_iff.1 h.box).1
theorem TellAt.mine {W : World} {v : Value} {g : Nat} {p r : List Nat} {O : Nat → Prop} {av lv : Value} {w : World} (h : TellAt W v g p r O av lv w) (q : Nat) (hq : q = g ∨ O q ∨ inBlock av q ∨ inBlock lv q) : q < w.heap.size := by
  rcases hq with rfl | hq | hq | hq
  · exact h.glt
  · exact isDW_lt _ _ _ _ h.dw q hq
  · exact inBlock_lt h.all hq
  · exact bools_in h.out hq
/-- Where its own blocks stay, all of it stays. -/
theorem TellAt.keep {W : World} {v : Value} {g : Nat} {p r : List Nat} {O : Nat → Prop} {av lv : Value} {w w' : World} (h : TellAt W v g p r O av lv w) (hs : w.heap.size ≤ w'.heap.size) (hb : Below W.heap.size W w') (hk : ∀ q, (q = g ∨ O q ∨ inBlock av q ∨ inBlock lv q) → w'.heap[q]? = w.heap[q]?) : TellAt W v g p r O av lv w' where
  dw := isDW_keep _ _ _ _ _ h.dw hs (fun k ho => hk k (.inr (.inl ho)))
  fresh := h.fresh
  gW := h.gW
  gO := h.gO
  box := (hk g (.inl rfl)).trans h.box
  all := listed_kept h.all hs (fun b hb => hk b (.inr (.inr (.inl hb))))
  out := listed_kept h.out hs (fun b hb => hk b (.inr (.inr (.inr hb))))
  avF := h.avF
  lvF := h.lvF
  below := hb
theorem TellAt.on {W : World} {v : Value} {g : Nat} {p r : List Nat} {O : Nat → Prop} {av lv : Value} {w w' : World} (h : TellAt W v g p r O av lv w) (hb : Below w.heap.size w w') : TellAt W v g p r O av lv w' :=
  h.keep hb.size (h.below.trans (hb.mono h.below.size)) (fun q hq => hb.block q (h.mine q hq))
def TellIs (W : World) (v : Value) (g : Nat) (p r : List Nat) (w : World) : Prop := ∃ O av lv, TellAt W v g p r O av lv w
/-- Likewise, with a row of the caller's beside. -/
def TellIn (W : World) (v : Value) (g : Nat) (p r : List Nat) (iv : Value) (zs : List Nat) (w : World) : Prop :=
  ∃ O av lv, TellAt W v g p r O av lv w ∧ w.ownsRow W.heap.size 5 1 iv zs.length (zs.map byteVal) ∧ ∀ k, iv.ownBlock = some k → ¬ (k = g ∨ O k ∨ inBlock av k ∨ inBlock lv k)
theorem outOf_none : outOf [] = [] := rfl
theorem tell_start {W w : World} {v : Value} {O : Nat → Prop} (h1 : isDW w v [] O) (h2 : ∀ b, O b → W.heap.size ≤ b) (h3 : Below W.heap.size W w) :
    TellIs W v w.heap.size [] [] (w.alloc (.cells #[.slice none 0 0, .int .i64 0, .slice none 0 0, .int .i64 0, .bool false] 36)) := by
  have hs := h3.size
  have hlt := isDW_lt _ _ _ _ h1
  have hn : ∀ q, ¬ inBlock (.slice none 0 0) q := fun q hq => by
    obtain ⟨_, _, _, h, _⟩ := hq
    simp at h
  exact ⟨O, .slice none 0 0, .slice none 0 0, {
    dw := isDW_keep _ _ _ _ _ h1 ((Below.refl _ _).alloc (Nat.le_refl _) _).size (fun k hk => ((Below.refl w.heap.size w).alloc (Nat.le_refl _) _).block k (hlt k hk))
    fresh := h2
    gW := hs
    gO := fun h => Nat.lt_irrefl _ (hlt _ h)
    box := heap_alloc_new w _
    all := listed_none _ _
    out := listed_none _ _
    avF := fun q hq => absurd hq (hn q)
    lvF := fun q hq => absurd hq (hn q)
    below := h3.alloc hs _ }⟩
/-- A copy of a list. -/
theorem tell_copy {W w w' : World} {v iv : Value} {g : Nat} {p r zs : List Nat} (h : TellIs W v g p r w) (k1 : w'.ownsRow w.heap.size 5 1 iv zs.length (zs.map byteVal)) (k2 : Below w.heap.size w w') : TellIn W v g p r iv zs w' := by
  obtain ⟨O, av, lv, h⟩ := h
  refine ⟨O, av, lv, h.on k2, ownsRow_le k1 h.below.size, fun k hk hq => ?_⟩
  have h1 := h.mine k hq
  have h2 := (k1.lt k hk).1
  omega
theorem own_is {w : World} {base : Nat} {v : Value} {zs : List Nat} (h : w.ownsRow base 5 1 v zs.length (zs.map byteVal)) : bytesIn w v zs := own_listed h
/-- Its bytes are written. -/
theorem tell_write {W w : World} {v iv : Value} {g : Nat} {p r zs : List Nat} (h : TellIn W v g p r iv zs w) (h8 : ∀ x ∈ p ++ zs, x < 256) (hl : (p ++ zs).length ≤ 100000000) :
    Calls Try.prog 16 #[v, iv] w fun e w' => ∃ u, e = .returned (.tuple #[u, .int .i64 0]) ∧ Hid (TellIn W v g (p ++ zs) r iv zs w' ∧ bytesIn w' u (bytesAt (outOf (p ++ zs)) ((outOf p).length / 8) ((outOf (p ++ zs)).length / 8 - (outOf p).length / 8)) ∧ ∀ q, inBlock u q → q ≠ g) := by
  obtain ⟨O, av, lv, h, k1, k2⟩ := h
  have hiO : ∀ b, inBlock iv b → ¬ O b := fun b hb ho => k2 b (own_in k1 b hb) (.inr (.inl ho))
  refine (write_code w v iv p zs O h.dw (own_is k1) h8 hiO hl).mono ?_
  rintro e w' ⟨u, O', rfl, j1, j2, j3, j4, j5⟩
  have hno : ∀ q, q < w.heap.size → ¬ O q → ¬ O' q := fun q hq ho h' => (j4 q h').elim ho (fun h => by omega)
  have hblk : ∀ q, q < w.heap.size → ¬ O q → w'.heap[q]? = w.heap[q]? := fun q hq ho => j5.block q hq ho
  have hg := h.glt
  refine ⟨u, rfl, ⟨O', av, lv, {
    dw := j3
    fresh := fun b hb => (j4 b hb).elim (h.fresh b) (fun h' => Nat.le_trans h.below.size h')
    gW := h.gW
    gO := hno g hg h.gO
    box := (hblk g hg h.gO).trans h.box
    all := listed_past h.all j5 (fun b hb => (h.avF b hb).2.2)
    out := listed_past h.out j5 (fun b hb => (h.lvF b hb).2.2)
    avF := fun q hq => ⟨(h.avF q hq).1, (h.avF q hq).2.1, hno q (inBlock_lt h.all hq) (h.avF q hq).2.2⟩
    lvF := fun q hq => ⟨(h.lvF q hq).1, (h.lvF q hq).2.1, hno q (bools_in h.out hq) (h.lvF q hq).2.2⟩
    below := past_below h.below j5 h.fresh }, owns_kept k1 (fun k hk => hblk k (k1.lt k hk).2 (fun ho => k2 k hk (.inr (.inl ho)))), fun k hk hq => ?_⟩, j1, fun q hq e => ?_⟩
  · have hkl := (k1.lt k hk).2
    rcases hq with hq | hq | hq | hq
    · exact k2 k hk (.inl hq)
    · exact hno k hkl (fun ho => k2 k hk (.inr (.inl ho))) hq
    · exact k2 k hk (.inr (.inr (.inl hq)))
    · exact k2 k hk (.inr (.inr (.inr hq)))
  · subst e
    rcases (j2 q hq).1 with h' | h'
    · exact h.gO h'
    · omega
/-- The document's own writer has written them, too: its box is filled anew. -/
theorem tell_read {W w w' w'' : World} {v iv : Value} {g : Nat} {p r r' zs : List Nat} {O : Nat → Prop} {av lv av' lv' : Value} (h : TellAt W v g p r O av lv w) (k1 : w.ownsRow W.heap.size 5 1 iv zs.length (zs.map byteVal)) (k2 : ∀ k, iv.ownBlock = some k → ¬ (k = g ∨ O k ∨ inBlock av k ∨ inBlock lv k))
    (hb : Below w.heap.size w w') (ha : bytesIn w' av' r') (hl : bools w' lv' (outOf r')) (hav : ∀ q, inBlock av' q → w.heap.size ≤ q) (hlv : ∀ q, inBlock lv' q → lv' = lv ∨ w.heap.size ≤ q)
    (hs : w''.heap.size = w'.heap.size) (hB : Below W.heap.size W w'') (hbox : w''.heap[g]? = some (.cells (refCells av' lv' (4096 * fullOf r'.length) ((outOf r').length / 8)) 36 (0, 0))) (ho : ∀ q, q ≠ g → w''.heap[q]? = w'.heap[q]?) : TellIn W v g p r' iv zs w'' := by
  have hg := h.glt
  have hlt := isDW_lt _ _ _ _ h.dw
  have hWs := h.below.size
  have hsz := hb.size
  have hlv2 : ∀ q, inBlock lv' q → W.heap.size ≤ q ∧ q ≠ g ∧ ¬ O q ∧ (w.heap.size ≤ q ∨ inBlock lv q) := fun q hq => by
    rcases hlv q hq with h1 | h1
    · rw [h1] at hq
      exact ⟨(h.lvF q hq).1, (h.lvF q hq).2.1, (h.lvF q hq).2.2, .inr hq⟩
    · exact ⟨by omega, by omega, fun ho' => by have := hlt q ho'; omega, .inl h1⟩
  have hav2 : ∀ q, inBlock av' q → W.heap.size ≤ q ∧ q ≠ g ∧ ¬ O q := fun q hq => by
    have h1 := hav q hq
    exact ⟨by omega, by omega, fun ho' => by have := hlt q ho'; omega⟩
  refine ⟨O, av', lv', {
    dw := isDW_keep _ _ _ _ _ h.dw (by omega) (fun k hk => (ho k (fun e => h.gO (e ▸ hk))).trans (hb.block k (hlt k hk)))
    fresh := h.fresh
    gW := h.gW
    gO := h.gO
    box := hbox
    all := listed_kept ha (by omega) (fun b hb' => ho b (hav2 b hb').2.1)
    out := listed_kept hl (by omega) (fun b hb' => ho b (hlv2 b hb').2.1)
    avF := hav2
    lvF := fun q hq => ⟨(hlv2 q hq).1, (hlv2 q hq).2.1, (hlv2 q hq).2.2.1⟩
    below := hB }, owns_kept k1 (fun k hk => (ho k (fun e => k2 k hk (.inl e))).trans (hb.block k (k1.lt k hk).2)), fun k hk hq => ?_⟩
  have hkl := (k1.lt k hk).2
  rcases hq with hq | hq | hq | hq
  · exact k2 k hk (.inl hq)
  · exact k2 k hk (.inr (.inl hq))
  · have := hav k hq
    omega
  · rcases (hlv2 k hq).2.2.2 with h1 | h1
    · omega
    · exact k2 k hk (.inr (.inr (.inr h1)))
/-- The caller's row is written over. -/
theorem tell_zero {W w : World} {v : Value} {g q n cap : Nat} {p r zs : List Nat} (h : TellIn W v g p r (.slice (some ⟨q, 0, none⟩) n cap) zs w) (hn : zs.length = n) (j : Nat) : TellIn W v g p r (.slice (some ⟨q, 0, none⟩) n cap) (zs.set j 0) (w.setCell ⟨q, j, none⟩ (.int .u8 0)) := by
  subst hn
  obtain ⟨O, av, lv, h, k1, k2⟩ := h
  have hq := k2 q rfl
  have hs := World.ownsRow.stored k1 j (.int .u8 0)
  refine ⟨O, av, lv, h.keep (Nat.le_of_eq (by simp)) (h.below.setCell (p := ⟨q, j, none⟩) (k1.lt q rfl).1 _) (fun b hb => Below.heap_setCell _ _ _ b (fun e => hq ((show b = q from e) ▸ hb))), ?_, k2⟩
  rw [List.length_set, List.map_set]
  exact hs.1
theorem tell_done {W w : World} {v iv : Value} {g : Nat} {p r zs : List Nat} (h : TellIn W v g p r iv zs w) : TellIs W v g p r w := by
  obtain ⟨O, av, lv, h, _⟩ := h
  exact ⟨O, av, lv, h⟩
/-- Behind End: the document's own in box g, and what End told. -/
def TellEnd (W : World) (v : Value) (g : Nat) (r : List Nat) (u : Value) (xs : List Nat) (w : World) : Prop :=
  ∃ O av lv, isDE w v O ∧ w.heap[g]? = some (.cells (refCells av lv (4096 * fullOf r.length) ((outOf r).length / 8)) 36 (0, 0)) ∧ bytesIn w av r ∧ bools w lv (outOf r) ∧ bytesIn w u xs ∧ Below W.heap.size W w
theorem tell_end {W w : World} {v : Value} {g : Nat} {p r : List Nat} (h : TellIs W v g p r w) (h8 : ∀ x ∈ p, x < 256) (hl : p.length ≤ 100000000) :
    Calls Try.prog 18 #[v] w fun e w' => ∃ u, e = .returned (.tuple #[u, .int .i64 0]) ∧ Hid (TellEnd W v g r u (bytesAt (endOf p) ((outOf p).length / 8) ((endOf p).length / 8 - (outOf p).length / 8)) w') := by
  obtain ⟨O, av, lv, h⟩ := h
  refine (end_code w v p O h.dw h8 hl).mono ?_
  rintro e w' ⟨u, O', rfl, j1, j2, j3, j4, j5⟩
  exact ⟨u, rfl, O', av, lv, j3, (j5.block g h.glt h.gO).trans h.box, listed_past h.all j5 (fun b hb => (h.avF b hb).2.2), listed_past h.out j5 (fun b hb => (h.lvF b hb).2.2), j1, past_below h.below j5 h.fresh⟩
/-! ### The boxes of a region that draws its order -/
theorem six_keep {B a b : Nat} {x0 x1 x2 x3 x4 y : Value} {w1 w w' : World} (h : w.cell? ⟨B, 0, none⟩ = some x0 ∧ w.cell? ⟨B, 1, none⟩ = some x1 ∧ w.cell? ⟨B, 2, none⟩ = some x2 ∧ w.cell? ⟨B, 3, none⟩ = some x3 ∧ w.cell? ⟨B, 4, none⟩ = some x4 ∧ w.cell? ⟨a, b, none⟩ = some y ∧ Below w1.heap.size w1 w) (hb : Below w.heap.size w w') :
    w'.cell? ⟨B, 0, none⟩ = some x0 ∧ w'.cell? ⟨B, 1, none⟩ = some x1 ∧ w'.cell? ⟨B, 2, none⟩ = some x2 ∧ w'.cell? ⟨B, 3, none⟩ = some x3 ∧ w'.cell? ⟨B, 4, none⟩ = some x4 ∧ w'.cell? ⟨a, b, none⟩ = some y ∧ Below w1.heap.size w1 w' := by
  obtain ⟨c0, c1, c2, c3, c4, c5, hw⟩ := h
  have hlt : B < w.heap.size := World.block_lt_of_cell? w ⟨B, 0, none⟩ c0
  have hla : a < w.heap.size := World.block_lt_of_cell? w ⟨a, b, none⟩ c5
  exact ⟨(hb.cell hlt).trans c0, (hb.cell hlt).trans c1, (hb.cell hlt).trans c2, (hb.cell hlt).trans c3, (hb.cell hlt).trans c4, (hb.cell hla).trans c5, hw.trans (hb.mono hw.size)⟩
theorem six_store {B a b g i : Nat} {x0 x1 x2 x3 x4 y u : Value} {w1 w : World} (h : w.cell? ⟨B, 0, none⟩ = some x0 ∧ w.cell? ⟨B, 1, none⟩ = some x1 ∧ w.cell? ⟨B, 2, none⟩ = some x2 ∧ w.cell? ⟨B, 3, none⟩ = some x3 ∧ w.cell? ⟨B, 4, none⟩ = some x4 ∧ w.cell? ⟨a, b, none⟩ = some y ∧ Below w1.heap.size w1 w) (hB : B < w1.heap.size) (hA : a < w1.heap.size) (hg : w1.heap.size ≤ g) :
    (w.setCell ⟨g, i, none⟩ u).cell? ⟨B, 0, none⟩ = some x0 ∧ (w.setCell ⟨g, i, none⟩ u).cell? ⟨B, 1, none⟩ = some x1 ∧ (w.setCell ⟨g, i, none⟩ u).cell? ⟨B, 2, none⟩ = some x2 ∧ (w.setCell ⟨g, i, none⟩ u).cell? ⟨B, 3, none⟩ = some x3 ∧ (w.setCell ⟨g, i, none⟩ u).cell? ⟨B, 4, none⟩ = some x4 ∧ (w.setCell ⟨g, i, none⟩ u).cell? ⟨a, b, none⟩ = some y ∧ Below w1.heap.size w1 (w.setCell ⟨g, i, none⟩ u) := by
  obtain ⟨c0, c1, c2, c3, c4, c5, hw⟩ := h
  have hk : ∀ j, (w.setCell ⟨g, i, none⟩ u).cell? ⟨B, j, none⟩ = w.cell? ⟨B, j, none⟩ := fun j => World.cell?_of_block (a := ⟨B, j, none⟩) (Below.heap_setCell _ _ _ B (by show B ≠ g; omega))
  have hk2 : (w.setCell ⟨g, i, none⟩ u).cell? ⟨a, b, none⟩ = w.cell? ⟨a, b, none⟩ := World.cell?_of_block (a := ⟨a, b, none⟩) (Below.heap_setCell _ _ _ a (by show a ≠ g; omega))
  exact ⟨(hk 0).trans c0, (hk 1).trans c1, (hk 2).trans c2, (hk 3).trans c3, (hk 4).trans c4, hk2.trans c5, hw.setCell (p := ⟨g, i, none⟩) hg _⟩
/-- What the document's Write leaves: the box it is laid in made behind, or before. -/
def Laid (w1 : World) (g : Nat) (av lv lv0 y : Value) (A T : Nat) (r X : List Nat) (w : World) : Prop :=
  w1.heap.size ≤ g ∧ w.heap[g]? = some (.cells (refCells av lv A T) 36 (0, 0)) ∧ bytesIn w av r ∧ bools w lv (outOf r) ∧ bytesIn w y X ∧ (∀ q, inBlock av q → w1.heap.size ≤ q ∧ q ≠ g) ∧ (∀ q, inBlock lv q → (lv = lv0 ∨ w1.heap.size ≤ q) ∧ q ≠ g) ∧ (∀ q, inBlock y q → w1.heap.size ≤ q ∧ q ≠ g) ∧ Below w1.heap.size w1 w
theorem laid_new {w1 w0 w2 : World} {av lv lv0 y : Value} {A T : Nat} {r X : List Nat} (ha : bytesIn w2 av r) (hl : bools w2 lv (outOf r)) (hy : bytesIn w2 y X) (fa : ∀ q, inBlock av q → w0.heap.size ≤ q) (fl : ∀ q, inBlock lv q → lv = lv0 ∨ w0.heap.size ≤ q) (fy : ∀ q, inBlock y q → w0.heap.size ≤ q) (h0 : Below w1.heap.size w1 w0) (hb : Below w0.heap.size w0 w2) :
    Laid w1 w2.heap.size av lv lv0 y A T r X (w2.alloc (.cells (refCells av lv A T) 36)) := by
  have h1 := h0.size
  have h2 := hb.size
  have hn : Below w2.heap.size w2 (w2.alloc (.cells (refCells av lv A T) 36)) := (Below.refl _ _).alloc (Nat.le_refl _) _
  exact ⟨by omega, heap_alloc_new w2 _, listed_on ha hn, listed_on hl hn, listed_on hy hn, fun q hq => ⟨by have := fa q hq; omega, by have := inBlock_lt ha hq; omega⟩, fun q hq => ⟨(fl q hq).imp id (fun h => by omega), by have := bools_in hl hq; omega⟩, fun q hq => ⟨by have := fy q hq; omega, by have := inBlock_lt hy hq; omega⟩, (h0.trans (hb.mono h1)).alloc (by omega) _⟩
theorem laid_set {w1 w0 w2 : World} {g : Nat} {av lv lv0 y z0 z1 z2 z3 z4 : Value} {A T : Nat} {r X : List Nat} (hg : w1.heap.size ≤ g) (hg2 : g < w0.heap.size) (hz : w2.heap[g]? = some (.cells #[z0, z1, z2, z3, z4] 36 (0, 0))) (hlv0 : ∀ q, inBlock lv0 q → q < w1.heap.size) (ha : bytesIn w2 av r) (hl : bools w2 lv (outOf r)) (hy : bytesIn w2 y X) (fa : ∀ q, inBlock av q → w0.heap.size ≤ q) (fl : ∀ q, inBlock lv q → lv = lv0 ∨ w0.heap.size ≤ q) (fy : ∀ q, inBlock y q → w0.heap.size ≤ q) (h0 : Below w1.heap.size w1 w0) (hb : Below w0.heap.size w0 w2) :
    Laid w1 g av lv lv0 y A T r X (((((w2.setCell ⟨g, 0, none⟩ av).setCell ⟨g, 1, none⟩ (.int .i64 (A : Int))).setCell ⟨g, 2, none⟩ lv).setCell ⟨g, 3, none⟩ (.int .i64 (T : Int))).setCell ⟨g, 4, none⟩ (.bool false)) := by
  have h1 := h0.size
  have h2 := hb.size
  have flg : ∀ q, inBlock lv q → q ≠ g := fun q hq => by
    rcases fl q hq with h | h
    · rw [h] at hq
      have := hlv0 q hq
      omega
    · omega
  refine ⟨hg, block_setCell (block_setCell (block_setCell (block_setCell (block_setCell hz _) _) _) _) _, listed_kept ha (Nat.le_of_eq (by simp)) (fun q hq => set5_heap _ _ _ _ _ _ _ _ ?_), listed_kept hl (Nat.le_of_eq (by simp)) (fun q hq => set5_heap _ _ _ _ _ _ _ _ (flg q hq)), listed_kept hy (Nat.le_of_eq (by simp)) (fun q hq => set5_heap _ _ _ _ _ _ _ _ ?_), fun q hq => ⟨?_, ?_⟩, fun q hq => ⟨(fl q hq).imp id (fun h => by omega), flg q hq⟩, fun q hq => ⟨?_, ?_⟩, ?_⟩
  · have := fa q hq; omega
  · have := fy q hq; omega
  · have := fa q hq; omega
  · have := fa q hq; omega
  · have := fy q hq; omega
  · have := fy q hq; omega
  · exact (((((h0.trans (hb.mono h1)).setCell (p := ⟨g, 0, none⟩) hg _).setCell (p := ⟨g, 1, none⟩) hg _).setCell (p := ⟨g, 2, none⟩) hg _).setCell (p := ⟨g, 3, none⟩) hg _).setCell (p := ⟨g, 4, none⟩) hg _
end Go.Proofs.Ytggkmbnogdikkaa.Fx
