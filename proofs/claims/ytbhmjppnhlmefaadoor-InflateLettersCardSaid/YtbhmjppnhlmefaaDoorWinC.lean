/-
  What stands for the window's bytes, as landed. The conditions stand in it.
-/
import Derived.Test.YtbhmjppnhlmefaaDoorWinB
namespace Go.Proofs.YtbhmjppnhlmefaaDoor.Fx
open Go Go.RowKit Go.Joins
set_option linter.unusedVariables false
/-- A byte, or a match, as the code has it: its length, and how far back it is (0: a byte). -/
def partOf (t : Tok) : Nat × Nat := if t.back = 0 then (1, 0) else (t.n, t.back)
def partCells (p : Nat × Nat) : List Value := [.int .i64 (p.1 : Int), .int .i64 (p.2 : Int)]
def partsCells (ps : List (Nat × Nat)) : List Value := ps.flatMap partCells
theorem partsCells_length (ps : List (Nat × Nat)) : (partsCells ps).length = ps.length * 2 := by
  unfold partsCells
  induction ps with
  | nil => rfl
  | cons t ts ih =>
    rw [List.flatMap_cons, List.length_append, ih, List.length_cons]
    simp [partCells]
    omega
theorem partsCells_snoc (ts : List (Nat × Nat)) (t : Nat × Nat) : partsCells (ts ++ [t]) = partsCells ts ++ partCells t := by
  unfold partsCells
  rw [List.flatMap_append]
  simp
theorem partsCells_at (ts : List (Nat × Nat)) (i : Nat) (t : Nat × Nat) (h : ts[i]? = some t) : (partsCells ts)[i * 2]? = some (.int .i64 (t.1 : Int)) ∧ (partsCells ts)[i * 2 + 1]? = some (.int .i64 (t.2 : Int)) := by
  induction ts generalizing i with
  | nil => simp at h
  | cons d ts ih =>
    have e : partsCells (d :: ts) = partCells d ++ partsCells ts := by
      unfold partsCells
      rw [List.flatMap_cons]
    have hl : (partCells d).length = 2 := rfl
    rw [e]
    cases i with
    | zero =>
      obtain rfl := Option.some.inj h
      exact ⟨rfl, rfl⟩
    | succ i =>
      obtain ⟨h1, h2⟩ := ih i (by simpa using h)
      refine ⟨?_, ?_⟩
      · rw [List.getElem?_append_right (by rw [hl]; omega), hl, show (i + 1) * 2 - 2 = i * 2 by omega]
        exact h1
      · rw [List.getElem?_append_right (by rw [hl]; omega), hl, show (i + 1) * 2 + 1 - 2 = i * 2 + 1 by omega]
        exact h2
/-- A slice's value that reads as these parts. -/
def partsIn (w : World) (v : Value) (ts : List (Nat × Nat)) : Prop :=
  (v = .slice none 0 0 ∧ ts = []) ∨ ∃ g cap, v = .slice (some ⟨g, 0, none⟩) ts.length cap ∧ g < w.heap.size ∧ ∀ i t, ts[i]? = some t → w.cell? ⟨g, i * 2, none⟩ = some (.int .i64 (t.1 : Int)) ∧ w.cell? ⟨g, i * 2 + 1, none⟩ = some (.int .i64 (t.2 : Int))
theorem partsIn_own {w : World} {base : Nat} {v : Value} {ts : List (Nat × Nat)} {e : TypeId} (h : w.ownsRow base e 2 v ts.length (partsCells ts)) : partsIn w v ts := by
  rcases h.2 with ⟨rfl, h0⟩ | ⟨g, cap, cur, rfl, _, hg, _⟩
  · exact .inl ⟨rfl, List.eq_nil_of_length_eq_zero h0⟩
  · refine .inr ⟨g, cap, rfl, (Array.getElem?_eq_some_iff.1 hg).1, fun i t hi => ?_⟩
    obtain ⟨h1, h2⟩ := partsCells_at ts i t hi
    have k1 := h.cells rfl _ _ h1
    have k2 := h.cells rfl _ _ h2
    rw [Addr.add_lit, Nat.zero_add] at k1 k2
    exact ⟨k1, k2⟩
theorem partsIn_keep {w w' : World} {v : Value} {ts : List (Nat × Nat)} (h : partsIn w v ts) (hs : w.heap.size ≤ w'.heap.size) (hb : ∀ b, inBlock v b → w'.heap[b]? = w.heap[b]?) : partsIn w' v ts := by
  rcases h with h | ⟨g, cap, rfl, hlt, hc⟩
  · exact .inl h
  · refine .inr ⟨g, cap, rfl, Nat.lt_of_lt_of_le hlt hs, fun i t hi => ?_⟩
    have hg := hb g ⟨0, ts.length, cap, rfl, by have := (List.getElem?_eq_some_iff.1 hi).1; omega⟩
    exact ⟨(World.cell?_of_block (w := w) (a := ⟨g, i * 2, none⟩) hg).trans (hc i t hi).1, (World.cell?_of_block (w := w) (a := ⟨g, i * 2 + 1, none⟩) hg).trans (hc i t hi).2⟩
theorem row2_any {w : World} {base : Nat} {e : TypeId} {v : Value} {n : Nat} {xs : List Value} (h : w.ownsRow base e 2 v n xs) : ∃ o cap, v = .slice o n cap := by
  rcases h.2 with ⟨rfl, rfl⟩ | ⟨g, cap, cur, rfl, _⟩
  · exact ⟨none, 0, rfl⟩
  · exact ⟨_, cap, rfl⟩
theorem own2_fresh {w : World} {base e : Nat} {v : Value} {n : Nat} {xs : List Value} (h : w.ownsRow base e 2 v n xs) (b : Nat) (hb : inBlock v b) : base ≤ b := by
  obtain ⟨off, m, cap, rfl, _⟩ := hb
  exact (h.lt b rfl).1
theorem new_cells2 (w : World) (xs : List Value) (ty : TypeId) (j : Nat) (u : Value) (h : xs[j]? = some u) : (w.alloc (.cells xs.toArray ty)).cell? ((⟨w.heap.size, 0, none⟩ : Addr).add j) = some u := by
  rw [Addr.add_lit, Nat.zero_add, World.cell?_alloc_mark]
  simp [h]
theorem new_cells3 (w : World) (o : Obj) (xs : List Value) (ty : TypeId) (j : Nat) (u : Value) (h : xs[j]? = some u) : ((w.alloc o).alloc (.cells xs.toArray ty)).cell? ((⟨w.heap.size + 1, 0, none⟩ : Addr).add j) = some u := by
  have e : (w.alloc o).heap.size = w.heap.size + 1 := by
    show (w.heap.push _).size = _
    simp
  rw [← e]
  exact new_cells2 (w.alloc o) xs ty j u h
/-- A box that was laid ahead of an append reads as it did. -/
theorem box_kept {w w3 : World} {x y : Value} {ty : TypeId} {o : Obj} {v : Value} (h : ((w.alloc (.cells #[x, y] ty)).alloc o).grownBy w3 v.ownBlock) (hv : ∀ q, v.ownBlock = some q → q < w.heap.size) : w3.cell? ⟨w.heap.size, 0, none⟩ = some x := by
  have e : (w.alloc (.cells #[x, y] ty)).heap.size = w.heap.size + 1 := by
    show (w.heap.push _).size = _
    simp
  have e2 : ((w.alloc (.cells #[x, y] ty)).alloc o).heap.size = w.heap.size + 2 := by
    show ((w.alloc (.cells #[x, y] ty)).heap.push _).size = _
    rw [Array.size_push, e]
  have hb := (h.block w.heap.size (by omega) (fun e => by have := hv _ e.symm; omega)).trans (alloc_old (heap_alloc_new w _))
  exact cell_of_block hb 0
/-- One part: how far it leads, and what stands for it. -/
def Next (zs : List Nat) (k : Nat) (p : Nat × Nat) : Prop := ∀ f : Nat, (toks zs zs.length (f + 1) k).map partOf = p :: (toks zs zs.length f (k + p.1)).map partOf
theorem next_byte (zs : List Nat) (k n back : Nat) (hk : k < zs.length) (h : Found zs k n back) (hn : n < 3) : Next zs k (1, 0) := by
  intro f
  rcases h.match_ with ⟨_, h2⟩ | ⟨h3, _⟩
  · rw [toks, if_pos hk, if_neg (by omega), List.map_cons]
    rfl
  · omega
theorem next_match (zs : List Nat) (k n back : Nat) (hk : k < zs.length) (h : Found zs k n back) (hn : ¬ n < 3) : Next zs k (n, back) ∧ k + n ≤ zs.length := by
  constructor
  · intro f
    rcases h.match_ with ⟨h1, _⟩ | ⟨h3, h4, h5, h6⟩
    · omega
    · rw [toks, if_pos hk, h6, if_pos h3, List.map_cons]
      unfold partOf
      simp only
      rw [if_neg (by omega), show k - (k - back) = back by omega]
  · rcases h with ⟨rfl, _⟩ | ⟨_, h1, h2, h3, _⟩
    · omega
    · have := sm_le zs k back (by omega)
      omega
set_option maxHeartbeats 2000000 in
set_option maxRecDepth 100000 in
theorem parts_code (g : Nat) (s t : Value) (zs st : List Nat) (a : Nat) (W : World) (hs : W.cell? ⟨g, 1, none⟩ = some s) (ht : W.cell? ⟨g, 3, none⟩ = some t) (hb : bytesIn W s zs) (hst : listed stepVal W t st) (h8 : ∀ x ∈ zs, x < 256) (hstep : Steps zs st) (hlen : st.length = zs.length - 2) (ha : a ≤ zs.length) (hl : zs.length ≤ 1000000) :
    Calls Tryd.prog 31 #[.pointer (some ⟨g, 1, none⟩), .int .i64 (a : Int)] W fun e w' => ∃ u, e = .returned u ∧ partsIn w' u ((tokens zs a zs.length).map partOf) ∧ (∀ b, inBlock u b → W.heap.size ≤ b) ∧ Below W.heap.size W w' := by
  have HB := Lib.hid hb
  have H8 := Lib.hid h8
  have HS := Lib.hid hs
  have HT := Lib.hid ht
  have HST := Lib.hid hst
  have HSTEP := Lib.hid hstep
  have HLEN := Lib.hid hlen
  obtain ⟨so, sc, rfl⟩ := listed_length hb
  obtain ⟨len, el⟩ : ∃ len, zs.length = len := ⟨_, rfl⟩
  have EL := Lib.hid el
  have hgl : g < W.heap.size := World.block_lt_of_cell? W _ hs
  obtain ⟨T, eT⟩ : ∃ T, (tokens zs a zs.length).map partOf = T := ⟨_, rfl⟩
  have HTT : Hid ([] ++ (toks zs zs.length (len - a) a).map partOf = T) := by
    show _ = _
    rw [← eT, ← el]
    rfl
  rw [eT]
  rw [el] at ha hl hs HS HB
  clear eT hb h8 ht hst hstep hlen hs el
  obtain ⟨i0, hi0, hz0, hz1, hz2⟩ := info_parts partInfo
  go_enter Tryd.func31, Tryd.ntmps31
  go_wp2_with fail
  go_loopw [5, 6] (fun s5 s6 wr => ∃ (k f : Nat) (ts : List (Nat × Nat)), k ≤ len ∧ a ≤ k ∧ len ≤ k + f ∧ ts.length ≤ k - a ∧ s6 = .int .i64 (k : Int) ∧ Hid (ts ++ (toks zs zs.length f k).map partOf = T) ∧ wr.ownsRow W.heap.size 85 2 s5 ts.length (partsCells ts) ∧ Below W.heap.size W wr) (fun _ s6 _ => len - (intOf s6).toNat)
  case atStart => exact ⟨a, len - a, [], ha, Nat.le_refl _, by omega, Nat.zero_le _, rfl, HTT, World.ownsRow_nil _ _ _ _, Below.refl _ _⟩
  case round =>
    obtain ⟨k, f, ts, hk, hak, hf, hts, rfl, hT, hown, hbl⟩ := hrel
    obtain ⟨oo, oc, rfl⟩ := row2_any hown
    have HOWN := Lib.hid hown
    have HBL := Lib.hid hbl
    obtain ⟨m, em⟩ : ∃ m, ts.length = m := ⟨_, rfl⟩
    rw [em] at HOWN hts ⊢
    have EM := Lib.hid em
    have hsz := hbl.size
    have c1 : wr.cell? ⟨g, 1, none⟩ = some (.slice so len sc) := (hbl.cell (p := ⟨g, 1, none⟩) hgl).trans HS.out
    clear hown hbl em
    by_cases hku : k < len
    · have d1 : decide ((k : Int) < (len : Int)) = true := decide_eq_true (by omega)
      have d1n : decide (k < len) = true := decide_eq_true hku
      obtain ⟨f', rfl⟩ : ∃ g, f = g + 1 := ⟨f - 1, by omega⟩
      have KM := match_code g (.slice so len sc) t zs st k wr c1 ((HBL.out.cell (p := ⟨g, 3, none⟩) hgl).trans HT.out) (listed_on HB.out HBL.out) (listed_on HST.out HBL.out) H8.out HSTEP.out HLEN.out (by rw [EL.out]; exact hk) (by rw [EL.out]; omega)
      go_wp2_with fail
      go_at_call 42
      refine KM.mono ?_
      rintro e w2 ⟨n, back, rfl, hfo, hb2⟩
      have HB2 := Lib.hid hb2
      have hs2 := hb2.size
      have hown2 : w2.ownsRow W.heap.size 85 2 (.slice oo m oc) m (partsCells ts) := HOWN.out.kept (row := none) ⟨hb2.os, hb2.tape, hb2.output, hb2.size, fun q hq _ => hb2.block q hq⟩ (by cases hv : (Value.slice oo m oc).ownBlock <;> simp)
      have HO2 := Lib.hid hown2
      have HFO := Lib.hid hfo
      obtain ⟨p, hp⟩ : ∃ p : Nat × Nat, (if n < 3 then (1, 0) else (n, back)) = p := ⟨_, rfl⟩
      have HN : Hid (Next zs k p ∧ k + p.1 ≤ len ∧ 1 ≤ p.1) := by
        show _ ∧ _
        rw [← EL.out, ← hp]
        by_cases h3 : n < 3
        · rw [if_pos h3]
          exact ⟨next_byte zs k n back (by rw [EL.out]; exact hku) hfo h3, by rw [EL.out]; simp only; omega, by simp⟩
        · rw [if_neg h3]
          obtain ⟨x1, x2⟩ := next_match zs k n back (by rw [EL.out]; exact hku) hfo h3
          exact ⟨x1, x2, by simp only; omega⟩
      have HG : Hid (∀ (w3 : World) (v' : Value), w3.ownsRow W.heap.size 85 2 v' (m + 1) (partsCells ts ++ partCells p) → w3.ownsRow W.heap.size 85 2 v' (ts ++ [p]).length (partsCells (ts ++ [p]))) := fun w3 v' h => by
        rw [partsCells_snoc, List.length_append, EM.out]
        exact h
      have HN2 : Hid ((ts ++ [p]) ++ (toks zs zs.length f' (k + p.1)).map partOf = T) := by
        show _ = _
        rw [← hT.out, HN.out.1 f', List.append_assoc]
        rfl
      clear hb2 KM hown2 hfo hT c1
      by_cases h3 : n < 3
      · have d3 : decide ((n : Int) < 3) = true := decide_eq_true (by omega)
        rw [if_pos h3] at hp
        subst hp
        go_wp2_with (at_builtin; refine wpList_append_own _ rfl _ _ 76 rfl W.heap.size 85 i0 (.agg #[.int .i64 0, .int .i64 0]) 2 16 Tryd.underlying76 hi0 hz0 hz1 hz2 rfl (by decide) (.slice oo m oc) m (partsCells ts) rfl ((HO2.out.alloc _).alloc _) ⟨w2.heap.size + 1, 0, none⟩ 1 1 (partCells (1, 0)) rfl rfl (fun j u hj => new_cells3 w2 _ (partCells (1, 0)) _ j u hj) (fun u hu => by simp [partCells] at hu; rcases hu with rfl | rfl <;> rfl) (by unfold maxLen; omega) (by omega) (by simp; omega) ?_)
        intro v' w3 hown3 hgrow _
        have HB3 := Lib.hid ((((HBL.out.trans (HB2.out.mono hsz)).alloc (by omega) _).alloc (by simp; omega) _).grown hgrow (by simp; omega) (fun q hq => (HOWN.out.lt q hq).1))
        have HO3 := Lib.hid (HG.out _ _ hown3)
        obtain ⟨hn1, hn2, hn3⟩ := HN.out
        have hbox := box_kept hgrow (fun q hq => (HO2.out.lt q hq).2)
        clear hown3 hgrow hn1
        go_wp2_with fail
        go_roundw
        case rel => exact ⟨k + 1, f', ts ++ [(1, 0)], by omega, by omega, by omega, by rw [List.length_append, EM.out]; simp only [List.length_singleton]; omega, by go_num, HN2, HO3.out, HB3.out⟩
        case measure => simp [intOf]; omega
      · have d3 : decide ((n : Int) < 3) = false := decide_eq_false (by omega)
        rw [if_neg h3] at hp
        subst hp
        go_wp2_with (at_builtin; refine wpList_append_own _ rfl _ _ 76 rfl W.heap.size 85 i0 (.agg #[.int .i64 0, .int .i64 0]) 2 16 Tryd.underlying76 hi0 hz0 hz1 hz2 rfl (by decide) (.slice oo m oc) m (partsCells ts) rfl ((HO2.out.alloc _).alloc _) ⟨w2.heap.size + 1, 0, none⟩ 1 1 (partCells (n, back)) rfl rfl (fun j u hj => new_cells3 w2 _ (partCells (n, back)) _ j u hj) (fun u hu => by simp [partCells] at hu; rcases hu with rfl | rfl <;> rfl) (by unfold maxLen; omega) (by omega) (by simp; omega) ?_)
        intro v' w3 hown3 hgrow _
        have HB3 := Lib.hid ((((HBL.out.trans (HB2.out.mono hsz)).alloc (by omega) _).alloc (by simp; omega) _).grown hgrow (by simp; omega) (fun q hq => (HOWN.out.lt q hq).1))
        have HO3 := Lib.hid (HG.out _ _ hown3)
        obtain ⟨hn1, hn2, hn3⟩ := HN.out
        have hbox := box_kept hgrow (fun q hq => (HO2.out.lt q hq).2)
        clear hown3 hgrow hn1
        go_wp2_with fail
        go_roundw
        case rel => exact ⟨k + n, f', ts ++ [(n, back)], by omega, by omega, by omega, by rw [List.length_append, EM.out]; simp only [List.length_singleton]; omega, by go_num, HN2, HO3.out, HB3.out⟩
        case measure => simp [intOf]; omega
    · have d1 : decide ((k : Int) < (len : Int)) = false := decide_eq_false (by omega)
      have d1n : decide (k < len) = false := decide_eq_false hku
      have HN : Hid (ts = T) := by
        have := hT.out
        show ts = T
        cases f with
        | zero => simpa [toks] using this
        | succ f =>
          rw [toks, if_neg (by rw [EL.out]; exact hku), List.map_nil, List.append_nil] at this
          exact this
      go_wp2_with fail
      all_goals go_ret
      all_goals exact ⟨_, rfl, by rw [← HN.out]; exact partsIn_own (by rw [EM.out]; exact HOWN.out), fun b hb => own2_fresh HOWN.out b hb, HBL.out⟩
end Go.Proofs.YtbhmjppnhlmefaaDoor.Fx
