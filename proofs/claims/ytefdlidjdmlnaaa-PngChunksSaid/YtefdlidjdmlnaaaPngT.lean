/-
  The document's own pieces of a picture. The conditions stand in each.
-/
import Derived.Test.YtefdlidjdmlnaaaPngD
import Derived.Test.YtefdlidjdmlnaaaZlT
namespace Go.Proofs.Ytefdlidjdmlnaaa.Fx
open Go Go.RowKit Go.Joins
set_option linter.unusedVariables false
abbrev zref9 (av lv : Value) (A T : Nat) (bg : Bool) : Array Value := #[av, .int .i64 (A : Int), lv, .int .i64 (T : Int), .bool false, .bool bg]
/-- The list of pieces so far. -/
structure PO (w2 w : World) (gz : Nat) (outv : Value) (us : List Value) (pcs : List (List Nat)) : Prop where
  row : w.ownsRow 0 36 1 outv us.length us
  fresh : ∀ q, outv.ownBlock = some q → w2.heap.size ≤ q
  len : us.length = pcs.length
  els : ∀ (j : Nat) (u : Value) (zs : List Nat), us[j]? = some u → pcs[j]? = some zs → bytesIn w u zs
  elF : ∀ u ∈ us, ∀ q, inBlock u q → w2.heap.size ≤ q ∧ outv.ownBlock ≠ some q
  past : Past (fun q => q = gz) w2 w
/-- The document's own writer in its box. -/
structure PZ (w2 w : World) (gz : Nat) (outv : Value) (L : List Nat) (bg : Bool) (av lv : Value) : Prop where
  box : w.heap[gz]? = some (.cells (zref9 av lv (4096 * fullOf L.length) ((outOf L).length / 8) bg) 67 (0, 0))
  all : bytesIn w av L
  out : bools w lv (outOf L)
  avF : ∀ q, inBlock av q → w2.heap.size ≤ q ∧ outv.ownBlock ≠ some q
  lvF : ∀ q, inBlock lv q → w2.heap.size ≤ q ∧ outv.ownBlock ≠ some q
theorem els_lt {w2 w : World} {gz : Nat} {outv : Value} {us : List Value} {pcs : List (List Nat)} (h : PO w2 w gz outv us pcs) {u : Value} (hu : u ∈ us) {q : Nat} (hq : inBlock u q) : q < w.heap.size := by
  obtain ⟨j, hj, rfl⟩ := List.getElem_of_mem hu
  have hj2 : j < pcs.length := by rw [← h.len]; exact hj
  exact inBlock_lt (h.els j _ _ (List.getElem?_eq_getElem hj) (List.getElem?_eq_getElem hj2)) hq
/-- What is not told to change stays. -/
theorem PO.keep {w2 w w' : World} {gz : Nat} {outv : Value} {us : List Value} {pcs : List (List Nat)} (h : PO w2 w gz outv us pcs) (hs : w.heap.size ≤ w'.heap.size) (hk : ∀ q, q < w.heap.size → w2.heap.size ≤ q → w'.heap[q]? = w.heap[q]?) (hp : Past (fun q => q = gz) w2 w') : PO w2 w' gz outv us pcs :=
  { h with
    row := owns_kept h.row (fun q hq => hk q (h.row.lt q hq).2 (h.fresh q hq))
    els := fun j u zs h1 h2 => listed_kept (h.els j u zs h1 h2) hs (fun q hq => hk q (inBlock_lt (h.els j u zs h1 h2) hq) (h.elF u (List.mem_of_getElem? h1) q hq).1)
    past := hp }
theorem PO.below {w2 w w' : World} {gz : Nat} {outv : Value} {us : List Value} {pcs : List (List Nat)} (h : PO w2 w gz outv us pcs) (hb : Below w.heap.size w w') : PO w2 w' gz outv us pcs :=
  h.keep hb.size (fun q hq _ => hb.block q hq) (past_on h.past hb)
theorem PZ.below {w2 w w' : World} {gz : Nat} {outv : Value} {L : List Nat} {bg : Bool} {av lv : Value} (h : PZ w2 w gz outv L bg av lv) (hb : Below w.heap.size w w') : PZ w2 w' gz outv L bg av lv :=
  { h with
    box := (hb.block gz (Array.getElem?_eq_some_iff.1 h.box).1).trans h.box
    all := listed_on h.all hb
    out := listed_on h.out hb }
theorem PO.on {w2 w w' : World} {gz : Nat} {outv : Value} {us : List Value} {pcs : List (List Nat)} (h : PO w2 w gz outv us pcs) (hp : Past (fun q => q = gz) w w') (hg : gz < w2.heap.size) : PO w2 w' gz outv us pcs :=
  h.keep hp.size (fun q hq h2 => hp.block q hq (by omega)) (h.past.trans hp (fun b hb => .inl hb))
/-- A piece is put behind the others. -/
theorem PO.more {w2 w wa w' : World} {gz : Nat} {outv outv' : Value} {us : List Value} {pcs : List (List Nat)} (h : PO w2 w gz outv us pcs) (hg : gz < w2.heap.size) (hb : Below w.heap.size w wa) (u : Value) (zs : List Nat) (hu : bytesIn w u zs) (hu2 : ∀ q, inBlock u q → w2.heap.size ≤ q ∧ outv.ownBlock ≠ some q)
    (h1 : w'.ownsRow 0 36 1 outv' (us.length + 1) (us ++ [u])) (h2 : wa.grownBy w' outv.ownBlock) (h3 : ∀ q, outv'.ownBlock = some q → outv.ownBlock = some q ∨ wa.heap.size ≤ q) : PO w2 w' gz outv' (us ++ [u]) (pcs ++ [zs]) := by
  have s0 := h.past.size
  have s1 := hb.size
  have s2 := h2.size
  have hsame : ∀ q, q < w.heap.size → outv.ownBlock ≠ some q → w'.heap[q]? = w.heap[q]? := fun q hq hn => (h2.block q (by omega) (fun e => hn e.symm)).trans (hb.block q hq)
  have hne : ∀ q, q < w.heap.size → outv.ownBlock ≠ some q → outv'.ownBlock ≠ some q := fun q hq hn e => (h3 q e).elim hn (fun h' => by omega)
  refine { row := by rw [List.length_append]; exact h1, fresh := fun q hq => (h3 q hq).elim (h.fresh q) (fun h' => by omega), len := by rw [List.length_append, List.length_append, h.len]; rfl, els := ?_, elF := ?_, past := ?_ }
  · intro j x ys hj hy
    by_cases hjl : j < us.length
    · rw [List.getElem?_append_left hjl] at hj
      rw [List.getElem?_append_left (by rw [← h.len]; exact hjl)] at hy
      exact listed_kept (h.els j x ys hj hy) (by omega) (fun q hq => hsame q (inBlock_lt (h.els j x ys hj hy) hq) (h.elF x (List.mem_of_getElem? hj) q hq).2)
    · rw [List.getElem?_append_right (by omega)] at hj
      rw [List.getElem?_append_right (by rw [← h.len]; omega), ← h.len] at hy
      have h0 : j - us.length = 0 := by
        have := (List.getElem?_eq_some_iff.1 hj).1
        simp at this
        omega
      rw [h0] at hj hy
      obtain rfl := Option.some.inj hj
      obtain rfl := Option.some.inj hy
      exact listed_kept hu (by omega) (fun q hq => hsame q (inBlock_lt hu hq) (hu2 q hq).2)
  · intro x hx q hq
    rcases List.mem_append.1 hx with hx | hx
    · exact ⟨(h.elF x hx q hq).1, hne q (els_lt h hx hq) (h.elF x hx q hq).2⟩
    · obtain rfl := List.mem_singleton.1 hx
      exact ⟨(hu2 q hq).1, hne q (inBlock_lt hu hq) (hu2 q hq).2⟩
  · refine h.past.trans (O' := fun q => outv.ownBlock = some q) ⟨h2.os.trans hb.os, h2.tape.trans hb.tape, h2.output.trans hb.output, by omega, fun q hq hn => hsame q hq hn⟩ (fun q hq => .inr (h.fresh q hq))
theorem PZ.more {w2 w wa w' : World} {gz : Nat} {outv outv' : Value} {L : List Nat} {bg : Bool} {av lv : Value} (h : PZ w2 w gz outv L bg av lv) (hgz : outv.ownBlock ≠ some gz) (hb : Below w.heap.size w wa) (h2 : wa.grownBy w' outv.ownBlock) (h3 : ∀ q, outv'.ownBlock = some q → outv.ownBlock = some q ∨ wa.heap.size ≤ q) : PZ w2 w' gz outv' L bg av lv := by
  have s1 := hb.size
  have s2 := h2.size
  have hsame : ∀ q, q < w.heap.size → outv.ownBlock ≠ some q → w'.heap[q]? = w.heap[q]? := fun q hq hn => (h2.block q (by omega) (fun e => hn e.symm)).trans (hb.block q hq)
  have hne : ∀ q, q < w.heap.size → outv.ownBlock ≠ some q → outv'.ownBlock ≠ some q := fun q hq hn e => (h3 q e).elim hn (fun h' => by omega)
  exact {
    box := (hsame gz (Array.getElem?_eq_some_iff.1 h.box).1 hgz).trans h.box
    all := listed_kept h.all (by omega) (fun q hq => hsame q (inBlock_lt h.all hq) (h.avF q hq).2)
    out := listed_kept h.out (by omega) (fun q hq => hsame q (bools_in h.out hq) (h.lvF q hq).2)
    avF := fun q hq => ⟨(h.avF q hq).1, hne q (inBlock_lt h.all hq) (h.avF q hq).2⟩
    lvF := fun q hq => ⟨(h.lvF q hq).1, hne q (bools_in h.out hq) (h.lvF q hq).2⟩ }
/-- A row of the round's own is written behind: the writer's box stays. -/
theorem PZ.other {w2 w w' : World} {gz : Nat} {outv t : Value} {L : List Nat} {bg : Bool} {av lv : Value} (h : PZ w2 w gz outv L bg av lv) (hp : Past (fun q => t.ownBlock = some q) w w') (hg : t.ownBlock ≠ some gz) (ha : ∀ q, inBlock av q → t.ownBlock ≠ some q) (hl : ∀ q, inBlock lv q → t.ownBlock ≠ some q) : PZ w2 w' gz outv L bg av lv :=
  { h with
    box := (hp.block gz (Array.getElem?_eq_some_iff.1 h.box).1 hg).trans h.box
    all := listed_past h.all hp ha
    out := listed_past h.out hp hl }
/-- Behind the document's Write: its box is filled anew. -/
theorem z_next {w2 w6 w7 w9 : World} {gz : Nat} {outv : Value} {us : List Value} {pcs : List (List Nat)} {L zs : List Nat} {bg : Bool} {lv a1 l1 y : Value} (ho : PO w2 w6 gz outv us pcs) (hgz : gz < w2.heap.size) (av : Value) (hz : PZ w2 w6 gz outv L bg av lv)
    (h1 : bytesIn w7 a1 (L ++ zs)) (h2 : bools w7 l1 (outOf (L ++ zs))) (h4 : ∀ q, inBlock a1 q → w6.heap.size ≤ q) (h5 : ∀ q, inBlock l1 q → l1 = lv ∨ w6.heap.size ≤ q) (h7 : Below w6.heap.size w6 w7) (hy : w7.ownsRow w6.heap.size 5 1 y (headOf bg ++ nextOf L zs).length ((headOf bg ++ nextOf L zs).map byteVal)) (o : Obj)
    (e9 : w9 = set6 (w7.alloc o) gz a1 (.int .i64 ((4096 * fullOf (L ++ zs).length : Nat) : Int)) l1 (.int .i64 (((outOf (L ++ zs)).length / 8 : Nat) : Int)) (.bool false) (.bool true)) :
    Past (fun q => q = gz) w6 w9 ∧ PZ w2 w9 gz outv (L ++ zs) true a1 l1 ∧ w9.ownsRow w6.heap.size 5 1 y (headOf bg ++ nextOf L zs).length ((headOf bg ++ nextOf L zs).map byteVal) := by
  have s0 := ho.past.size
  have s7 := h7.size
  have hsz : w9.heap.size = w7.heap.size + 1 := by rw [e9, set6_size, alloc_size]
  have hk : ∀ q, q < w7.heap.size → q ≠ gz → w9.heap[q]? = w7.heap[q]? := fun q hq hn => by
    rw [e9, set6_heap _ _ _ _ _ _ _ _ q hn]
    exact (below_alloc1 w7 o).block q hq
  have hbox : (w7.alloc o).heap[gz]? = some (.cells (zref9 av lv (4096 * fullOf L.length) ((outOf L).length / 8) bg) 67 (0, 0)) := ((below_alloc1 w7 o).block gz (by omega)).trans ((h7.block gz (Array.getElem?_eq_some_iff.1 hz.box).1).trans hz.box)
  have hav : ∀ q, inBlock a1 q → w2.heap.size ≤ q ∧ outv.ownBlock ≠ some q := fun q hq => ⟨by have := h4 q hq; omega, fun e => by have := h4 q hq; have := (ho.row.lt q e).2; omega⟩
  have hlv : ∀ q, inBlock l1 q → w2.heap.size ≤ q ∧ outv.ownBlock ≠ some q := fun q hq => (h5 q hq).elim (fun e => hz.lvF q (by rw [← e]; exact hq)) (fun h' => ⟨by omega, fun e => by have := (ho.row.lt q e).2; omega⟩)
  refine ⟨?_, ⟨?_, listed_kept h1 (by omega) (fun q hq => hk q (inBlock_lt h1 hq) (by have := (hav q hq).1; omega)), listed_kept h2 (by omega) (fun q hq => hk q (bools_in h2 hq) (by have := (hlv q hq).1; omega)), hav, hlv⟩, owns_kept hy (fun q hq => hk q (hy.lt q hq).2 (by have := (hy.lt q hq).1; omega))⟩
  · have hp : Past (fun q => q = gz) w7 w9 := by
      rw [e9]
      have h1 : Past (fun q => q = gz) w7 (w7.alloc o) := Past.of_below (below_alloc1 w7 o)
      exact ((((((h1.trans (past_setCell _ gz 0 _) (fun _ h => .inl h)).trans (past_setCell _ gz 1 _) (fun _ h => .inl h)).trans (past_setCell _ gz 2 _) (fun _ h => .inl h)).trans (past_setCell _ gz 3 _) (fun _ h => .inl h)).trans (past_setCell _ gz 4 _) (fun _ h => .inl h)).trans (past_setCell _ gz 5 _) (fun _ h => .inl h))
    exact (Past.of_below h7 : Past (fun q => q = gz) w6 w7).trans hp (fun _ h => .inl h)
  · rw [e9]
    exact set6_block hbox _ _ _ _ _ _
theorem past_then {O : Nat → Prop} {a b c : World} (h : Past O a b) (hb : Below a.heap.size b c) : Past O a c :=
  ⟨hb.os.trans h.os, hb.tape.trans h.tape, hb.output.trans h.output, Nat.le_trans h.size hb.size, fun q hq hn => (hb.block q hq).trans (h.block q hq hn)⟩
/-- What is told, from where the stream has told (w) on. -/
structure TR (w wx : World) (tv v : Value) (ts : List Nat) : Prop where
  row : wx.ownsRow 0 5 1 v ts.length (ts.map byteVal)
  own : ∀ q, v.ownBlock = some q → tv.ownBlock = some q ∨ w.heap.size ≤ q
  past : Past (fun q => tv.ownBlock = some q) w wx
theorem TR.more {w wx wa w' : World} {tv v v' : Value} {ts zs : List Nat} (h : TR w wx tv v ts) (hb : Below wx.heap.size wx wa) (n : Nat) (hn : (ts ++ zs).length = n) (h1 : w'.ownsRow 0 5 1 v' n ((ts ++ zs).map byteVal)) (h2 : wa.grownBy w' v.ownBlock) (h3 : ∀ q, v'.ownBlock = some q → v.ownBlock = some q ∨ wa.heap.size ≤ q) : TR w w' tv v' (ts ++ zs) := by
  subst hn
  have s1 := h.past.size
  have s2 := hb.size
  have s3 := h2.size
  refine ⟨h1, fun q hq => (h3 q hq).elim (h.own q) (fun h' => .inr (by omega)), h.past.trans (O' := fun q => v.ownBlock = some q) ⟨h2.os.trans hb.os, h2.tape.trans hb.tape, h2.output.trans hb.output, by omega, fun q hq hn => (h2.block q (by omega) (fun e => hn e.symm)).trans (hb.block q hq)⟩ h.own⟩
/-- A slice's three numbers. -/
def sliceOf (t : Option Addr × Nat × Nat) : Value := .slice t.1 t.2.1 t.2.2
theorem slices_of (us : List Value) (h : ∀ u ∈ us, ∃ o n c, u = .slice o n c) : ∃ ts : List (Option Addr × Nat × Nat), us = ts.map sliceOf := by
  induction us with
  | nil => exact ⟨[], rfl⟩
  | cons u us ih =>
    obtain ⟨ts, e⟩ := ih (fun v hv => h v (List.mem_cons_of_mem _ hv))
    obtain ⟨o, n, c, e2⟩ := h u (List.mem_cons_self ..)
    exact ⟨(o, n, c) :: ts, by rw [e, e2]; rfl⟩
theorem PO.slices {w2 w : World} {gz : Nat} {outv : Value} {us : List Value} {pcs : List (List Nat)} (h : PO w2 w gz outv us pcs) : ∃ ts : List (Option Addr × Nat × Nat), us = ts.map sliceOf := by
  refine slices_of us (fun u hu => ?_)
  obtain ⟨j, hj, rfl⟩ := List.getElem_of_mem hu
  have hj2 : j < pcs.length := by rw [← h.len]; exact hj
  obtain ⟨o, c, e⟩ := listed_length (h.els j _ _ (List.getElem?_eq_getElem hj) (List.getElem?_eq_getElem hj2))
  exact ⟨o, _, c, e⟩
theorem info_list : (Try.prog.info? 36).map (fun i => (i.zero, i.size, i.bytes)) = some (some (.slice none 0 0), 1, 24) := by kernel_rfl
theorem flag_doc {w h k j : Nat} (hk : (orderOf w h)[k]? = some j) : flagAt w h k = docFlag w (if k = 0 then none else (orderOf w h)[k - 1]?) j := by
  unfold flagAt
  rw [List.getD_eq_getElem?_getD, order_flag w h k j hk]
  rfl
/-- A list of lists that is read so, all of it laid since W. -/
def listsNew (W w : World) (v : Value) (zss : List (List Nat)) : Prop :=
  ∃ us : List Value, listed (fun u : Value => u) w v us ∧ us.length = zss.length ∧ (∀ (j : Nat) (u : Value) (zs : List Nat), us[j]? = some u → zss[j]? = some zs → bytesIn w u zs) ∧ (∀ q, inBlock v q → W.heap.size ≤ q) ∧ ∀ u ∈ us, ∀ q, inBlock u q → W.heap.size ≤ q
theorem listsNew.on {W w w' : World} {v : Value} {zss : List (List Nat)} (h : listsNew W w v zss) (hs : w.heap.size ≤ w'.heap.size) (hk : ∀ q, W.heap.size ≤ q → q < w.heap.size → w'.heap[q]? = w.heap[q]?) : listsNew W w' v zss := by
  obtain ⟨us, h1, h2, h3, h4, h5⟩ := h
  have hlt : ∀ q, inBlock v q → q < w.heap.size := fun q hq => by
    obtain ⟨off, n, cap, rfl, hn⟩ := hq
    rcases h1 with ⟨⟨o, c', h, _⟩, _⟩ | ⟨b', off', cap', h, hlt, _⟩
    · simp only [Value.slice.injEq] at h
      omega
    · simp only [Value.slice.injEq, Option.some.injEq, Addr.mk.injEq] at h
      omega
  refine ⟨us, listed_kept h1 hs (fun q hq => hk q (h4 q hq) (hlt q hq)), h2, fun j u zs hj hz => ?_, h4, h5⟩
  have hu := h5 u (List.mem_of_getElem? hj)
  exact listed_kept (h3 j u zs hj hz) hs (fun q hq => hk q (hu q hq) (inBlock_lt (h3 j u zs hj hz) hq))
theorem listsNew.lists {W w : World} {v : Value} {zss : List (List Nat)} (h : listsNew W w v zss) : listsIn w v zss := by
  obtain ⟨us, h1, h2, h3, _⟩ := h
  exact ⟨us, h1, h2, h3⟩
set_option maxHeartbeats 4000000 in
set_option maxRecDepth 100000 in
theorem rpieces_new (w h n : Nat) (px : Nat → Px) (pv : Value) (W : World) (hw1 : 1 ≤ w) (hw : w ≤ 1024) (hh1 : 1 ≤ h) (hh : h ≤ 1024) (hpx : ∀ k, (px k).ok) (hp : pixIn W pv n px) (hn : n ≤ w * h) (hn2 : n ≤ 100000) :
    Calls Try.prog 16 #[.int .i64 (w : Int), .int .i64 (h : Int), pv] W fun e w' => ∃ o c, e = .returned (.slice o n c) ∧ Hid (listsNew W w' (.slice o n c) (piecesTo w h px n)) ∧ Hid (Below W.heap.size W w') := by
  obtain ⟨po, pc, rfl⟩ := pixIn_shape hp
  obtain ⟨N, eN⟩ : ∃ N, w * h = N := ⟨_, rfl⟩
  have hN : N ≤ 1048576 := by
    have : w * h ≤ 1024 * 1024 := Nat.mul_le_mul hw hh
    omega
  have HNN := Lib.hid eN
  have HPX := Lib.hid hpx
  have HP := Lib.hid hp
  rw [eN] at hn
  clear eN hpx hp
  go_enter Try.func16, Try.ntmps16
  go_wp2_with fail
  go_at_call 14
  refine (rorder_any w h W hw1 hw hh1 hh).mono ?_
  rintro e w1 ⟨oo, n1, oc, rfl, HN1, HO1, HB1⟩
  have hn1 := HN1.out
  rw [HNN.out] at hn1
  subst hn1
  obtain ⟨w2, ew2⟩ : ∃ w2, w2 = w1.alloc (.cells zzero 67) := ⟨_, rfl⟩
  obtain ⟨gz, egz⟩ : ∃ gz, w1.heap.size = gz := ⟨_, rfl⟩
  have hb2 : Below w1.heap.size w1 w2 := by rw [ew2]; exact below_alloc1 _ _
  have hzb : w2.heap[gz]? = some (.cells (zref9 (.slice none 0 0) (.slice none 0 0) 0 0 false) 67 (0, 0)) := by rw [ew2, ← egz]; exact heap_alloc_new _ _
  have hs2 : w2.heap.size = gz + 1 := by rw [ew2, alloc_size, egz]
  have HBW2 : Hid (Below W.heap.size W w2) := HB1.out.trans (hb2.mono HB1.out.size)
  have hWgz : W.heap.size ≤ gz := by rw [← egz]; exact HB1.out.size
  have HWgz := Lib.hid hWgz
  have HORD : Hid (∀ v, Past (fun q => q = gz) w2 v → numsList v (.slice oo n1 oc) (orderOf w h)) := fun v hv => by
    have h1 : numsList w1 (.slice oo n1 oc) (orderOf w h) := own_listed HO1.out.1
    exact listed_past (listed_on h1 hb2) hv (fun q hq e => by have := nums_lt h1 hq; omega)
  have HBV : Hid (∀ v, Past (fun q => q = gz) w2 v → Below W.heap.size W v) := fun v hv => HBW2.out.trans (hv.below (fun q hq => by rw [hq]; exact HWgz.out) HBW2.out.size)
  have HPX2 : Hid (∀ v, Past (fun q => q = gz) w2 v → pixIn v (.slice po n pc) n px) := fun v hv => pixIn_on HP.out (HBV.out v hv)
  have HOL : Hid ((orderOf w h).length = n1) := by show _ = _; rw [order_length, HNN.out]
  have HS2 := Lib.hid hs2
  have HZ0 : Hid (PZ w2 w2 gz (.slice none 0 0) [] false (.slice none 0 0) (.slice none 0 0)) := {
    box := hzb
    all := listed_none _ _
    out := listed_none _ _
    avF := fun q hq => absurd hq (not_nilBlock q)
    lvF := fun q hq => absurd hq (not_nilBlock q) }
  have HP0 : Hid (PO w2 w2 gz (.slice none 0 0) [] []) := {
    row := World.ownsRow_nil _ _ _ _
    fresh := fun q hq => by simp [Value.ownBlock] at hq
    len := rfl
    els := fun j u zs h1 h2 => by simp at h1
    elF := fun u hu => by cases hu
    past := Past.refl _ _ }
  clear hzb hb2 hs2 hWgz HO1 HB1 HN1
  go_upto_region 4 with fail
  rw [← ew2]
  clear ew2
  go_wp2_with fail
  go_loopw [8, 10] (fun s8 s10 wk => ∃ (k : Nat) (o : Option Addr) (c : Nat) (us : List Value), k ≤ n ∧ s10 = .int .i64 (k : Int) ∧ s8 = .slice o k c ∧ Hid (PO w2 wk gz (.slice o k c) us (piecesTo w h px k)) ∧ Hid (k < n1 → ∃ av lv, PZ w2 wk gz (.slice o k c) (allAt w h px k) (decide (0 < k)) av lv)) (fun _ s10 _ => n - (intOf s10).toNat)
  case atStart => exact ⟨0, none, 0, [], Nat.zero_le _, rfl, rfl, HP0.out, fun _ => ⟨_, _, HZ0.out⟩⟩
  case round =>
    clear HP0 HZ0
    obtain ⟨k, uo, uc, us, hk, rfl, rfl, HO, HZ⟩ := hrel
    by_cases hkn : k < n
    · have d1 : decide ((k : Int) < (n : Int)) = true := decide_eq_true (by omega)
      have d2 : decide ((k : Int) < (n1 : Int)) = true := decide_eq_true (by omega)
      obtain ⟨j, ej⟩ : ∃ j, (orderOf w h)[k]? = some j := ⟨(orderOf w h)[k]'(by rw [HOL.out]; omega), List.getElem?_eq_getElem _⟩
      have hjb : j < w * h := order_below (List.mem_of_getElem? ej)
      have hflag := flag_doc ej
      obtain ⟨av, lv, hz⟩ := HZ.out (by omega)
      have HZZ := Lib.hid hz
      have HFL := Lib.hid hflag
      have HPR := Lib.hid (HORD.out wr HO.out.past)
      obtain ⟨ob, oof, oc2, eo, olt, ocell⟩ := listed_cell HPR.out k j ej
      rw [HOL.out] at eo
      simp only [Value.slice.injEq] at eo
      obtain ⟨rfl, _, rfl⟩ := eo
      unfold nv at ocell
      obtain ⟨pb, pof, rfl, plt, p0, p1, p2, p3⟩ := pixIn_get (HPX2.out wr HO.out.past) k hkn
      have hjN : j < n1 := by rw [← HNN.out]; exact hjb
      have hwnz : ¬ (w : Int) = 0 := by omega
      have hwz : ((w : Int) == 0) = false := by simp; omega
      have hwd : decide ((w : Int) = 0) = false := decide_eq_false hwnz
      obtain ⟨x, ex⟩ : ∃ x, j % w = x := ⟨_, rfl⟩
      obtain ⟨y, ey⟩ : ∃ y, j / w = y := ⟨_, rfl⟩
      have tx : (j : Int).tmod (w : Int) = (x : Int) := by rw [Int.tmod_eq_emod_of_nonneg (by omega), ← ex]; rfl
      have ty : (j : Int).tdiv (w : Int) = (y : Int) := by rw [Int.tdiv_eq_ediv_of_nonneg (by omega), ← ey]; rfl
      have HXY := Lib.hid (And.intro ex ey)
      have hxb : x ≤ 1048576 := by rw [← ex]; exact Nat.le_trans (Nat.mod_le _ _) (by omega)
      have hyb : y ≤ 1048576 := by rw [← ey]; exact Nat.le_trans (Nat.div_le_self _ _) (by omega)
      clear hjb hflag hz ex ey
      go_wp2_with fail
      go_quiet (fail)
      have HBQ : Hid (Below wr.heap.size wr (wr.drewN nq)) := (⟨rfl, rfl, rfl, Nat.le_refl _, fun _ _ => rfl⟩ : Below wr.heap.size wr (wr.drewN nq))
      go_upto_region 9 with fail
      obtain ⟨wq, ewq⟩ : ∃ wq, wq = wr.drewN nq := ⟨_, rfl⟩
      rw [← ewq] at HBQ ⊢
      clear ewq tx ty
      go_cut [93] (fun s93 wx => s93 = .bool (flagAt w h k) ∧ Hid (Below wr.heap.size wr wx))
      case first =>
       as_aux_lemma =>
        by_cases hk0 : k = 0
        · subst hk0
          have HF : Hid (flagAt w h 0 = true) := by
            show _ = _
            rw [HFL.out]
            rfl
          go_wp2_with fail
          go_quiet (fail)
          have HBE : Hid (Below wr.heap.size wr (wq.drewN nq)) := HBQ.out.trans ((⟨rfl, rfl, rfl, Nat.le_refl _, fun _ _ => rfl⟩ : Below wr.heap.size wq (wq.drewN nq)))
          go_wp2_with fail
          go_meet
          exact ⟨by rw [HF.out], HBE.out⟩
        · obtain ⟨km, ekm⟩ : ∃ m, k - 1 = m := ⟨_, rfl⟩
          have hkm : (k : Int) - 1 = (km : Int) := by omega
          have hkml : km < n1 := by omega
          have hkml2 : km < k := by omega
          have k0a : ((k : Int) == 0) = false := by simp; omega
          have k0b : decide ((k : Int) = 0) = false := decide_eq_false (by omega)
          have k0c : decide (k = 0) = false := decide_eq_false hk0
          obtain ⟨i, ei⟩ : ∃ i, (orderOf w h)[km]? = some i := ⟨(orderOf w h)[km]'(by rw [HOL.out]; omega), List.getElem?_eq_getElem _⟩
          have hib : i < w * h := order_below (List.mem_of_getElem? ei)
          have hiN : i < n1 := by rw [← HNN.out]; exact hib
          have ef0 : flagAt w h k = docFlag w (some i) j := by rw [HFL.out, if_neg hk0, ekm, ei]
          obtain ⟨ob2, oof2, oc3, eo2, olt2, ocell2⟩ := listed_cell HPR.out km i ei
          rw [HOL.out] at eo2
          simp only [Value.slice.injEq, Option.some.injEq, Addr.mk.injEq] at eo2
          obtain ⟨⟨rfl, rfl, _⟩, _, rfl⟩ := eo2
          unfold nv at ocell2
          have oc4 := (HBQ.out.cell (p := ⟨ob, oof + km, none⟩) olt2).trans ocell2
          obtain ⟨ix, eix⟩ : ∃ x, i % w = x := ⟨_, rfl⟩
          obtain ⟨iy, eiy⟩ : ∃ y, i / w = y := ⟨_, rfl⟩
          have tx : (i : Int).tmod (w : Int) = (ix : Int) := by rw [Int.tmod_eq_emod_of_nonneg (by omega), ← eix]; rfl
          have ty : (i : Int).tdiv (w : Int) = (iy : Int) := by rw [Int.tdiv_eq_ediv_of_nonneg (by omega), ← eiy]; rfl
          have hixb : ix ≤ 1048576 := by rw [← eix]; exact Nat.le_trans (Nat.mod_le _ _) (by omega)
          have hiyb : iy ≤ 1048576 := by rw [← eiy]; exact Nat.le_trans (Nat.div_le_self _ _) (by omega)
          have ef0 : flagAt w h k = decide (iy ≠ y ∨ x < ix ∨ passNo x y ≠ passNo ix iy) := by
            rw [ef0, ← HXY.out.1, ← HXY.out.2, ← eix, ← eiy]
            rfl
          have KP1 : ∀ w', Calls Try.prog 26 #[.int .i64 (x : Int), .int .i64 (y : Int)] w' fun e w'' => e = .returned (.int .i64 (passNo x y : Int)) ∧ w'' = w' := fun w' => (rpass_any x y w' (by omega) (by omega)).mono fun e w'' h => ⟨h.1, h.2.symm⟩
          have KP2 : ∀ w', Calls Try.prog 26 #[.int .i64 (ix : Int), .int .i64 (iy : Int)] w' fun e w'' => e = .returned (.int .i64 (passNo ix iy : Int)) ∧ w'' = w' := fun w' => (rpass_any ix iy w' (by omega) (by omega)).mono fun e w'' h => ⟨h.1, h.2.symm⟩
          have hp1 := passNo_most x y
          have hp2 := passNo_most ix iy
          obtain ⟨P1, eP1⟩ : ∃ v, passNo x y = v := ⟨_, rfl⟩
          obtain ⟨P2, eP2⟩ : ∃ v, passNo ix iy = v := ⟨_, rfl⟩
          rw [eP1] at KP1 hp1 ef0
          rw [eP2] at KP2 hp2 ef0
          clear ei hib eix eiy eP1 eP2 ekm hk0 olt2 ocell2
          by_cases c1 : iy = y
          · subst c1
            have y1 : ((iy : Int) != (iy : Int)) = false := by simp
            have y2 : ((iy : Int) == (iy : Int)) = true := by simp
            have y3 : decide ((iy : Int) = (iy : Int)) = true := by simp
            by_cases c2 : x < ix
            · have z1 : decide ((x : Int) < (ix : Int)) = true := decide_eq_true (by omega)
              have z2 : decide (x < ix) = true := decide_eq_true c2
              have HF : Hid (flagAt w h k = true) := by
                show _ = _
                rw [ef0]
                exact decide_eq_true (.inr (.inl c2))
              clear ef0
              go_wp2_with fail
              go_quiet (fail)
              have HBE : Hid (Below wr.heap.size wr (wq.drewN nq)) := HBQ.out.trans ((⟨rfl, rfl, rfl, Nat.le_refl _, fun _ _ => rfl⟩ : Below wr.heap.size wq (wq.drewN nq)))
              go_wp2_with fail
              go_meet
              exact ⟨by rw [HF.out], HBE.out⟩
            · have z1 : decide ((x : Int) < (ix : Int)) = false := decide_eq_false (by omega)
              have z2 : decide (x < ix) = false := decide_eq_false c2
              by_cases c3 : P1 = P2
              · subst c3
                have v1 : ((P1 : Int) != (P1 : Int)) = false := by simp
                have v2 : ((P1 : Int) == (P1 : Int)) = true := by simp
                have HF : Hid (flagAt w h k = false) := by
                  show _ = _
                  rw [ef0]
                  exact decide_eq_false (by simp [c2])
                clear ef0
                go_wp2_with fail
                go_quiet ((go_at_call 26; first | with_reducible exact Calls.quiet_of_same (KP1 _) | with_reducible exact Calls.quiet_of_same (KP2 _)))
                have HBE : Hid (Below wr.heap.size wr (wq.drewN nq)) := HBQ.out.trans ((⟨rfl, rfl, rfl, Nat.le_refl _, fun _ _ => rfl⟩ : Below wr.heap.size wq (wq.drewN nq)))
                go_wp2_with fail
                go_meet
                exact ⟨by rw [HF.out], HBE.out⟩
              · have v1 : ((P1 : Int) != (P2 : Int)) = true := by simp; omega
                have v2 : ((P1 : Int) == (P2 : Int)) = false := by simp; omega
                have v3 : decide ((P1 : Int) = (P2 : Int)) = false := decide_eq_false (by omega)
                have v4 : decide (P1 = P2) = false := decide_eq_false c3
                have HF : Hid (flagAt w h k = true) := by
                  show _ = _
                  rw [ef0]
                  exact decide_eq_true (.inr (.inr c3))
                clear ef0
                go_wp2_with fail
                go_quiet ((go_at_call 26; first | with_reducible exact Calls.quiet_of_same (KP1 _) | with_reducible exact Calls.quiet_of_same (KP2 _)))
                have HBE : Hid (Below wr.heap.size wr (wq.drewN nq)) := HBQ.out.trans ((⟨rfl, rfl, rfl, Nat.le_refl _, fun _ _ => rfl⟩ : Below wr.heap.size wq (wq.drewN nq)))
                go_wp2_with fail
                go_meet
                exact ⟨by rw [HF.out], HBE.out⟩
          · have y1 : ((iy : Int) != (y : Int)) = true := by simp; omega
            have y2 : ((iy : Int) == (y : Int)) = false := by simp; omega
            have y3 : decide ((iy : Int) = (y : Int)) = false := decide_eq_false (by omega)
            have y4 : decide (iy = y) = false := decide_eq_false c1
            have HF : Hid (flagAt w h k = true) := by
              show _ = _
              rw [ef0]
              exact decide_eq_true (.inl c1)
            clear ef0
            go_wp2_with fail
            go_quiet (fail)
            have HBE : Hid (Below wr.heap.size wr (wq.drewN nq)) := HBQ.out.trans ((⟨rfl, rfl, rfl, Nat.le_refl _, fun _ _ => rfl⟩ : Below wr.heap.size wq (wq.drewN nq)))
            go_wp2_with fail
            go_meet
            exact ⟨by rw [HF.out], HBE.out⟩
      case rest =>
        rename World => w3
        obtain ⟨rfl, HBC⟩ := hcut
        have HO3 : Hid (PO w2 w3 gz (.slice uo k uc) us (piecesTo w h px k)) := HO.out.below HBC.out
        have HZ3 : Hid (PZ w2 w3 gz (.slice uo k uc) (allAt w h px k) (decide (0 < k)) av lv) := HZZ.out.below HBC.out
        have plt3 : pb < w3.heap.size := Nat.lt_of_lt_of_le plt HBC.out.size
        have c0 := (HBC.out.cell (p := ⟨pb, pof + k * 4, none⟩) plt).trans p0
        have c1 := (HBC.out.cell (p := ⟨pb, pof + k * 4 + 1, none⟩) plt).trans p1
        have c2 := (HBC.out.cell (p := ⟨pb, pof + k * 4 + 2, none⟩) plt).trans p2
        have c3 := (HBC.out.cell (p := ⟨pb, pof + k * 4 + 3, none⟩) plt).trans p3
        have HF0 := Lib.hid HFL.out
        obtain ⟨f, ef⟩ : ∃ f, flagAt w h k = f := ⟨_, rfl⟩
        have HEF := Lib.hid ef
        rw [ef]
        clear p0 p1 p2 p3 plt olt ocell HZZ HO HZ HPR hwnz hwz hwd hxb hyb HXY ej ef
        go_upto_if 93 with fail
        obtain ⟨nf, enf⟩ : ∃ v, (if f then 1 else 0 : Nat) = v := ⟨_, rfl⟩
        have HNF := Lib.hid enf
        have hnf : nf ≤ 1 := by rw [← enf]; split <;> omega
        clear enf
        go_cut [11] (fun s11 wx => ∃ o c, s11 = .slice o nf c ∧ Hid (wx.ownsRow w3.heap.size 5 1 (.slice o nf c) nf ((if f then [0] else [] : List Nat).map byteVal)) ∧ Hid (Below w3.heap.size w3 wx))
        case first =>
         as_aux_lemma =>
          cases f with
          | false =>
            obtain rfl : nf = 0 := HNF.out.symm
            go_wp2_with fail
            go_meet
            exact ⟨none, 0, rfl, World.ownsRow_nil _ _ _ _, Below.refl _ _⟩
          | true =>
            obtain rfl : nf = 1 := HNF.out.symm
            have HL1 : Hid (bytesIn (w3.alloc (.cells #[.int .u8 0] 5)) (.slice (some ⟨w3.heap.size, 0, none⟩) 1 1) [0] ∧ Below w3.heap.size w3 (w3.alloc (.cells #[.int .u8 0] 5))) := by
              obtain ⟨h1, _, h3⟩ := block_fresh (w := w3) (vals := #[.int .u8 0]) (zs := [0]) (n := 1) 5 rfl rfl
              exact ⟨h1, h3⟩
            go_wp2_with (at_builtin; refine wpList_append_listed (c := byteVal) rfl _ _ 36 rfl w3.heap.size 5 (.int .u8 0) Try.underlying36 infoU8 rfl (fun _ => rfl) (.slice none 0 0) 0 [] rfl (World.ownsRow_nil _ _ _ _) _ [0] rfl HL1.out.1 (by decide) HL1.out.2.size ?_)
            intro v4 w4 g1 g2
            have HG1 : Hid (w4.ownsRow w3.heap.size 5 1 v4 1 (([0] : List Nat).map byteVal)) := by
              show World.ownsRow _ _ _ _ _ _ _
              simpa using g1
            have HG2 : Hid (Below w3.heap.size w3 w4) := below_grown (e := 5) HL1.out.2 (World.ownsRow_nil _ _ _ _) g2 HL1.out.2.size
            obtain ⟨o4, c4, rfl⟩ := row_shape HG1.out
            clear g1 g2
            go_wp2_with fail
            go_meet
            exact ⟨o4, c4, rfl, HG1.out, HG2.out⟩
        case rest =>
          rename World => w3b
          obtain ⟨io, ic, rfl, HI1, HB3⟩ := hcut
          have e0 := (HB3.out.cell (p := ⟨pb, pof + k * 4, none⟩) plt3).trans c0
          have e1 := (HB3.out.cell (p := ⟨pb, pof + k * 4 + 1, none⟩) plt3).trans c1
          have e2 := (HB3.out.cell (p := ⟨pb, pof + k * 4 + 2, none⟩) plt3).trans c2
          have e3 := (HB3.out.cell (p := ⟨pb, pof + k * 4 + 3, none⟩) plt3).trans c3
          obtain ⟨pa, epa⟩ : ∃ v, (px k).a = v := ⟨_, rfl⟩
          obtain ⟨pbb, epb⟩ : ∃ v, (px k).b = v := ⟨_, rfl⟩
          obtain ⟨pcc, epc⟩ : ∃ v, (px k).c = v := ⟨_, rfl⟩
          obtain ⟨pd, epd⟩ : ∃ v, (px k).d = v := ⟨_, rfl⟩
          rw [epa] at e0
          rw [epb] at e1
          rw [epc] at e2
          rw [epd] at e3
          have HPL : Hid ((px k).list = [pa, pbb, pcc, pd]) := by show _ = _; unfold Px.list; rw [epa, epb, epc, epd]
          clear c0 c1 c2 c3 epa epb epc epd plt3 HBC
          go_upto_region 12 with fail
          obtain ⟨w4, ew4⟩ : ∃ v, v = w3b.alloc (.cells (px4 pa pbb pcc pd) 39) := ⟨_, rfl⟩
          have hb4 : Below w3b.heap.size w3b w4 := by rw [ew4]; exact below_alloc1 _ _
          have hx4 : w4.heap[w3b.heap.size]? = some (.cells (px4 pa pbb pcc pd) 39 (0, 0)) := by rw [ew4]; exact heap_alloc_new _ _
          obtain ⟨gx, egx⟩ : ∃ v, w3b.heap.size = v := ⟨_, rfl⟩
          rw [egx] at hx4 ⊢
          have x0 := cell_of_block hx4 0
          have x1 := cell_of_block hx4 1
          have x2 := cell_of_block hx4 2
          have x3 := cell_of_block hx4 3
          have HB4 : Hid (Below w3.heap.size w3 w4) := HB3.out.trans (hb4.mono HB3.out.size)
          have HI4 : Hid (w4.ownsRow w3.heap.size 5 1 (.slice io nf ic) nf ((if f then [0] else [] : List Nat).map byteVal)) := owns_kept HI1.out (fun q hq => hb4.block q (HI1.out.lt q hq).2)
          have HL4 : Hid (bytesIn (w4.alloc (.cells (px4 pa pbb pcc pd) 5)) (.slice (some ⟨w4.heap.size, 0, none⟩) 4 4) [pa, pbb, pcc, pd] ∧ Below w3.heap.size w3 (w4.alloc (.cells (px4 pa pbb pcc pd) 5))) := by
            obtain ⟨h1, _, h3⟩ := block_fresh (w := w4) (vals := px4 pa pbb pcc pd) (zs := [pa, pbb, pcc, pd]) (n := 4) 5 rfl rfl
            exact ⟨h1, HB4.out.trans (h3.mono HB4.out.size)⟩
          obtain ⟨xs0, exs0⟩ : ∃ l : List Nat, (if f then [0] else [] : List Nat) = l := ⟨_, rfl⟩
          have HXS := Lib.hid exs0
          rw [exs0] at HI4
          rw [← ew4]
          clear ew4 hb4 hx4 egx e0 e1 e2 e3 HI1 HB3 exs0
          go_upto_region 13 with (at_builtin; refine wpList_append_listed (c := byteVal) rfl _ _ 36 rfl w3.heap.size 5 (.int .u8 0) Try.underlying36 infoU8 rfl (fun _ => rfl) (.slice io nf ic) nf xs0 rfl (HI4.out.alloc _) _ [pa, pbb, pcc, pd] rfl HL4.out.1 (by simp only [List.length_cons, List.length_nil]; omega) HL4.out.2.size ?_; intro v5 v5w g1 g2; have HG1 := Lib.hid g1; have HG2 := Lib.hid g2; obtain ⟨io5, ic5, rfl⟩ := row_shape g1; clear g1 g2)
          have HGV : Hid (gz < v5w.heap.size) := by
            have h1 := (below_grown HL4.out.2 (HI4.out.alloc _) HG2.out HL4.out.2.size).size
            have h2 := HO3.out.past.size
            have h3 := HS2.out
            show _ < _
            omega
          have HB5 : Hid (Below w3.heap.size w3 v5w) := below_grown HL4.out.2 (HI4.out.alloc _) HG2.out HL4.out.2.size
          obtain ⟨zs, ezs⟩ : ∃ l, wroteOf f (px k).list = l := ⟨_, rfl⟩
          have hzs : zs = xs0 ++ [pa, pbb, pcc, pd] := by rw [← ezs, ← HXS.out, HPL.out]; rfl
          have hnz : zs.length = nf + 4 := by
            have h1 := HG1.out.1
            rw [hzs, List.length_append]
            simp only [List.length_map, Nat.mul_one, List.length_append] at h1
            simpa using h1
          have HIN5 : Hid (bytesIn v5w (.slice io5 (nf + 4) ic5) zs) := by
            show listed _ _ _ _
            rw [hzs]
            exact own_listed HG1.out
          have HZS : Hid (wroteOf (flagAt w h k) (px k).list = zs) := by show _ = _; rw [HEF.out, ezs]
          have HNZ := Lib.hid hnz
          have HSW : Hid (w3.heap.size ≤ v5w.heap.size) := HB5.out.size
          obtain ⟨ni, eni⟩ : ∃ v, nf + 4 = v := ⟨_, rfl⟩
          have hni : ni ≤ 5 := by omega
          rw [eni] at HIN5 HNZ ⊢
          clear HG1 HG2 HL4 HI4 HB4 x0 x1 x2 x3 ezs hzs hnz eni
          go_upto_if 113 with fail
          go_cut [12] (fun s12 wx => ∃ o nt c, s12 = .slice o nt c ∧ Hid ((headAt w h k).length = nt) ∧ Hid (wx.ownsRow v5w.heap.size 5 1 (.slice o nt c) nt ((headAt w h k).map byteVal)) ∧ Hid (Below v5w.heap.size v5w wx))
          case first =>
           as_aux_lemma =>
            by_cases hk0 : k = 0
            · subst hk0
              have HHD : Hid (headAt w h 0 = pngHeadOf w h) := rfl
              go_wp2_with fail
              go_at_call 27
              refine (rhead_any w h v5w hw hh).mono ?_
              rintro e wh ⟨ho, hc, rfl, HHR, HHB⟩
              go_wp2_with (at_builtin; refine wpList_append_listed (c := byteVal) rfl _ _ 36 rfl v5w.heap.size 5 (.int .u8 0) Try.underlying36 infoU8 rfl (fun _ => rfl) (.slice none 0 0) 0 [] rfl (World.ownsRow_nil _ _ _ _) (.slice ho 33 hc) (pngHeadOf w h) rfl (own_listed HHR.out) (by rw [head_length]; decide) HHB.out.size ?_)
              intro vg wg g1 g2
              have HG1 : Hid (wg.ownsRow v5w.heap.size 5 1 vg 33 ((pngHeadOf w h).map byteVal)) := by
                show World.ownsRow _ _ _ _ _ _ _
                have h1 := g1
                simp only [head_length] at h1
                exact h1
              have HG2 : Hid (Below v5w.heap.size v5w wg) := below_grown (e := 5) HHB.out (World.ownsRow_nil _ _ _ _) g2 HHB.out.size
              obtain ⟨og, cg, rfl⟩ := row_shape HG1.out
              clear g1 g2 HHR HHB
              go_wp2_with fail
              go_meet
              refine ⟨og, 33, cg, rfl, ?_, ?_, HG2.out⟩
              · show _ = _
                rw [HHD.out, head_length]
              · show World.ownsRow _ _ _ _ _ _ _
                rw [HHD.out]
                exact HG1.out
            · have k0a : ((k : Int) == 0) = false := by simp; omega
              have k0b : decide ((k : Int) = 0) = false := decide_eq_false (by omega)
              have k0c : decide (k = 0) = false := decide_eq_false hk0
              have HHD : Hid (headAt w h k = []) := by show _ = _; unfold headAt; rw [if_neg hk0]
              clear hk0
              go_wp2_with fail
              go_meet
              refine ⟨none, 0, 0, rfl, ?_, ?_, Below.refl _ _⟩
              · show _ = _
                rw [HHD.out]
                rfl
              · show World.ownsRow _ _ _ _ _ _ _
                rw [HHD.out]
                exact World.ownsRow_nil _ _ _ _
          case rest =>
            rename World => w6
            obtain ⟨tov, nt, tcv, rfl, HTL, HT6, HB6⟩ := hcut
            have HBA : Hid (Below w3.heap.size w3 w6) := HB5.out.trans (HB6.out.mono HB5.out.size)
            have HO6 := Lib.hid (HO3.out.below HBA.out)
            have hz6 := HZ3.out.below HBA.out
            have HIN6 : Hid (bytesIn w6 (.slice io5 ni ic5) zs) := listed_on HIN5.out HB6.out
            obtain ⟨L, eL⟩ : ∃ L, allAt w h px k = L := ⟨_, rfl⟩
            obtain ⟨bg, ebg⟩ : ∃ b, decide (0 < k) = b := ⟨_, rfl⟩
            have HAL := Lib.hid eL
            have HBG := Lib.hid ebg
            have hLl : L.length ≤ 5 * k := by rw [← eL]; exact all_length _ _ _ _
            have HL8 : Hid (∀ x ∈ L ++ zs, x < 256) := fun x hx => by
              rw [← eL, ← HZS.out] at hx
              exact all_bytes w h px HPX.out (k + 1) x hx
            rw [eL, ebg] at hz6
            have KW := rzwrite_own av lv _ L zs bg w6 hz6.all HL8.out hz6.out HIN6.out (by rw [List.length_append, HNZ.out]; omega)
            have HLT : Hid ((L ++ zs).length ≤ 1000000) := by show _ ≤ _; rw [List.length_append, HNZ.out]; omega
            obtain ⟨ao, ac, eav⟩ := listed_length hz6.all
            obtain ⟨lo, lc, elv⟩ := listed_length hz6.out
            have HLV3 : Hid (∀ q, inBlock lv q → q < w3.heap.size) := fun q hq => bools_in HZ3.out.out hq
            subst eav elv
            have HZ6 := Lib.hid hz6
            have hbx := hz6.box
            obtain ⟨A0, eA0⟩ : ∃ v, 4096 * fullOf L.length = v := ⟨_, rfl⟩
            obtain ⟨T0, eT0⟩ : ∃ v, (outOf L).length / 8 = v := ⟨_, rfl⟩
            obtain ⟨A1, eA1⟩ : ∃ v, 4096 * fullOf (L ++ zs).length = v := ⟨_, rfl⟩
            obtain ⟨T1, eT1⟩ : ∃ v, (outOf (L ++ zs)).length / 8 = v := ⟨_, rfl⟩
            rw [eA0, eT0] at KW hbx
            rw [eA1, eT1] at KW
            obtain ⟨an, ean⟩ : ∃ v, L.length = v := ⟨_, rfl⟩
            obtain ⟨ln, eln⟩ : ∃ v, (outOf L).length = v := ⟨_, rfl⟩
            rw [ean, eln] at KW hbx HZ6
            rw [eln] at HLV3
            have HA1 := Lib.hid (And.intro eA1 eT1)
            have q0 := cell_of_block hbx 0
            have q1 := cell_of_block hbx 1
            have q2 := cell_of_block hbx 2
            have q3 := cell_of_block hbx 3
            have q4 := cell_of_block hbx 4
            have q5 := cell_of_block hbx 5
            clear hz6 hbx eL ebg eA0 eT0 eA1 eT1 ean eln HIN5 HB5 HZ3
            go_wp2_with fail
            go_at_call 28
            refine KW.mono ?_
            clear KW
            rintro e w7 ⟨o1, m1, c1, o2, m2, c2, oy, ny, cy, rfl, HV, HY⟩
            clear q0 q1 q2 q3 q4 q5
            go_upto_region 16 with fail
            obtain ⟨w8, ew8⟩ : ∃ v, v = w7.alloc (.cells (zcells o1 m1 c1 (A1 : Int) o2 m2 c2 (T1 : Int) false true) 67) := ⟨_, rfl⟩
            have hgz2 : gz < w2.heap.size := by rw [HS2.out]; omega
            have hbz : w7.heap[gz]? = w6.heap[gz]? := HV.out.2.2.2.2.2.2.block gz (Array.getElem?_eq_some_iff.1 HZ6.out.box).1
            have hx8 : w8.heap[w7.heap.size]? = some (.cells (zcells o1 m1 c1 (A1 : Int) o2 m2 c2 (T1 : Int) false true) 67 (0, 0)) := by rw [ew8]; exact heap_alloc_new _ _
            have hy8 : w8.heap[gz]? = some (.cells (zref9 (.slice ao an ac) (.slice lo ln lc) (4096 * fullOf L.length) ((outOf L).length / 8) bg) 67 (0, 0)) := by
              rw [ew8]
              have h1 := (Array.getElem?_eq_some_iff.1 HZ6.out.box).1
              have h2 := HV.out.2.2.2.2.2.2.size
              exact ((below_alloc1 w7 _).block gz (by omega)).trans (hbz.trans HZ6.out.box)
            have r0 := cell_of_block hx8 0
            have r1 := cell_of_block hx8 1
            have r2 := cell_of_block hx8 2
            have r3 := cell_of_block hx8 3
            have r4 := cell_of_block hx8 4
            have r5 := cell_of_block hx8 5
            have t0 := cell_of_block hy8 0
            have t1 := cell_of_block hy8 1
            have t2 := cell_of_block hy8 2
            have t3 := cell_of_block hy8 3
            have t4 := cell_of_block hy8 4
            have t5 := cell_of_block hy8 5
            have f0 := unfrozen_of_block hy8 0
            have f1 := unfrozen_of_block hy8 1
            have f2 := unfrozen_of_block hy8 2
            have f3 := unfrozen_of_block hy8 3
            have f4 := unfrozen_of_block hy8 4
            have f5 := unfrozen_of_block hy8 5
            obtain ⟨g8, eg8⟩ : ∃ v, w7.heap.size = v := ⟨_, rfl⟩
            rw [eg8] at r0 r1 r2 r3 r4 r5 ⊢
            have EW8 := Lib.hid ew8
            rw [← ew8]
            clear hx8 hy8 hbz ew8 eg8
            go_upto_region 17 with fail
            obtain ⟨w9, ew9⟩ : ∃ v, v = set6 w8 gz (.slice o1 m1 c1) (.int .i64 (A1 : Int)) (.slice o2 m2 c2) (.int .i64 (T1 : Int)) (.bool false) (.bool true) := ⟨_, rfl⟩
            have HVF := Lib.hid (And.intro HV.out.2.2.2.1 HV.out.2.2.2.2.1)
            have hzn := z_next (w9 := w9) HO6.out hgz2 _ HZ6.out HV.out.1 HV.out.2.1 HV.out.2.2.2.1 HV.out.2.2.2.2.1 HV.out.2.2.2.2.2.2 HY.out _ (by rw [ew9, EW8.out, HA1.out.1, HA1.out.2])
            unfold set6 at ew9
            rw [← ew9]
            have HZ9 := Lib.hid hzn.2.1
            have HP9 := Lib.hid hzn.1
            have HY9 := Lib.hid hzn.2.2
            have hyn : (headOf bg ++ nextOf L zs).length = ny := by
              obtain ⟨o, c, e⟩ := row_shape hzn.2.2
              simp only [Value.slice.injEq] at e
              exact e.2.1.symm
            have hnl : ny ≤ 200000002 := by
              rw [← hyn, List.length_append]
              have h1 := headOf_two bg
              have h2 := nextOf_length L zs (by have := HLT.out; omega)
              omega
            have HYN := Lib.hid hyn
            have HT9 : Hid (w9.ownsRow v5w.heap.size 5 1 (.slice tov nt tcv) nt ((headAt w h k).map byteVal)) := owns_kept HT6.out (fun q hq => HP9.out.block q (HT6.out.lt q hq).2 (by
              have h1 := (HT6.out.lt q hq).1
              have h2 := HO3.out.past.size
              have h3 := HBA.out.size
              have h4 := HGV.out
              omega))
            clear ew9 hzn hyn r0 r1 r2 r3 r4 r5 t0 t1 t2 t3 t4 t5 f0 f1 f2 f3 f4 f5 HV HY HA1 EW8 HZ6 HIN6
            obtain ⟨lst, elst⟩ : ∃ b, decide (k + 1 = n1) = b := ⟨_, rfl⟩
            have HLST := Lib.hid elst
            have hk1 : k < n1 := by omega
            clear elst
            go_upto_if 131 with fail
            go_cut [17] (fun s17 wx => ∃ o c np, s17 = .slice o np c ∧ np ≤ 400000010 ∧ Hid ((packedOf bg L zs lst).length = np) ∧ Hid (bytesIn wx (.slice o np c) (packedOf bg L zs lst)) ∧ Hid (Below w6.heap.size w9 wx) ∧ Hid (lst = false → wx = w9))
            case first =>
             as_aux_lemma =>
              by_cases hl : k + 1 = n1
              · have hsub : (n1 : Int) - 1 = (k : Int) := by omega
                have l1 : ((k : Int) == (k : Int)) = true := by simp
                have hlt : lst = true := by rw [← HLST.out]; exact decide_eq_true hl
                subst hlt
                have KE := rzend_any (.slice o1 m1 c1) (.slice o2 m2 c2) (L ++ zs) true w9 HZ9.out.all HL8.out HZ9.out.out HLT.out
                have hbx := HZ9.out.box
                obtain ⟨A1', eA1⟩ : ∃ v, 4096 * fullOf (L ++ zs).length = v := ⟨_, rfl⟩
                obtain ⟨T1', eT1⟩ : ∃ v, (outOf (L ++ zs)).length / 8 = v := ⟨_, rfl⟩
                rw [eA1, eT1] at KE hbx
                have q0 := cell_of_block hbx 0
                have q1 := cell_of_block hbx 1
                have q2 := cell_of_block hbx 2
                have q3 := cell_of_block hbx 3
                have q4 := cell_of_block hbx 4
                have q5 := cell_of_block hbx 5
                clear hbx eA1 eT1
                go_wp2_with fail
                go_at_call 29
                refine KE.mono ?_
                clear KE
                rintro e w10 ⟨i1, i2, i3, i4, i5, i6, i7, i8, oy2, ny2, cy2, rfl, HV10⟩
                clear q0 q1 q2 q3 q4 q5
                have hyl : (restOf (L ++ zs) ++ fourOf (sumOf (L ++ zs))).length = ny2 := by
                  obtain ⟨o, c, e⟩ := listed_length HV10.out.1
                  simp only [Value.slice.injEq] at e
                  exact e.2.1.symm
                have HYL := Lib.hid hyl
                have hyb : ny2 ≤ 200000004 := by
                  rw [← hyl, List.length_append, fourOf_length]
                  have := restOf_length (L ++ zs) (by have := HLT.out; omega)
                  omega
                have HRST : Hid (bytesIn w10 (.slice oy2 ny2 cy2) (restOf (L ++ zs) ++ fourOf (sumOf (L ++ zs))) ∧ Below w9.heap.size w9 w10) := ⟨HV10.out.1, HV10.out.2.2⟩
                clear hyl HV10
                go_upto_region 19 with fail
                obtain ⟨w11, ew11⟩ : ∃ v, v = w10.alloc (.cells (zcells i1 i2 i3 i4 i5 i6 i7 i8 true true) 67) := ⟨_, rfl⟩
                have hb11 : Below w10.heap.size w10 w11 := by rw [ew11]; exact below_alloc1 _ _
                have HB11 : Hid (Below w9.heap.size w9 w11 ∧ bytesIn w11 (.slice oy2 ny2 cy2) (restOf (L ++ zs) ++ fourOf (sumOf (L ++ zs)))) := ⟨HRST.out.2.trans (hb11.mono HRST.out.2.size), listed_on HRST.out.1 hb11⟩
                have HY11 : Hid (w11.ownsRow w6.heap.size 5 1 (.slice oy ny cy) ny ((headOf bg ++ nextOf L zs).map byteVal)) := by
                  have h1 := HY9.out
                  rw [HYN.out] at h1
                  exact owns_kept h1 (fun q hq => HB11.out.1.block q (h1.lt q hq).2)
                have HS11 : Hid (w6.heap.size ≤ w11.heap.size) := Nat.le_trans HP9.out.size HB11.out.1.size
                rw [← ew11]
                clear ew11 hb11 HRST
                go_wp2_with (at_builtin; refine wpList_append_listed (c := byteVal) rfl _ _ 36 rfl w6.heap.size 5 (.int .u8 0) Try.underlying36 infoU8 rfl (fun _ => rfl) (.slice oy ny cy) ny (headOf bg ++ nextOf L zs) rfl HY11.out (.slice oy2 ny2 cy2) (restOf (L ++ zs) ++ fourOf (sumOf (L ++ zs))) rfl HB11.out.2 (by rw [HYL.out]; omega) HS11.out ?_)
                intro v12 w12 g1 g2
                have hg2 : Below w6.heap.size w9 w12 := (HB11.out.1.mono HP9.out.size).grown g2 HS11.out (fun q hq => (HY11.out.lt q hq).1)
                have HG2 := Lib.hid hg2
                have HG1 : Hid (bytesIn w12 v12 (packedOf bg L zs true)) := by
                  have h1 : bytesIn w12 v12 ((headOf bg ++ nextOf L zs) ++ (restOf (L ++ zs) ++ fourOf (sumOf (L ++ zs)))) := own_listed (by rw [List.map_append]; simpa using g1)
                  show listed _ _ _ _
                  unfold packedOf
                  rw [if_pos rfl]
                  exact h1
                have HGL : Hid ((packedOf bg L zs true).length = ny + ny2) := by
                  show _ = _
                  unfold packedOf
                  rw [if_pos rfl, List.length_append, HYN.out, HYL.out]
                obtain ⟨o12, c12, e12⟩ := listed_length HG1.out
                rw [HGL.out] at e12
                subst e12
                obtain ⟨np, enp⟩ : ∃ v, ny + ny2 = v := ⟨_, rfl⟩
                have hnp : np ≤ 400000010 := by omega
                rw [enp] at HG1 HGL ⊢
                clear g1 g2 hg2 enp
                go_wp2_with fail
                go_meet
                exact ⟨o12, c12, np, rfl, hnp, HGL.out, HG1.out, HG2.out, fun h => by cases h⟩
              · obtain ⟨M1, eM1⟩ : ∃ v, n1 - 1 = v := ⟨_, rfl⟩
                have hsub : (n1 : Int) - 1 = (M1 : Int) := by omega
                have l1 : ((k : Int) == (M1 : Int)) = false := by simp; omega
                have l2 : decide ((k : Int) = (M1 : Int)) = false := decide_eq_false (by omega)
                have l3 : decide (k = M1) = false := decide_eq_false (by omega)
                have hlt : lst = false := by rw [← HLST.out]; exact decide_eq_false hl
                subst hlt
                have HPE : Hid (packedOf bg L zs false = headOf bg ++ nextOf L zs) := by
                  show _ = _
                  unfold packedOf
                  rw [if_neg (by decide), List.append_nil]
                have HYB : Hid (bytesIn w9 (.slice oy ny cy) (headOf bg ++ nextOf L zs)) := own_listed HY9.out
                clear eM1 hl
                go_wp2_with fail
                go_meet
                exact ⟨oy, cy, ny, rfl, by omega, by rw [HPE.out]; exact HYN.out, by rw [HPE.out]; exact HYB.out, Below.refl _ _, fun _ => rfl⟩
            case rest =>
              rename World => w12
              obtain ⟨po2, pc2, np, rfl, hnp, HPN, HPB, HB12, HW12⟩ := hcut
              have HP12 : Hid (Past (fun q => q = gz) w6 w12) := past_then HP9.out HB12.out
              have HT12 : Hid (TR w12 w12 (.slice tov nt tcv) (.slice tov nt tcv) (headAt w h k)) := {
                row := by
                  rw [HTL.out]
                  exact ownsRow_le (owns_kept HT9.out (fun q hq => HB12.out.block q (HT6.out.lt q hq).2)) (Nat.zero_le _)
                own := fun q hq => .inl hq
                past := Past.refl _ _ }
              have hnt : nt ≤ 33 := by rw [← HTL.out]; exact headAt_length w h k
              clear HY9 HYN hnl
              obtain ⟨P, eP⟩ : ∃ P, packedOf bg L zs lst = P := ⟨_, rfl⟩
              have HEP := Lib.hid eP
              have HP8 : Hid (∀ x ∈ P, x < 256) := by rw [← eP]; exact packed_bytes _ _ _ _
              rw [eP] at HPN HPB
              obtain ⟨ts1, ets1⟩ : ∃ l, headAt w h k ++ (if P = [] then [] else chunkOf kindData P) = l := ⟨_, rfl⟩
              have HTS1 := Lib.hid ets1
              clear eP ets1
              go_upto_if 143 with fail
              go_cut [12] (fun s12 wx => ∃ o n' c, s12 = .slice o n' c ∧ n' ≤ 400000100 ∧ Hid (ts1.length = n') ∧ Hid (TR w12 wx (.slice tov nt tcv) (.slice o n' c) ts1))
              case first =>
               as_aux_lemma =>
                by_cases hp0 : np = 0
                · subst hp0
                  have hpe : P = [] := List.eq_nil_of_length_eq_zero HPN.out
                  have HTE : Hid (ts1 = headAt w h k) := by show _ = _; rw [← HTS1.out, if_pos hpe, List.append_nil]
                  clear hpe
                  go_wp2_with fail
                  go_meet
                  exact ⟨tov, nt, tcv, rfl, by omega, by rw [HTE.out]; exact HTL.out, by rw [HTE.out]; exact HT12.out⟩
                · have d0 : decide ((0 : Int) < (np : Int)) = true := decide_eq_true (by omega)
                  have d0' : decide (0 < np) = true := decide_eq_true (by omega)
                  have d0'' : 0 < np := by omega
                  have hpe : P ≠ [] := fun e => hp0 (by rw [← HPN.out, e]; rfl)
                  have HTE : Hid (ts1 = headAt w h k ++ chunkOf kindData P) := by show _ = _; rw [← HTS1.out, if_neg hpe]
                  have KC := rchunk_any ⟨#[73, 68, 65, 84]⟩ kindData _ _ w12 data_text rfl kind_small.2.1 HPB.out HP8.out (by rw [HPN.out]; omega)
                  clear hpe hp0
                  go_wp2_with fail
                  go_at_call 30
                  refine KC.mono ?_
                  clear KC
                  rintro e w13 ⟨o13, n13, c13, rfl, HN13, HR13, HB13⟩
                  have hcl : n13 = np + 12 := by
                    have h1 := HN13.out
                    rw [chunk_length _ _ rfl, HPN.out] at h1
                    omega
                  have hn13 : n13 ≤ 400000022 := by omega
                  clear hcl
                  have hr12 : w13.ownsRow 0 5 1 (.slice tov nt tcv) nt ((headAt w h k).map byteVal) := by
                    have h1 := HT12.out.row
                    rw [HTL.out] at h1
                    exact owns_kept h1 (fun q hq => HB13.out.block q (h1.lt q hq).2)
                  have HR12 := Lib.hid hr12
                  clear hr12
                  go_wp2_with (at_builtin; refine wpList_append_to (c := byteVal) rfl _ _ 36 rfl 5 (.int .u8 0) 1 Try.underlying36 infoU8 rfl (fun _ => rfl) (.slice tov nt tcv) nt (headAt w h k) rfl HR12.out (.slice o13 n13 c13) (chunkOf kindData P) rfl (own_listed HR13.out) (by rw [HN13.out]; unfold maxLen; omega) (by rw [HN13.out]; omega) ?_)
                  intro v14 w14 g1 g2 g3
                  rw [HN13.out] at g1
                  have hT := HT12.out.more (zs := chunkOf kindData P) HB13.out (nt + n13) (by rw [List.length_append, HTL.out, HN13.out]) (by rw [List.map_append]; simpa using g1) g2 g3
                  rw [← HTE.out] at hT
                  have HT := Lib.hid hT
                  have HTN : Hid (ts1.length = nt + n13) := by show _ = _; rw [HTE.out, List.length_append, HTL.out, HN13.out]
                  obtain ⟨o14, c14, rfl⟩ := row_shape g1
                  obtain ⟨n14, en14⟩ : ∃ v, nt + n13 = v := ⟨_, rfl⟩
                  have hn14 : n14 ≤ 400000100 := by omega
                  rw [en14] at HT HTN ⊢
                  clear g1 g2 g3 hT en14
                  go_wp2_with fail
                  go_meet
                  exact ⟨o14, n14, c14, rfl, hn14, HTN.out, HT.out⟩
              case rest =>
                rename World => w14
                obtain ⟨so, sn, sc, rfl, hsn, HSN, HTR⟩ := hcut
                have HPC : Hid (pieceAt w h px k = ts1 ++ (if lst then chunkOf kindEnd [] else [])) := by
                  show _ = _
                  unfold pieceAt pieceOf
                  rw [HBG.out, HAL.out, HZS.out, HNN.out, HLST.out, HEP.out, HTS1.out]
                go_upto_if 152 with fail
                go_cut [12] (fun s12 wx => ∃ o n' c, s12 = .slice o n' c ∧ Hid ((pieceAt w h px k).length = n') ∧ Hid (TR w12 wx (.slice tov nt tcv) (.slice o n' c) (pieceAt w h px k)))
                case first =>
                 as_aux_lemma =>
                  by_cases hl : k + 1 = n1
                  · have hsub : (n1 : Int) - 1 = (k : Int) := by omega
                    have l1 : ((k : Int) == (k : Int)) = true := by simp
                    have hlt : lst = true := by rw [← HLST.out]; exact decide_eq_true hl
                    subst hlt
                    have HTE : Hid (pieceAt w h px k = ts1 ++ chunkOf kindEnd []) := by show _ = _; rw [HPC.out, if_pos rfl]
                    have KC := rchunk_any ⟨#[73, 69, 78, 68]⟩ kindEnd (.slice none 0 0) [] w14 end_text rfl kind_small.2.2 (listed_none _ _) (fun x hx => by cases hx) (by decide)
                    go_wp2_with fail
                    go_at_call 30
                    refine KC.mono ?_
                    clear KC
                    rintro e w13 ⟨o13, n13, c13, rfl, HN13, HR13, HB13⟩
                    have hn13 := HN13.out
                    rw [chunk_length _ _ rfl] at hn13
                    have hn13 : n13 = 12 := hn13.symm
                    subst hn13
                    have hr12 : w13.ownsRow 0 5 1 (.slice so sn sc) sn (ts1.map byteVal) := by
                      have h1 := HTR.out.row
                      rw [HSN.out] at h1
                      exact owns_kept h1 (fun q hq => HB13.out.block q (h1.lt q hq).2)
                    have HR12 := Lib.hid hr12
                    clear hr12
                    go_wp2_with (at_builtin; refine wpList_append_to (c := byteVal) rfl _ _ 36 rfl 5 (.int .u8 0) 1 Try.underlying36 infoU8 rfl (fun _ => rfl) (.slice so sn sc) sn ts1 rfl HR12.out (.slice o13 12 c13) (chunkOf kindEnd []) rfl (own_listed HR13.out) (by rw [HN13.out]; unfold maxLen; omega) (by rw [HN13.out]; omega) ?_)
                    intro v15 w15 g1 g2 g3
                    rw [HN13.out] at g1
                    have hT := HTR.out.more (zs := chunkOf kindEnd []) HB13.out (sn + 12) (by rw [List.length_append, HSN.out, HN13.out]) (by rw [List.map_append]; simpa using g1) g2 g3
                    rw [← HTE.out] at hT
                    have HT := Lib.hid hT
                    have HTN : Hid ((pieceAt w h px k).length = sn + 12) := by show _ = _; rw [HTE.out, List.length_append, HSN.out, HN13.out]
                    obtain ⟨o14, c14, rfl⟩ := row_shape g1
                    obtain ⟨n14, en14⟩ : ∃ v, sn + 12 = v := ⟨_, rfl⟩
                    rw [en14] at HT HTN ⊢
                    clear g1 g2 g3 hT en14
                    go_wp2_with fail
                    go_meet
                    exact ⟨o14, n14, c14, rfl, HTN.out, HT.out⟩
                  · obtain ⟨M1, eM1⟩ : ∃ v, n1 - 1 = v := ⟨_, rfl⟩
                    have hsub : (n1 : Int) - 1 = (M1 : Int) := by omega
                    have l1 : ((k : Int) == (M1 : Int)) = false := by simp; omega
                    have l2 : decide ((k : Int) = (M1 : Int)) = false := decide_eq_false (by omega)
                    have l3 : decide (k = M1) = false := decide_eq_false (by omega)
                    have hlt : lst = false := by rw [← HLST.out]; exact decide_eq_false hl
                    subst hlt
                    have HTE : Hid (pieceAt w h px k = ts1) := by show _ = _; rw [HPC.out, if_neg (by decide), List.append_nil]
                    clear eM1 hl
                    go_wp2_with fail
                    go_meet
                    exact ⟨so, sn, sc, rfl, by rw [HTE.out]; exact HSN.out, by rw [HTE.out]; exact HTR.out⟩
                case rest =>
                  rename World => wE
                  obtain ⟨eo, en, ec, rfl, HEN, HTE⟩ := hcut
                  have hs36 := HBA.out.size
                  have hs35 : w3.heap.size ≤ v5w.heap.size := by
                    have h1 := HT6.out
                    exact HSW.out
                  have hs2 := HO3.out.past.size
                  have htb : ∀ q, (Value.slice tov nt tcv).ownBlock = some q → v5w.heap.size ≤ q ∧ q < w6.heap.size := fun q hq => HT6.out.lt q hq
                  have hp3 : Past (fun q => q = gz) w3 wE := by
                    have h1 : Past (fun q => q = gz) w3 w6 := Past.of_below HBA.out
                    have h2 : Past (fun q => q = gz) w3 w12 := h1.trans HP12.out (fun q hq => .inl hq)
                    refine ⟨HTE.out.past.os.trans h2.os, HTE.out.past.tape.trans h2.tape, HTE.out.past.output.trans h2.output, Nat.le_trans h2.size HTE.out.past.size, fun q hq hn => (HTE.out.past.block q (by have := h2.size; omega) (fun e => ?_)).trans (h2.block q hq hn)⟩
                    have := htb q e
                    omega
                  have HOE : Hid (PO w2 wE gz (.slice uo k uc) us (piecesTo w h px k)) := HO3.out.on hp3 hgz2
                  have HZE : Hid (k + 1 < n1 → PZ w2 wE gz (.slice uo k uc) (allAt w h px (k + 1)) (decide (0 < k + 1)) (.slice o1 m1 c1) (.slice o2 m2 c2)) := by
                    intro hlt
                    have hl : lst = false := by rw [← HLST.out]; exact decide_eq_false (by omega)
                    have hw := HW12.out hl
                    subst hw
                    have hz : PZ w2 w12 gz (.slice uo k uc) (allAt w h px (k + 1)) (decide (0 < k + 1)) (.slice o1 m1 c1) (.slice o2 m2 c2) := by
                      rw [allAt, HAL.out, HZS.out, decide_eq_true (Nat.succ_pos k)]
                      exact HZ9.out
                    refine hz.other HTE.out.past (fun e => ?_) (fun q hq e => ?_) (fun q hq e => ?_)
                    · have := htb gz e
                      omega
                    · have h1 := htb q e
                      have h2 := HVF.out.1 q hq
                      omega
                    · have h1 := htb q e
                      rcases HVF.out.2 q hq with h2 | h2
                      · rw [h2] at hq
                        have := HLV3.out q hq
                        omega
                      · omega
                  have hrow := HOE.out.row
                  have hul : us.length = k := by rw [HOE.out.len, piecesTo_length]
                  rw [hul] at hrow
                  obtain ⟨ts, hts⟩ := HOE.out.slices
                  have HROW : Hid (wE.ownsRow 0 36 1 (.slice uo k uc) k (ts.map sliceOf)) := by
                    show World.ownsRow _ _ _ _ _ _ _
                    rw [← hts]
                    exact hrow
                  have HTS := Lib.hid hts
                  have HUL := Lib.hid hul
                  have HHZ := Lib.hid (And.intro hgz2 htb)
                  have HS35 := Lib.hid (And.intro hs35 hs2)
                  have HWE := Lib.hid HP12.out.size
                  clear hs36 hs35 hs2 htb hp3 hrow hul hts HZ9 HP12 HW12 HVF HLV3 HT12 HP9 HB12 hgz2
                  go_wp2_with (at_builtin; refine wpList_append_to (c := sliceOf) rfl _ _ 34 rfl 36 (.slice none 0 0) 24 Try.underlying34 info_list rfl (fun _ => rfl) (.slice uo k uc) k ts rfl (HROW.out.alloc _) _ [(eo, en, ec)] rfl (listed_one wE (eo, en, ec) (.slice eo en ec) _ rfl) (by unfold maxLen; simp only [List.length_cons, List.length_nil]; omega) (by simp only [List.length_cons, List.length_nil]; omega) ?_; intro vF wF g1 g2 g3; have HG1 := Lib.hid g1; have HG2 := Lib.hid g2; have HG3 := Lib.hid g3; obtain ⟨fo, fc, rfl⟩ := row_shape g1; clear g1 g2 g3)
                  have HPO : Hid (PO w2 wF gz (.slice fo (k + 1) fc) (us ++ [.slice eo en ec]) (piecesTo w h px (k + 1))) := by
                    show PO _ _ _ _ _ _
                    rw [piecesTo_next]
                    refine HOE.out.more HHZ.out.1 (below_alloc1 wE _) (.slice eo en ec) (pieceAt w h px k) (own_listed HTE.out.row) (fun q hq => ?_) ?_ HG2.out HG3.out
                    · have h1 := HTE.out.own q (own_in HTE.out.row q hq)
                      have h2 := HO3.out.past.size
                      have h3 : w2.heap.size ≤ q ∧ w3.heap.size ≤ q := by
                        rcases h1 with h1 | h1
                        · have := HHZ.out.2 q h1
                          have := HS35.out
                          omega
                        · have := HS35.out
                          have := HBA.out.size
                          have := HWE.out
                          omega
                      refine ⟨h3.1, fun e => ?_⟩
                      have := (HO3.out.row.lt q e).2
                      omega
                    · have h1 := HG1.out
                      rw [List.map_append, ← HTS.out] at h1
                      rw [HUL.out]
                      exact h1
                  have HPZ : Hid (k + 1 < n1 → ∃ av lv, PZ w2 wF gz (.slice fo (k + 1) fc) (allAt w h px (k + 1)) (decide (0 < k + 1)) av lv) := fun hlt => by
                    refine ⟨_, _, (HZE.out hlt).more (fun e => ?_) (below_alloc1 wE _) HG2.out HG3.out⟩
                    have := HOE.out.fresh gz e
                    have := HHZ.out.1
                    omega
                  clear HG1 HG2 HG3 HOE HZE HROW HTE HHZ HS35 HWE HUL HTS
                  go_roundw
                  case rel => exact ⟨k + 1, fo, fc, us ++ [.slice eo en ec], by omega, rfl, rfl, HPO, HPZ⟩
                  case measure => simp [intOf]; omega
    · obtain rfl : k = n := by omega
      have d1 : decide ((k : Int) < (k : Int)) = false := decide_eq_false (by omega)
      go_wp2_with fail
      go_ret
      refine ⟨uo, uc, rfl, ⟨us, own_listed (c := fun u : Value => u) (by rw [List.map_id']; exact HO.out.row), HO.out.len, HO.out.els, fun q hq => ?_, fun u hu q hq => ?_⟩, HBV.out _ HO.out.past⟩
      · have h1 := HO.out.fresh q (own_in HO.out.row q hq)
        have h2 := HWgz.out
        have h3 := HS2.out
        omega
      · have h1 := (HO.out.elF u hu q hq).1
        have h2 := HWgz.out
        have h3 := HS2.out
        omega
theorem rpieces_any (w h n : Nat) (px : Nat → Px) (pv : Value) (W : World) (hw1 : 1 ≤ w) (hw : w ≤ 1024) (hh1 : 1 ≤ h) (hh : h ≤ 1024) (hpx : ∀ k, (px k).ok) (hp : pixIn W pv n px) (hn : n ≤ w * h) (hn2 : n ≤ 100000) :
    Calls Try.prog 16 #[.int .i64 (w : Int), .int .i64 (h : Int), pv] W fun e w' => ∃ o c, e = .returned (.slice o n c) ∧ Hid (listsIn w' (.slice o n c) (piecesTo w h px n)) ∧ Hid (∀ q, inBlock (.slice o n c) q → W.heap.size ≤ q) ∧ Hid (Below W.heap.size W w') := by
  refine (rpieces_new w h n px pv W hw1 hw hh1 hh hpx hp hn hn2).mono ?_
  rintro e w' ⟨o, c, rfl, h1, h2⟩
  obtain ⟨us, g1, g2, g3, g4, g5⟩ := h1.out
  exact ⟨o, c, rfl, ⟨us, g1, g2, g3⟩, g4, h2⟩
theorem pdoes : PDoes := ⟨fun w h n px pv W a b c d e f g i => rpieces_any w h n px pv W a b c d e f g i⟩
end Go.Proofs.Ytefdlidjdmlnaaa.Fx
