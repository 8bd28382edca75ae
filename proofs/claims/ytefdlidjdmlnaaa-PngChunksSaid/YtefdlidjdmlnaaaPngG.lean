/-
  An encoder's Put, as landed. The conditions stand in it.
-/
import Derived.Test.YtefdlidjdmlnaaaPngF
namespace Go.Proofs.Ytefdlidjdmlnaaa.Fx
open Go Go.RowKit Go.Joins
set_option linter.unusedVariables false
/-- What Put tells. -/
def pieceOf (hs : List Nat) (begun : Bool) (all zs : List Nat) (last : Bool) : List Nat :=
  hs ++ (if packedOf begun all zs last = [] then [] else chunkOf kindData (packedOf begun all zs last)) ++ (if last then chunkOf kindEnd [] else [])
theorem packed_bytes (begun : Bool) (all zs : List Nat) (last : Bool) : ∀ x ∈ packedOf begun all zs last, x < 256 := by
  intro x hx
  unfold packedOf at hx
  rcases List.mem_append.1 hx with hx | hx
  · rcases List.mem_append.1 hx with hx | hx
    · cases begun with
      | true => cases hx
      | false => exact (by decide : ∀ x ∈ headOf false, x < 256) x hx
    · exact bytesAt_bytes _ _ _ x hx
  · cases last with
    | true =>
      rw [if_pos rfl] at hx
      rcases List.mem_append.1 hx with hx | hx
      · exact bytesAt_bytes _ _ _ x hx
      · exact fourOf_bytes _ x hx
    | false => cases hx
/-- Between pack and the end: an encoder whose head is out; a row of what is told (v, of these bytes). -/
structure Mid9 (W w : World) (h g : Nat) (hd0 v : Value) (ts : List Nat) (rv0 : Value) (OZ0 : Nat → Prop) (sv rv : Value) (col : Nat) (rs : List Nat) (fl : List Bool) (all : List Nat) (OZ : Nat → Prop) : Prop where
  box : w.heap[h]? = some (.cells #[.pointer (some ⟨g, 0, none⟩)] 44 (0, 0))
  pic : if fl = [] then w.heap[g]? = some (.cells (picCells (.slice none 0 0) sv 0 col rv) 59 (0, 0)) else Pic w g (.slice none 0 0) sv rv col rs fl all true OZ
  row : w.ownsRow 0 5 1 v ts.length (ts.map byteVal)
  hdF : ∀ k, v.ownBlock = some k → k ≠ h ∧ k ≠ g ∧ ¬ OZ k ∧ ¬ inBlock rv k
  ne : h ≠ g
  noh : ¬ OZ h
  rvh : ¬ inBlock rv h
  rvl : ∀ k, inBlock rv k → k < w.heap.size
  ozl : ∀ k, OZ k → k < w.heap.size
  sub : ∀ k, OZ k → OZ0 k ∨ W.heap.size ≤ k
  rvs : ∀ k, inBlock rv k → inBlock rv0 k
  past : Past (fun k => k = g ∨ OZ0 k ∨ hd0.ownBlock = some k) W w
  hd0 : ∀ k, v.ownBlock = some k → hd0.ownBlock = some k ∨ W.heap.size ≤ k
theorem Pic.size {w : World} {g : Nat} {hd sv rv : Value} {col : Nat} {rs : List Nat} {fl : List Bool} {all : List Nat} {begun : Bool} {OZ : Nat → Prop} (h : Pic w g hd sv rv col rs fl all begun OZ) : g < w.heap.size := (Array.getElem?_eq_some_iff.1 h.own).1
theorem Mid9.gsize {W w : World} {h g : Nat} {hd0 v rv0 sv rv : Value} {ts : List Nat} {OZ0 OZ : Nat → Prop} {col : Nat} {rs : List Nat} {fl : List Bool} {all : List Nat} (m : Mid9 W w h g hd0 v ts rv0 OZ0 sv rv col rs fl all OZ) : g < w.heap.size := by
  have hp := m.pic
  split at hp
  · exact (Array.getElem?_eq_some_iff.1 hp).1
  · exact hp.size
/-- What keeps all its blocks keeps it. -/
theorem Mid9.keep {W w w' : World} {h g : Nat} {hd0 v v' rv0 sv rv : Value} {ts ts' : List Nat} {OZ0 OZ : Nat → Prop} {col : Nat} {rs : List Nat} {fl : List Bool} {all : List Nat} (m : Mid9 W w h g hd0 v ts rv0 OZ0 sv rv col rs fl all OZ) (hs : w.heap.size ≤ w'.heap.size) (hk : ∀ k, k < w.heap.size → v.ownBlock ≠ some k → w'.heap[k]? = w.heap[k]?)
    (hrow : w'.ownsRow 0 5 1 v' ts'.length (ts'.map byteVal)) (hv : ∀ k, v'.ownBlock = some k → v.ownBlock = some k ∨ w.heap.size ≤ k) (hpast : Past (fun k => v.ownBlock = some k) w w') : Mid9 W w' h g hd0 v' ts' rv0 OZ0 sv rv col rs fl all OZ :=
  { m with
    box := (hk h (Array.getElem?_eq_some_iff.1 m.box).1 (fun e => (m.hdF h e).1 rfl)).trans m.box
    pic := by
      have hp := m.pic
      split at hp
      · rename_i h0
        rw [if_pos h0]
        exact (hk g (Array.getElem?_eq_some_iff.1 hp).1 (fun e => (m.hdF g e).2.1 rfl)).trans hp
      · rename_i h0
        rw [if_neg h0]
        exact hp.keep hs (hk g hp.size (fun e => (m.hdF g e).2.1 rfl)) (fun k ho => hk k (m.ozl k ho) (fun e => (m.hdF k e).2.2.1 ho)) (fun k ho => hk k (m.rvl k ho) (fun e => (m.hdF k e).2.2.2 ho))
    row := hrow
    hdF := fun k hk' => (hv k hk').elim (m.hdF k) (fun h' => ⟨by have := (Array.getElem?_eq_some_iff.1 m.box).1; omega, by have := m.gsize; omega, fun ho => by have := m.ozl k ho; omega, fun ho => by have := m.rvl k ho; omega⟩)
    rvl := fun k ho => Nat.lt_of_lt_of_le (m.rvl k ho) hs
    ozl := fun k ho => Nat.lt_of_lt_of_le (m.ozl k ho) hs
    past := m.past.trans hpast (fun k hk' => (m.hd0 k hk').imp (fun h' => .inr (.inr h')) id)
    hd0 := fun k hk' => (hv k hk').elim (m.hd0 k) (fun h' => .inr (Nat.le_trans m.past.size h')) }
theorem Mid9.below {W w w' : World} {h g : Nat} {hd0 v rv0 sv rv : Value} {ts : List Nat} {OZ0 OZ : Nat → Prop} {col : Nat} {rs : List Nat} {fl : List Bool} {all : List Nat} (m : Mid9 W w h g hd0 v ts rv0 OZ0 sv rv col rs fl all OZ) (hb : Below w.heap.size w w') : Mid9 W w' h g hd0 v ts rv0 OZ0 sv rv col rs fl all OZ :=
  m.keep hb.size (fun k hk _ => hb.block k hk) (owns_kept m.row (fun k hk => hb.block k (m.row.lt k hk).2)) (fun k hk => .inl hk) (Past.of_below hb)
/-- Behind an append to what is told. -/
theorem Mid9.append {W w w' : World} {h g : Nat} {hd0 v v' rv0 sv rv : Value} {ts zs : List Nat} {OZ0 OZ : Nat → Prop} {col : Nat} {rs : List Nat} {fl : List Bool} {all : List Nat} (m : Mid9 W w h g hd0 v ts rv0 OZ0 sv rv col rs fl all OZ) (n : Nat) (hn : (ts ++ zs).length = n)
    (h1 : w'.ownsRow 0 5 1 v' n ((ts ++ zs).map byteVal)) (h2 : w.grownBy w' v.ownBlock) (h3 : ∀ k, v'.ownBlock = some k → v.ownBlock = some k ∨ w.heap.size ≤ k) : Mid9 W w' h g hd0 v' (ts ++ zs) rv0 OZ0 sv rv col rs fl all OZ := by
  subst hn
  exact m.keep h2.size (fun k hk hn => h2.block k hk (fun e => hn e.symm)) h1 h3 ⟨h2.os, h2.tape, h2.output, h2.size, fun k hk hn => h2.block k hk (fun e => hn e.symm)⟩
/-- Where it starts: behind pack. -/
theorem mid_start {W w1 w2 w3 : World} {h g : Nat} {hd sv rv : Value} {col : Nat} {rs hs : List Nat} {f : Bool} {fl : List Bool} {all zs : List Nat} {begun : Bool} {OZ : Nat → Prop} (he : Enc W h g hd sv rv col rs hs (f :: fl) all begun OZ) (hb : Below W.heap.size W w1) (e2 : w2 = (w1.setCell ⟨g, 0, none⟩ (.slice none 0 0)).drew) {rv' : Value} {col' : Nat} {rs' : List Nat} {OZ' : Nat → Prop}
    (k1 : if fl = [] then w3.heap[g]? = some (.cells (picCells (.slice none 0 0) sv 0 col' rv') 59 (0, 0)) else Pic w3 g (.slice none 0 0) sv rv' col' rs' fl (all ++ zs) true OZ') (k2 : ∀ b, inBlock rv' b → inBlock rv b) (k3 : ∀ b, OZ' b → OZ b ∨ w2.heap.size ≤ b) (k4 : Past (fun k => k = g ∨ OZ k) w2 w3) (k5 : ∀ k, OZ' k → k < w3.heap.size) :
    Mid9 W w3 h g hd hd hs rv OZ sv rv' col' rs' fl (all ++ zs) OZ' := by
  have hlt := he.lt
  have s1 := hb.size
  have hs2 : w2.heap.size = w1.heap.size := by rw [e2]; show (w1.setCell _ _).heap.size = _; simp
  have hk2 : ∀ k, k < W.heap.size → k ≠ g → w2.heap[k]? = W.heap[k]? := fun k hk hkg => by
    rw [e2]
    exact (Below.heap_setCell _ _ _ k hkg).trans (hb.block k hk)
  have hp2 : Past (fun k => k = g) W w2 := by
    rw [e2]
    exact ⟨hb.os, hb.tape, hb.output, by show _ ≤ (w1.setCell _ _).heap.size; simpa using s1, fun k hk hn => (Below.heap_setCell _ _ _ k hn).trans (hb.block k hk)⟩
  have hp3 : Past (fun k => k = g ∨ OZ k) W w3 := (past_more hp2 (fun k hk => .inl hk) : Past (fun k => k = g ∨ OZ k) W w2).trans k4 (fun k hk => .inl hk)
  have hno : ∀ k, k < W.heap.size → ¬ OZ k → ¬ OZ' k := fun k hk ho h' => (k3 k h').elim ho (fun h2 => by omega)
  exact {
    box := (hp3.block h (hlt h (.inl rfl)) (fun h' => h'.elim he.ne he.noh)).trans he.box
    pic := k1
    row := owns_kept he.head (fun k hk => hp3.block k (hlt k (.inr (.inr (.inl hk)))) (fun h' => h'.elim (he.hdF k hk).2.1 (he.hdF k hk).2.2.1))
    hdF := fun k hk => ⟨(he.hdF k hk).1, (he.hdF k hk).2.1, hno k (hlt k (.inr (.inr (.inl hk)))) (he.hdF k hk).2.2.1, fun h' => (he.hdF k hk).2.2.2 (k2 k h')⟩
    ne := he.ne
    noh := hno h (hlt h (.inl rfl)) he.noh
    rvh := fun h' => he.rvh (k2 h h')
    rvl := fun k hk => Nat.lt_of_lt_of_le (hlt k (.inr (.inr (.inr (.inl (k2 k hk)))))) hp3.size
    ozl := k5
    sub := fun k hk => (k3 k hk).imp id (fun h' => by omega)
    rvs := k2
    past := past_more hp3 (fun k hk => hk.elim .inl (fun h' => .inr (.inl h')))
    hd0 := fun k hk => .inl hk }
/-- Where it ends, with pixels left. -/
theorem Mid9.goes {W w : World} {h g : Nat} {hd0 v rv0 sv rv : Value} {ts : List Nat} {OZ0 OZ : Nat → Prop} {col : Nat} {rs : List Nat} {fl : List Bool} {all : List Nat} (m : Mid9 W w h g hd0 v ts rv0 OZ0 sv rv col rs fl all OZ) (h0 : fl ≠ []) :
    ∃ O', isPng w (.pointer (some ⟨h, 0, none⟩)) [] fl all true O' ∧ (∀ k, O' k → ownE h g hd0 rv0 OZ0 k ∨ W.heap.size ≤ k) ∧ Past (ownE h g hd0 rv0 OZ0) W w := by
  have hp := m.pic
  rw [if_neg h0] at hp
  refine ⟨_, ⟨h, g, rfl, .inl ⟨h0, .slice none 0 0, sv, rv, col, rs, OZ, ⟨m.box, hp, World.ownsRow_nil _ _ _ _, fun k hk => by simp [Value.ownBlock] at hk, m.ne, m.noh, m.rvh⟩, rfl⟩⟩, ?_, past_more m.past (fun k hk => ?_)⟩
  · rintro k (rfl | rfl | hk | hk | hk)
    · exact .inl (.inl rfl)
    · exact .inl (.inr (.inl rfl))
    · simp [Value.ownBlock] at hk
    · exact .inl (.inr (.inr (.inr (.inl (m.rvs k hk)))))
    · exact (m.sub k hk).imp (fun h' => .inr (.inr (.inr (.inr h')))) id
  · rcases hk with hk | hk | hk
    · exact .inr (.inl hk)
    · exact .inr (.inr (.inr (.inr hk)))
    · exact .inr (.inr (.inl hk))
abbrev setPic (w : World) (g : Nat) : World := ((((w.setCell ⟨g, 0, none⟩ (.slice none 0 0)).setCell ⟨g, 1, none⟩ (.pointer none)).setCell ⟨g, 2, none⟩ (.int .i64 0)).setCell ⟨g, 3, none⟩ (.int .i64 0)).setCell ⟨g, 4, none⟩ (.slice none 0 0)
theorem past_setPic (w : World) (g : Nat) : Past (fun k => k = g) w (setPic w g) :=
  ((((past_setCell w g 0 _).trans (past_setCell _ g 1 _) (fun _ h => .inl h)).trans (past_setCell _ g 2 _) (fun _ h => .inl h)).trans (past_setCell _ g 3 _) (fun _ h => .inl h)).trans (past_setCell _ g 4 _) (fun _ h => .inl h)
/-- Where it ends, behind the last pixel. -/
theorem Mid9.over {W w w' : World} {h g : Nat} {hd0 v rv0 sv rv : Value} {ts : List Nat} {OZ0 OZ : Nat → Prop} {col : Nat} {rs : List Nat} {all : List Nat} (m : Mid9 W w h g hd0 v ts rv0 OZ0 sv rv col rs [] all OZ) (e : w' = setPic w g) (all' : List Nat) :
    ∃ O', isPng w' (.pointer (some ⟨h, 0, none⟩)) [] [] all' true O' ∧ (∀ k, O' k → ownE h g hd0 rv0 OZ0 k ∨ W.heap.size ≤ k) ∧ Past (ownE h g hd0 rv0 OZ0) W w' ∧ bytesIn w' v ts := by
  have hp := m.pic
  rw [if_pos rfl] at hp
  have hk : ∀ k, k ≠ g → w'.heap[k]? = w.heap[k]? := fun k hk => by
    rw [e]
    unfold setPic
    rw [Below.heap_setCell _ _ _ k hk, Below.heap_setCell _ _ _ k hk, Below.heap_setCell _ _ _ k hk, Below.heap_setCell _ _ _ k hk, Below.heap_setCell _ _ _ k hk]
  have hsz : w'.heap.size = w.heap.size := by rw [e]; simp [setPic]
  refine ⟨_, ⟨h, g, rfl, .inr ⟨rfl, m.ne, (hk h m.ne).trans m.box, ?_, rfl⟩⟩, ?_, ?_, own_listed (owns_kept m.row (fun k hk' => hk k (m.hdF k hk').2.1))⟩
  · rw [e]
    exact block_setCell (block_setCell (block_setCell (block_setCell (block_setCell hp _) _) _) _) _
  · rintro k (rfl | rfl)
    · exact .inl (.inl rfl)
    · exact .inl (.inr (.inl rfl))
  · have h1 : Past (ownE h g hd0 rv0 OZ0) W w := past_more m.past (fun k hk => by
      rcases hk with hk | hk | hk
      · exact .inr (.inl hk)
      · exact .inr (.inr (.inr (.inr hk)))
      · exact .inr (.inr (.inl hk)))
    refine h1.trans (O' := fun k => k = g) ?_ (fun k hk => .inl (.inr (.inl hk)))
    rw [e]
    exact past_setPic w g
set_option maxHeartbeats 4000000 in
set_option maxRecDepth 100000 in
theorem put_code9 (W : World) (v : Value) (hs : List Nat) (f : Bool) (fl : List Bool) (all : List Nat) (begun : Bool) (O : Nat → Prop) (a b c d : Nat) (hP : isPng W v hs (f :: fl) all begun O) (h8 : ∀ x ∈ all ++ wroteOf f [a, b, c, d], x < 256) (hl : (all ++ wroteOf f [a, b, c, d]).length ≤ 100000000) (hh : hs.length ≤ 1000) :
    Calls Try.prog 17 #[v, .agg (px4 a b c d)] W fun e w' => ∃ o n c' O', e = .returned (.tuple #[.slice o n c', .int .i64 0]) ∧ Hid ((pieceOf hs begun all (wroteOf f [a, b, c, d]) fl.isEmpty).length = n) ∧ Hid (bytesIn w' (.slice o n c') (pieceOf hs begun all (wroteOf f [a, b, c, d]) fl.isEmpty)) ∧ Hid (isPng w' v [] fl (all ++ wroteOf f [a, b, c, d]) true O') ∧ Hid (∀ k, O' k → O k ∨ W.heap.size ≤ k) ∧ Hid (Past O W w') := by
  obtain ⟨h, g, rfl, (⟨_, hd, sv, rv, col, rs, OZ, he, rfl⟩ | ⟨h0, _⟩)⟩ := hP
  case inr => cases h0
  obtain ⟨w1, ew1⟩ : ∃ w1, w1 = W.alloc (.cells (px4 a b c d) 39) := ⟨_, rfl⟩
  have hb : Below W.heap.size W w1 := by rw [ew1]; exact below_alloc1 _ _
  have hbx : w1.heap[W.heap.size]? = some (.cells (px4 a b c d) 39 (0, 0)) := by rw [ew1]; exact heap_alloc_new _ _
  have hlt := he.lt
  have h1h : w1.heap[h]? = some (.cells #[.pointer (some ⟨g, 0, none⟩)] 44 (0, 0)) := (hb.block h (hlt h (.inl rfl))).trans he.box
  have h1g : w1.heap[g]? = some (.cells (picCells hd sv (f :: fl).length col rv) 59 (0, 0)) := (hb.block g (hlt g (.inr (.inl rfl)))).trans he.pic.own
  have q0 := cell_of_block h1h 0
  have q2 := cell_of_block h1g 2
  have q00 := cell_of_block h1g 0
  have f00 := unfrozen_of_block h1g 0
  obtain ⟨ho, hc, rfl⟩ := row_shape he.head
  obtain ⟨HN, eHN⟩ : ∃ n, hs.length = n := ⟨_, rfl⟩
  have HHN := Lib.hid eHN
  rw [eHN] at q00 hh he ⊢
  obtain ⟨L1, eL1⟩ : ∃ n, (f :: fl).length = n := ⟨_, rfl⟩
  have hL1 : 1 ≤ L1 := by rw [← eL1, List.length_cons]; omega
  have hL2 : L1 ≤ 2000000 := by rw [← eL1]; exact he.pic.few
  rw [eL1] at q2
  have d1 : ((L1 : Int) == 0) = false := by simp; omega
  have d2 : decide ((L1 : Int) = 0) = false := decide_eq_false (by omega)
  -- behind the head's store
  obtain ⟨w2, ew2⟩ : ∃ w2, w2 = w1.setCell ⟨g, 0, none⟩ (.slice none 0 0) := ⟨_, rfl⟩
  have hk2 : ∀ k, k ≠ g → w2.heap[k]? = w1.heap[k]? := fun k hk => by rw [ew2]; exact Below.heap_setCell _ _ _ k hk
  have hs2 : w2.heap.size = w1.heap.size := by rw [ew2]; simp
  have hP2 : Pic w2.drew g (.slice none 0 0) sv rv col rs (f :: fl) all begun OZ := by
    have hp1 := he.pic.below hb
    exact { hp1 with
      own := (show w2.heap[g]? = _ by rw [ew2]; exact block_setCell hp1.own _)
      rows := listed_kept hp1.rows (Nat.le_of_eq hs2.symm) (fun k hk => hk2 k (hp1.rvF k hk).1)
      zw := isZW_keep hp1.zw (Nat.le_of_eq hs2.symm) (fun k hk => hk2 k (fun e => hp1.nog (e ▸ hk))) }
  have r0 := cell_of_block ((hk2 h he.ne).trans h1h) 0
  have hgW := hlt g (.inr (.inl rfl))
  have hxb := (hk2 W.heap.size (by omega)).trans hbx
  have x0 := cell_of_block hxb 0
  have x1 := cell_of_block hxb 1
  have x2 := cell_of_block hxb 2
  have x3 := cell_of_block hxb 3
  obtain ⟨zs, ezs⟩ : ∃ zs, wroteOf f [a, b, c, d] = zs := ⟨_, rfl⟩
  have KP := pack_code g (.slice none 0 0) sv rv col rs f fl all begun OZ a b c d w2.drew hP2 h8 hl
  rw [ezs] at KP hl ⊢
  have HE := Lib.hid he
  have HB := Lib.hid hb
  have HL := Lib.hid hl
  have HEW := Lib.hid ew2
  clear hbx hlt h1h h1g he hb hP2 hk2 hs2 hxb h8 hl eL1 eHN hgW ew2 ezs
  go_enter Try.func17, Try.ntmps17
  go_upto_region 1 with fail
  rw [← ew1]
  clear ew1
  go_upto_region 7 with fail
  rw [← HEW.out]
  refine wp_region_still_tail 5 (by kernel_rfl) (by kernel_rfl) ?_
  simp only [List.take_succ_cons, List.take_zero, List.drop_succ_cons, List.drop_zero]
  repeat still_step
  refine wpStill_nil ?_
  change wpList _ _ _ _ _ w2.drew
  clear q0 q2 q00 f00 r0 x0 x1 x2 x3 d1 d2 hL1 hL2
  go_wp2_with fail
  go_at_call 31
  refine KP.mono ?_
  clear KP
  rintro e w3 ⟨o3, n3, c3, rv', col', rs', OZ', rfl, pl, pb, p1, p2, p3, p4, p5⟩
  have hm := mid_start (w2 := w2.drew) HE.out HB.out (by rw [HEW.out]) p1 p2 p3 p4 p5
  have hpm := packed_length begun all zs fl.isEmpty HL.out
  have HM := Lib.hid hm
  have HPL := Lib.hid pl
  have HPB := Lib.hid pb
  have hn3 : n3 ≤ 400000010 := by rw [← pl]; exact hpm
  have r0 := cell_of_block hm.box 0
  clear p1 p2 p3 p4 p5 hm pl pb hpm HB HEW
  by_cases h0 : n3 = 0
  · subst h0
    have hpe : packedOf begun all zs fl.isEmpty = [] := List.eq_nil_of_length_eq_zero HPL.out
    cases fl with
    | nil =>
      exfalso
      have h1 := HPL.out
      unfold packedOf at h1
      rw [List.isEmpty_nil, if_pos rfl, List.length_append, List.length_append, List.length_append, fourOf_length] at h1
      omega
    | cons f2 fl2 =>
      have hpc : pieceOf hs begun all zs (f2 :: fl2).isEmpty = hs := by
        unfold pieceOf
        rw [if_pos hpe, List.isEmpty_cons, if_neg (by decide), List.append_nil, List.append_nil]
      have hp := HM.out.pic
      rw [if_neg (by simp)] at hp
      have q2 := cell_of_block hp.own 2
      have HPC := Lib.hid hpc
      have hlp : 1 ≤ (f2 :: fl2).length := by rw [List.length_cons]; omega
      obtain ⟨L2, eL2⟩ : ∃ n, (f2 :: fl2).length = n := ⟨_, rfl⟩
      rw [eL2] at q2 hlp
      have d1 : ((L2 : Int) == 0) = false := by simp; omega
      have d2 : decide ((L2 : Int) = 0) = false := decide_eq_false (by omega)
      clear hp hpc hpe eL2
      go_wp2_with fail
      refine bodyPost_ret (v := .tuple #[.slice ho HN hc, .int .i64 0]) (by simp [results, Try.results17, asAddr, go_sem]) rfl ?_
      obtain ⟨O', e1, e2, e3⟩ := HM.out.goes (by simp)
      exact ⟨_, _, _, O', rfl, by rw [HPC.out]; exact HHN.out, by rw [HPC.out]; exact own_listed HM.out.row, e1, e2, e3⟩
  · have d0 : decide ((0 : Int) < (n3 : Int)) = true := decide_eq_true (by omega)
    have d0' : decide (0 < n3) = true := decide_eq_true (by omega)
    have d0'' : 0 < n3 := by omega
    have hpe : packedOf begun all zs fl.isEmpty ≠ [] := fun e => h0 (by rw [← HPL.out, e]; rfl)
    obtain ⟨P, eP⟩ : ∃ P, packedOf begun all zs fl.isEmpty = P := ⟨_, rfl⟩
    have HPC : Hid (pieceOf hs begun all zs fl.isEmpty = hs ++ chunkOf kindData P ++ (if fl.isEmpty then chunkOf kindEnd [] else [])) := by
      show _ = _
      unfold pieceOf
      rw [if_neg hpe, eP]
    have HP8 : Hid (∀ x ∈ P, x < 256) := by
      rw [← eP]
      exact packed_bytes _ _ _ _
    rw [eP] at HPL HPB
    have KC := chunk_code ⟨#[73, 68, 65, 84]⟩ kindData _ _ w3 data_text rfl kind_small.2.1 HPB.out HP8.out (by rw [HPL.out]; omega)
    clear hpe h0 eP
    go_wp2_with fail
    go_at_call 32
    refine KC.mono ?_
    clear KC
    rintro e w4 ⟨o4, n4, c4, rfl, HN4, HR4, HB4⟩
    have hcl : n4 = n3 + 12 := by
      have h1 := HN4.out
      rw [chunk_length _ _ rfl, HPL.out] at h1
      omega
    have hn4 : n4 ≤ 400000022 := by omega
    have HM4 := Lib.hid (HM.out.below HB4.out)
    clear hcl r0 d0 d0' d0''
    go_wp2_with (at_builtin; refine wpList_append_to (c := byteVal) rfl _ _ 36 rfl 5 (.int .u8 0) 1 Try.underlying36 infoU8 rfl (fun _ => rfl) (.slice ho HN hc) HN hs rfl (by have h1 := HM4.out.row; rw [HHN.out] at h1; exact h1) (.slice o4 n4 c4) (chunkOf kindData P) rfl (own_listed HR4.out) (by rw [HN4.out]; unfold maxLen; omega) (by rw [HN4.out]; omega) ?_)
    intro v5 w5 g1 g2 g3
    rw [HN4.out] at g1
    have hm5 := HM4.out.append (zs := chunkOf kindData P) (HN + n4) (by rw [List.length_append, HHN.out, HN4.out]) (by rw [List.map_append]; simpa using g1) g2 g3
    have HM5 := Lib.hid hm5
    have HL5 : Hid ((hs ++ chunkOf kindData P).length = HN + n4) := by show _ = _; rw [List.length_append, HHN.out, HN4.out]
    obtain ⟨o5, c5, rfl⟩ := row_shape g1
    obtain ⟨N5, eN5⟩ : ∃ n, HN + n4 = n := ⟨_, rfl⟩
    have hN5 : N5 ≤ 400001022 := by omega
    rw [eN5] at HM5 HL5 ⊢
    have r0 := cell_of_block HM5.out.box 0
    clear g1 g2 g3 hm5 HM4 HM HR4 HB4 HN4 HPB eN5
    cases fl with
    | cons f2 fl2 =>
      have hpc : pieceOf hs begun all zs (f2 :: fl2).isEmpty = hs ++ chunkOf kindData P := by
        rw [HPC.out, List.isEmpty_cons, if_neg (by decide), List.append_nil]
      have hp := HM5.out.pic
      rw [if_neg (by simp)] at hp
      have q2 := cell_of_block hp.own 2
      have HPC2 := Lib.hid hpc
      have hlp : 1 ≤ (f2 :: fl2).length := by rw [List.length_cons]; omega
      obtain ⟨L2, eL2⟩ : ∃ n, (f2 :: fl2).length = n := ⟨_, rfl⟩
      rw [eL2] at q2 hlp
      have d1 : ((L2 : Int) == 0) = false := by simp; omega
      have d2 : decide ((L2 : Int) = 0) = false := decide_eq_false (by omega)
      clear hp hpc eL2
      go_wp2_with fail
      refine bodyPost_ret (v := .tuple #[.slice o5 N5 c5, .int .i64 0]) (by simp [results, Try.results17, asAddr, go_sem]) rfl ?_
      obtain ⟨O', e1, e2, e3⟩ := HM5.out.goes (by simp)
      exact ⟨_, _, _, O', rfl, by rw [HPC2.out]; exact HL5.out, by rw [HPC2.out]; exact own_listed HM5.out.row, e1, e2, e3⟩
    | nil =>
      have hp := HM5.out.pic
      rw [if_pos rfl] at hp
      have q2 := cell_of_block hp 2
      have hpc : pieceOf hs begun all zs ([] : List Bool).isEmpty = hs ++ chunkOf kindData P ++ chunkOf kindEnd [] := by
        rw [HPC.out, List.isEmpty_nil, if_pos rfl]
      have HPC2 := Lib.hid hpc
      have KC := chunk_code ⟨#[73, 69, 78, 68]⟩ kindEnd (.slice none 0 0) [] w5 end_text rfl kind_small.2.2 (listed_none _ _) (fun x hx => by cases hx) (by decide)
      clear hp hpc
      go_wp2_with fail
      go_at_call 32
      refine KC.mono ?_
      clear KC
      rintro e w6 ⟨o6, n6, c6, rfl, HN6, HR6, HB6⟩
      have hn6 := HN6.out
      rw [chunk_length _ _ rfl] at hn6
      have hn6 : n6 = 12 := hn6.symm
      subst hn6
      have HM6 := Lib.hid (HM5.out.below HB6.out)
      clear r0 q2
      go_wp2_with (at_builtin; refine wpList_append_to (c := byteVal) rfl _ _ 36 rfl 5 (.int .u8 0) 1 Try.underlying36 infoU8 rfl (fun _ => rfl) (.slice o5 N5 c5) N5 (hs ++ chunkOf kindData P) rfl (by have h1 := HM6.out.row; rw [HL5.out] at h1; exact h1) (.slice o6 12 c6) (chunkOf kindEnd []) rfl (own_listed HR6.out) (by rw [HN6.out]; unfold maxLen; omega) (by rw [HN6.out]; omega) ?_)
      intro v7 w7 g1 g2 g3
      rw [HN6.out] at g1
      have hm7 := HM6.out.append (zs := chunkOf kindEnd []) (N5 + 12) (by rw [List.length_append, HL5.out, HN6.out]) (by rw [List.map_append]; simpa using g1) g2 g3
      have HM7 := Lib.hid hm7
      have HL7 : Hid ((hs ++ chunkOf kindData P ++ chunkOf kindEnd []).length = N5 + 12) := by show _ = _; rw [List.length_append, HL5.out, HN6.out]
      obtain ⟨o7, c7, rfl⟩ := row_shape g1
      obtain ⟨N7, eN7⟩ : ∃ n, N5 + 12 = n := ⟨_, rfl⟩
      rw [eN7] at HM7 HL7 ⊢
      have hp := HM7.out.pic
      rw [if_pos rfl] at hp
      have r0 := cell_of_block HM7.out.box 0
      have q0 := cell_of_block hp 0
      have q1 := cell_of_block hp 1
      have q2 := cell_of_block hp 2
      have q3 := cell_of_block hp 3
      have q4 := cell_of_block hp 4
      have f0 := unfrozen_of_block hp 0
      have f1 := unfrozen_of_block hp 1
      have f2 := unfrozen_of_block hp 2
      have f3 := unfrozen_of_block hp 3
      have f4 := unfrozen_of_block hp 4
      clear g1 g2 g3 hm7 HM6 HM5 HR6 HB6 HN6 eN7 hp HL5 hN5
      go_wp2_with fail
      refine bodyPost_ret (v := .tuple #[.slice o7 N7 c7, .int .i64 0]) (by simp [results, Try.results17, asAddr, go_sem]) rfl ?_
      obtain ⟨O', e1, e2, e3, e4⟩ := HM7.out.over rfl (all ++ zs)
      exact ⟨_, _, _, O', rfl, by rw [HPC2.out]; exact HL7.out, by rw [HPC2.out]; exact e4, e1, e2, e3⟩
end Go.Proofs.Ytefdlidjdmlnaaa.Fx
