/-
  Bytes that the window forgets, as landed. The conditions stand in it.
-/
import Derived.Test.YtbhmjppnhlmefaaDoorWinH
import Derived.Test.YtbhmjppnhlmefaaDoorWinI
namespace Go.Proofs.YtbhmjppnhlmefaaDoor.Fx
open Go Go.RowKit Go.Joins Go.Maps
set_option linter.unusedVariables false
/-! ### The map while places go -/
def LastsFrom (zs : List Nat) (first m i : Nat) (D : Book) : Prop := ∀ t : Nat, t < 16777216 → match lastOf zs t m with
  | some p => if p < i then Maps.has D (.int .u32 (t : Int)) = false else Maps.has D (.int .u32 (t : Int)) = true ∧ D.atKey (.int .u32 (t : Int)) (.lit (.int .i64 0)) = .lit (.int .i64 ((first + p : Nat) : Int))
  | none => Maps.has D (.int .u32 (t : Int)) = false
theorem LastsFrom.start {zs : List Nat} {first m : Nat} {D : Book} (h : Lasts zs first m D) : LastsFrom zs first m 0 D := fun t ht => by
  have := h t ht
  cases hq : lastOf zs t m with
  | none => rw [hq] at this; exact this
  | some p =>
    rw [hq] at this
    simp only at this ⊢
    rw [if_neg (by omega)]
    exact this
/-- The place i's three bytes: where they stand last. -/
theorem LastsFrom.at_ {zs : List Nat} {first m i : Nat} {D : Book} (h : LastsFrom zs first m i D) (h8 : ∀ x ∈ zs, x < 256) (hi : i < m) : ∃ p, lastOf zs (three zs i) m = some p ∧ i ≤ p ∧ D.atKey (.int .u32 (three zs i : Nat)) (.lit (.int .i64 0)) = .lit (.int .i64 ((first + p : Nat) : Int)) := by
  have h1 := h _ (three_lt zs h8 i)
  cases hq : lastOf zs (three zs i) m with
  | none => exact absurd rfl (lastOf_none hq i hi)
  | some p =>
    have hp : i ≤ p := by
      rcases Nat.lt_or_ge p i with hlt | hlt
      · exact absurd rfl ((lastOf_some hq).2.2 i hlt hi)
      · exact hlt
    rw [hq] at h1
    simp only at h1
    rw [if_neg (by omega)] at h1
    exact ⟨p, rfl, hp, h1.2⟩
theorem LastsFrom.gone {zs : List Nat} {first m i : Nat} {D : Book} (h : LastsFrom zs first m i D) (hq : lastOf zs (three zs i) m = some i) : LastsFrom zs first m (i + 1) (D.del (.int .u32 (three zs i : Nat))) := fun t ht => by
  by_cases e : three zs i = t
  · subst e
    rw [hq]
    simp only
    rw [if_pos (by omega)]
    exact has_del_same
  · have hne : (Lit.int .u32 (t : Int)) ≠ .int .u32 (three zs i : Nat) := fun h => e (by simp only [Lit.int.injEq, true_and] at h; omega)
    have := h t ht
    rw [has_del_other hne, atKey_del_other hne]
    cases hp : lastOf zs t m with
    | none => rw [hp] at this; exact this
    | some p =>
      rw [hp] at this
      simp only at this ⊢
      have hpi : p ≠ i := by
        rintro rfl
        exact e (lastOf_some hp).2.1
      by_cases hlt : p < i
      · rw [if_pos hlt] at this
        rw [if_pos (by omega)]
        exact this
      · rw [if_neg hlt] at this
        rw [if_neg (by omega)]
        exact this
theorem LastsFrom.stays {zs : List Nat} {first m i p : Nat} {D : Book} (h : LastsFrom zs first m i D) (hq : lastOf zs (three zs i) m = some p) (hp : p ≠ i) : LastsFrom zs first m (i + 1) D := fun t ht => by
  have := h t ht
  cases hq2 : lastOf zs t m with
  | none => rw [hq2] at this; exact this
  | some p2 =>
    rw [hq2] at this
    simp only at this ⊢
    have hpi : p2 ≠ i := by
      rintro rfl
      have := (lastOf_some hq2).2.1
      rw [this, hq2] at hq
      exact hp (Option.some.inj hq).symm
    by_cases hlt : p2 < i
    · rw [if_pos hlt] at this
      rw [if_pos (by omega)]
      exact this
    · rw [if_neg hlt] at this
      rw [if_neg (by omega)]
      exact this
theorem LastsFrom.end_ {zs : List Nat} {first m n : Nat} {D : Book} (h : LastsFrom zs first m n D) (hn : n ≤ m) : Lasts (zs.drop n) (first + n) (m - n) D := fun t ht => by
  have h1 := h t ht
  cases hq : lastOf zs t m with
  | none =>
    have : lastOf (zs.drop n) t (m - n) = none := lastOf_not (fun q hq' => by rw [three_drop]; exact lastOf_none hq (n + q) (by omega))
    rw [this]
    rw [hq] at h1
    exact h1
  | some p =>
    rw [hq] at h1
    simp only at h1
    obtain ⟨a1, a2, a3⟩ := lastOf_some hq
    by_cases hlt : p < n
    · rw [if_pos hlt] at h1
      have : lastOf (zs.drop n) t (m - n) = none := lastOf_not (fun q hq' => by rw [three_drop]; exact a3 (n + q) (by omega) (by omega))
      rw [this]
      exact h1
    · rw [if_neg hlt] at h1
      have : lastOf (zs.drop n) t (m - n) = some (p - n) := lastOf_is (by omega) (by rw [three_drop, show n + (p - n) = p by omega]; exact a2) (fun q h2 h3 => by rw [three_drop]; exact a3 (n + q) (by omega) (by omega))
      rw [this]
      simp only
      rw [show first + n + (p - n) = first + p by omega]
      exact h1
/-! ### The memory meanwhile -/
structure Mem (w : World) (g : Nat) (out s t : Value) (mb : Nat) (zs : List Nat) (first : Nat) (st : List Nat) (opn N : Nat) (D : Book) : Prop where
  blk : w.heap[g]? = some (.cells #[out, s, .int .i64 (first : Int), t, .map (some mb), .int .i64 (opn : Int), .bool false] 57 (0, 0))
  own1 : w.ownsRow 0 5 1 s zs.length (zs.map byteVal)
  own2 : w.ownsRow 0 21 1 t st.length (st.map stepVal)
  map : w.ownsMap Tryd.prog 44 (plainElem Tryd.prog 3) mb N D
  ne1 : s.ownBlock ≠ some g
  ne2 : t.ownBlock ≠ some g
  ne3 : ∀ k, s.ownBlock = some k → t.ownBlock ≠ some k
theorem Kept.mem {w : World} {g : Nat} {out s t : Value} {mb : Nat} {zs : List Nat} {first : Nat} {st : List Nat} {opn : Nat} {D : Book} (h : Kept w g out s t mb zs first st opn D) : Mem w g out s t mb zs first st opn (first + st.length) D := ⟨h.blk, h.own1, h.own2, h.map, h.ne1, h.ne2, h.ne3⟩
theorem Mem.map_ne {w : World} {g : Nat} {out s t : Value} {mb : Nat} {zs : List Nat} {first : Nat} {st : List Nat} {opn N : Nat} {D : Book} (h : Mem w g out s t mb zs first st opn N D) : mb ≠ g ∧ s.ownBlock ≠ some mb ∧ t.ownBlock ≠ some mb := by
  obtain ⟨es, cl, hm, _⟩ := h.map
  refine ⟨fun e => ?_, fun e => ?_, fun e => ?_⟩
  · have := h.blk
    rw [← e, hm] at this
    cases this
  · obtain ⟨cs, ty, m, hb⟩ := row_block h.own1 e
    rw [hm] at hb
    cases hb
  · obtain ⟨cs, ty, m, hb⟩ := row_block h.own2 e
    rw [hm] at hb
    cases hb
theorem Mem.glt {w : World} {g : Nat} {out s t : Value} {mb : Nat} {zs : List Nat} {first : Nat} {st : List Nat} {opn N : Nat} {D : Book} (h : Mem w g out s t mb zs first st opn N D) : g < w.heap.size := (Array.getElem?_eq_some_iff.1 h.blk).1
theorem Mem.drewN {w : World} {g : Nat} {out s t : Value} {mb : Nat} {zs : List Nat} {first : Nat} {st : List Nat} {opn N : Nat} {D : Book} (h : Mem w g out s t mb zs first st opn N D) (n : Nat) : Mem (w.drewN n) g out s t mb zs first st opn N D := ⟨h.blk, h.own1, h.own2, h.map, h.ne1, h.ne2, h.ne3⟩
/-- Behind a delete in the map. -/
theorem Mem.turned {w w' : World} {g : Nat} {out s t : Value} {mb : Nat} {zs : List Nat} {first : Nat} {st : List Nat} {opn N : Nat} {D D' : Book} (h : Mem w g out s t mb zs first st opn N D) (hm : w'.ownsMap Tryd.prog 44 (plainElem Tryd.prog 3) mb N D') (hg : w.grownBy w' (some mb)) : Mem w' g out s t mb zs first st opn N D' ∧ Past (blocksK g s t mb) w w' := by
  obtain ⟨m1, m2, m3⟩ := h.map_ne
  refine ⟨⟨(hg.block g h.glt (fun e => m1 (Option.some.inj e).symm)).trans h.blk, ownsRow_same h.own1 (fun k hk => hg.block k (h.own1.lt k hk).2 (fun e => m2 (by rw [hk]; exact e))), ownsRow_same h.own2 (fun k hk => hg.block k (h.own2.lt k hk).2 (fun e => m3 (by rw [hk]; exact e))), hm, h.ne1, h.ne2, h.ne3⟩, ⟨hg.os, hg.tape, hg.output, hg.size, fun k hk hO => hg.block k hk (fun e => hO (.inr (.inr (.inr (Option.some.inj e)))))⟩⟩
/-- Behind the bytes' delete. -/
theorem Mem.cut1 {w w1 : World} {g : Nat} {out s t : Value} {mb : Nat} {zs : List Nat} {first : Nat} {st : List Nat} {opn N n : Nat} {D : Book} (h : Mem w g out s t mb zs first st opn N D) (u : Value) (ho : w1.ownsRow 0 5 1 u (zs.length - n) ((zs.drop n).map byteVal)) (hu : u.ownBlock = s.ownBlock) (hp : Past (fun k => s.ownBlock = some k) w w1) :
    Mem (w1.setCell ⟨g, 1, none⟩ u) g out u t mb (zs.drop n) first st opn N D ∧ Past (blocksK g s t mb) w (w1.setCell ⟨g, 1, none⟩ u) ∧ w1.heap[g]? = some (.cells #[out, s, .int .i64 (first : Int), t, .map (some mb), .int .i64 (opn : Int), .bool false] 57 (0, 0)) := by
  obtain ⟨m1, m2, m3⟩ := h.map_ne
  have hb1 := (hp.block g h.glt h.ne1).trans h.blk
  have hug : u.ownBlock ≠ some g := by rw [hu]; exact h.ne1
  have hold : ∀ k, k < w.heap.size → k ≠ g → s.ownBlock ≠ some k → (w1.setCell ⟨g, 1, none⟩ u).heap[k]? = w.heap[k]? := fun k hk hkg hks => (Below.heap_setCell _ _ _ k hkg).trans (hp.block k hk hks)
  refine ⟨⟨block_setCell hb1 _, ?_, ?_, ?_, hug, h.ne2, fun k hk => h.ne3 k (by rw [← hu]; exact hk)⟩, ⟨hp.os, hp.tape, hp.output, by simpa using hp.size, fun k hk hO => hold k hk (fun e => hO (.inl e)) (fun e => hO (.inr (.inl e)))⟩, hb1⟩
  · rw [List.length_drop]
    exact ownsRow_same ho (fun k hk => Below.heap_setCell _ _ _ k (fun e => hug (by rw [hk]; exact congrArg some e)))
  · exact ownsRow_same h.own2 (fun k hk => hold k (h.own2.lt k hk).2 (fun e => h.ne2 (by rw [hk]; exact congrArg some e)) (fun e => h.ne3 k e hk))
  · obtain ⟨es, cl, hm, rest⟩ := h.map
    exact ⟨es, cl, (hold mb h.map.lt m1 m2).trans hm, rest⟩
/-- Behind the steps' delete. -/
theorem Mem.cut2 {w w1 : World} {g : Nat} {out s t : Value} {mb : Nat} {zs : List Nat} {first : Nat} {st : List Nat} {opn N n : Nat} {D : Book} (h : Mem w g out s t mb zs first st opn N D) (u : Value) (ho : w1.ownsRow 0 21 1 u (st.length - n) ((st.drop n).map stepVal)) (hu : u.ownBlock = t.ownBlock) (hp : Past (fun k => t.ownBlock = some k) w w1) :
    Mem (w1.setCell ⟨g, 3, none⟩ u) g out s u mb zs first (st.drop n) opn N D ∧ Past (blocksK g s t mb) w (w1.setCell ⟨g, 3, none⟩ u) ∧ w1.heap[g]? = some (.cells #[out, s, .int .i64 (first : Int), t, .map (some mb), .int .i64 (opn : Int), .bool false] 57 (0, 0)) := by
  obtain ⟨m1, m2, m3⟩ := h.map_ne
  have hb1 := (hp.block g h.glt h.ne2).trans h.blk
  have hug : u.ownBlock ≠ some g := by rw [hu]; exact h.ne2
  have hold : ∀ k, k < w.heap.size → k ≠ g → t.ownBlock ≠ some k → (w1.setCell ⟨g, 3, none⟩ u).heap[k]? = w.heap[k]? := fun k hk hkg hks => (Below.heap_setCell _ _ _ k hkg).trans (hp.block k hk hks)
  refine ⟨⟨block_setCell hb1 _, ?_, ?_, ?_, h.ne1, hug, fun k hk => by rw [hu]; exact h.ne3 k hk⟩, ⟨hp.os, hp.tape, hp.output, by simpa using hp.size, fun k hk hO => hold k hk (fun e => hO (.inl e)) (fun e => hO (.inr (.inr (.inl e))))⟩, hb1⟩
  · exact ownsRow_same h.own1 (fun k hk => hold k (h.own1.lt k hk).2 (fun e => h.ne1 (by rw [hk]; exact congrArg some e)) (fun e => h.ne3 k hk e))
  · rw [List.length_drop]
    exact ownsRow_same ho (fun k hk => Below.heap_setCell _ _ _ k (fun e => hug (by rw [hk]; exact congrArg some e)))
  · obtain ⟨es, cl, hm, rest⟩ := h.map
    exact ⟨es, cl, (hold mb h.map.lt m1 m3).trans hm, rest⟩
/-- Behind the first place's store. -/
theorem Mem.moved {w : World} {g : Nat} {out s t : Value} {mb : Nat} {zs : List Nat} {first : Nat} {st : List Nat} {opn N : Nat} {D : Book} (h : Mem w g out s t mb zs first st opn N D) (f2 : Nat) : Mem (w.setCell ⟨g, 2, none⟩ (.int .i64 (f2 : Int))) g out s t mb zs f2 st opn N D ∧ Past (blocksK g s t mb) w (w.setCell ⟨g, 2, none⟩ (.int .i64 (f2 : Int))) := by
  obtain ⟨m1, m2, m3⟩ := h.map_ne
  have hold : ∀ k, k ≠ g → (w.setCell ⟨g, 2, none⟩ (.int .i64 (f2 : Int))).heap[k]? = w.heap[k]? := fun k hkg => Below.heap_setCell _ _ _ k hkg
  refine ⟨⟨block_setCell h.blk _, ownsRow_same h.own1 (fun k hk => hold k (fun e => h.ne1 (by rw [hk]; exact congrArg some e))), ownsRow_same h.own2 (fun k hk => hold k (fun e => h.ne2 (by rw [hk]; exact congrArg some e))), ?_, h.ne1, h.ne2, h.ne3⟩, ⟨rfl, rfl, rfl, by simp, fun k hk hO => hold k (fun e => hO (.inl e))⟩⟩
  obtain ⟨es, cl, hm, rest⟩ := h.map
  exact ⟨es, cl, (hold mb m1).trans hm, rest⟩
theorem Mem.kept {w : World} {g : Nat} {out s t : Value} {mb : Nat} {zs : List Nat} {first : Nat} {st : List Nat} {opn : Nat} {D : Book} (h : Mem w g out s t mb zs first st opn (first + st.length) D) (hl : Lasts zs first st.length D) : Kept w g out s t mb zs first st opn D := ⟨h.blk, h.own1, h.own2, h.map, hl, h.ne1, h.ne2, h.ne3⟩
end Go.Proofs.YtbhmjppnhlmefaaDoor.Fx
