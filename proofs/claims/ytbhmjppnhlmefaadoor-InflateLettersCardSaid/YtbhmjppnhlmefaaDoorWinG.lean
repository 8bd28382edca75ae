/-
  What a packer's window keeps, as landed: its memory, bytes that are added. The conditions stand in each.
-/
import Derived.Test.YtbhmjppnhlmefaaDoorWinF
import Derived.Test.YtbhmjppnhlmefaaDoorWinC
namespace Go.Proofs.YtbhmjppnhlmefaaDoor.Fx
open Go Go.RowKit Go.Joins Go.Maps
set_option linter.unusedVariables false
/-! ### An append to an own row, of which is told where the new row lies -/
section
variable {α : Type} {c : α → Value} {P : Program}
theorem run_append_to (w : World) (t ty e : TypeId) (z : Value) (bytes : Nat) (ht : P.underlying t = some (.slice e)) (hinfo : (P.info? e).map (fun i => (i.zero, i.size, i.bytes)) = some (some z, 1, bytes)) (hz : z.cells.size = 1) (hone : ∀ y, (c y).oneCell' = true)
    (v : Value) (n : Nat) (xs : List α) (hown : w.ownsRow 0 e 1 v n (xs.map c)) (u : Value) (zs : List α) (hr : listed c w u zs) (hlen : n + zs.length ≤ maxLen) (hb : (n + zs.length) * bytes ≤ 140737488355328) :
    ∃ v' w', (Builtin.append_ #[t, t] ty #[v, u]).run P w = .ok v' w' ∧ w'.ownsRow 0 e 1 v' (n + zs.length) ((xs ++ zs).map c) ∧ w.grownBy w' v.ownBlock ∧ (∀ k, v'.ownBlock = some k → v.ownBlock = some k ∨ w.heap.size ≤ k) := by
  obtain ⟨i0, hi, hz0, hz1, hz2⟩ := info_parts hinfo
  have some_of : ∀ (ad : Addr) (cap : Nat), (∀ j y, zs[j]? = some y → w.cell? (ad.add j) = some (c y)) → ∃ v' w', (Builtin.append_ #[t, t] ty #[v, .slice (some ad) zs.length cap]).run P w = .ok v' w' ∧ w'.ownsRow 0 e 1 v' (n + zs.length) ((xs ++ zs).map c) ∧ w.grownBy w' v.ownBlock ∧ (∀ k, v'.ownBlock = some k → v.ownBlock = some k ∨ w.heap.size ≤ k) := by
    intro ad cap hc
    rw [List.map_append]
    refine run_append_where (P := P) w 0 t ty e i0 z 1 bytes ht hi hz0 hz1 hz2 hz (by decide) v n (xs.map c) hown ad zs.length cap (zs.map c) (by rw [List.length_map, Nat.mul_one]) (fun j x hj => ?_) (fun x hx => ?_) hlen hb (Nat.zero_le _)
    · rw [List.getElem?_map] at hj
      cases hzj : zs[j]? with
      | none => rw [hzj] at hj; cases hj
      | some y =>
        rw [hzj] at hj
        obtain rfl := Option.some.inj hj
        exact hc j y hzj
    · obtain ⟨y, _, rfl⟩ := List.mem_map.mp hx
      exact hone y
  rcases hr with ⟨⟨q, cap, rfl, hq⟩, rfl⟩ | ⟨b, off, cap, rfl, hlt, hle, hc⟩
  · cases q with
    | none =>
      obtain rfl : cap = 0 := hq rfl
      refine ⟨v, w, run_append_owned_none (P := P) (w := w) 0 t ty e i0 1 ht hi v n (xs.map c) hown, by simpa using hown, ⟨rfl, rfl, rfl, Nat.le_refl _, fun _ _ _ => rfl⟩, fun k hk => .inl hk⟩
    | some ad => exact some_of ad cap (fun j y hj => by simp at hj)
  · exact some_of ⟨b, off, none⟩ cap (fun j y hj => by rw [Addr.add_lit]; exact hc j y hj)
/-- 'append(own, list...)', at the operation. -/
theorem wpList_append_to {w : World} {ops : Array Oper} {rest : List Oper} {o : Oper} {a : Act} {Q : Exit → Act → World → Prop} (hgd : o.guard = none) (s x : Operand) (t : TypeId)
    (ho : o.op = .call { callee := .builtin .append, args := #[s, x], argTypes := #[t, t] })
    (e : TypeId) (z : Value) (bytes : Nat) (ht : P.underlying t = some (.slice e)) (hinfo : (P.info? e).map (fun i => (i.zero, i.size, i.bytes)) = some (some z, 1, bytes)) (hz : z.cells.size = 1) (hone : ∀ y, (c y).oneCell' = true)
    (v : Value) (n : Nat) (xs : List α) (hs : a.eval s = v) (hown : w.ownsRow 0 e 1 v n (xs.map c)) (u : Value) (zs : List α) (hx : a.eval x = u) (hr : listed c w u zs)
    (hlen : n + zs.length ≤ maxLen) (hb : (n + zs.length) * bytes ≤ 140737488355328)
    (h : ∀ v' w', w'.ownsRow 0 e 1 v' (n + zs.length) ((xs ++ zs).map c) → w.grownBy w' v.ownBlock → (∀ k, v'.ownBlock = some k → v.ownBlock = some k ∨ w.heap.size ≤ k) → wpList P ops Q rest (a.put o.dst v') w') : wpList P ops Q (o :: rest) a w := by
  refine wpList_plain hgd fun K' hK' => ?_
  obtain ⟨v', w', hrun, r1, r2, r3⟩ := run_append_to (P := P) (c := c) w t o.type e z bytes ht hinfo hz hone v n xs hown u zs hr hlen hb
  unfold Oper.wp
  simp [execOp, ho, resolve, invoke, builtin, hs, hx, hrun, Result.andThen]
  exact hK' _ _ (h v' w' r1 r2 r3)
end
/-- A new block of one cell, as a slice. -/
theorem listed_one {α : Type} {c : α → Value} (w : World) (x : α) (v : Value) (ty : TypeId) (hv : v = c x) : listed c (w.alloc (.cells #[v] ty)) (.slice (some ⟨w.heap.size, 0, none⟩) 1 1) [x] := by
  refine .inr ⟨w.heap.size, 0, 1, rfl, ?_, Nat.le_refl _, fun j z hj => ?_⟩
  · show _ < (w.heap.push _).size
    simp
  · match j, hj with
    | 0, hj =>
      obtain rfl := Option.some.inj hj
      rw [← hv]
      exact cell_of_block (heap_alloc_new w _) 0
    | j + 1, hj => simp at hj
/-! ### What is kept -/
theorem info32 : (Tryd.prog.info? 21).map (fun i => (i.zero, i.size, i.bytes)) = some (some (.int .i32 0), 1, 4) := by kernel_rfl
theorem infoU8 : (Tryd.prog.info? 5).map (fun i => (i.zero, i.size, i.bytes)) = some (some (.int .u8 0), 1, 1) := by kernel_rfl
theorem keyLaw : Keyed Tryd.prog 44 := int_keyed Tryd.underlying44
theorem zeroInt (w : World) : (zeroValue 3).run Tryd.prog w = .ok (.int .i64 0) w := by kernel_rfl
abbrev Book := DataW Unit
/-- Where three bytes stand, as the map has it: the greatest of the places below m, told from the writer's beginning on. -/
def Lasts (zs : List Nat) (first m : Nat) (D : Book) : Prop := ∀ t : Nat, t < 16777216 → match lastOf zs t m with
  | some p => Maps.has D (.int .u32 (t : Int)) = true ∧ D.atKey (.int .u32 (t : Int)) (.lit (.int .i64 0)) = .lit (.int .i64 ((first + p : Nat) : Int))
  | none => Maps.has D (.int .u32 (t : Int)) = false
theorem Lasts.start (first : Nat) : Lasts [] first 0 (.map []) := fun t _ => rfl
theorem Lasts.more {zs : List Nat} {first m : Nat} {D : Book} (h : Lasts zs first m D) (xs : List Nat) (hm : m + 2 ≤ zs.length ∨ m = 0) : Lasts (zs ++ xs) first m D := fun t ht => by
  rw [lastOf_append zs xs t m hm]
  exact h t ht
theorem Lasts.put {zs : List Nat} {first m : Nat} {D : Book} (h : Lasts zs first m D) (hD : IsMap D) : Lasts zs first (m + 1) (D.put (.int .u32 (three zs m : Nat)) (.lit (.int .i64 ((first + m : Nat) : Int)))) := fun t ht => by
  by_cases e : three zs m = t
  · have h1 : lastOf zs t (m + 1) = some m := by rw [lastOf, if_pos e]
    rw [h1, ← e]
    exact ⟨has_put_same hD (by trivial) _, atKey_put_same hD (by trivial) _ _⟩
  · have h1 : lastOf zs t (m + 1) = lastOf zs t m := by rw [lastOf, if_neg e]
    have hne : (Lit.int .u32 (t : Int)) ≠ .int .u32 (three zs m : Nat) := fun h => e (by simp only [Lit.int.injEq, true_and] at h; omega)
    rw [h1]
    have := h t ht
    cases hq : lastOf zs t m with
    | none =>
      rw [hq] at this
      simp only at this ⊢
      rw [has_put_other hne]
      exact this
    | some p =>
      rw [hq] at this
      simp only at this ⊢
      rw [has_put_other hne, atKey_put_other hne]
      exact this
/-- A packer's memory. -/
structure Kept (w : World) (g : Nat) (out s t : Value) (mb : Nat) (zs : List Nat) (first : Nat) (st : List Nat) (opn : Nat) (D : Book) : Prop where
  blk : w.heap[g]? = some (.cells #[out, s, .int .i64 (first : Int), t, .map (some mb), .int .i64 (opn : Int), .bool false] 57 (0, 0))
  own1 : w.ownsRow 0 5 1 s zs.length (zs.map byteVal)
  own2 : w.ownsRow 0 21 1 t st.length (st.map stepVal)
  map : w.ownsMap Tryd.prog 44 (plainElem Tryd.prog 3) mb (first + st.length) D
  last : Lasts zs first st.length D
  ne1 : s.ownBlock ≠ some g
  ne2 : t.ownBlock ≠ some g
  ne3 : ∀ k, s.ownBlock = some k → t.ownBlock ≠ some k
theorem row_block {w : World} {base : Nat} {e : TypeId} {n : Nat} {v : Value} {c : Nat} {xs : List Value} (h : w.ownsRow base e n v c xs) {k : Nat} (hk : v.ownBlock = some k) : ∃ cs ty m, w.heap[k]? = some (.cells cs ty m) := by
  rcases h.2 with ⟨rfl, _⟩ | ⟨g, cap, cur, rfl, _, hg, _⟩
  · simp [Value.ownBlock] at hk
  · simp [Value.ownBlock] at hk
    subst hk
    exact ⟨_, _, _, hg⟩
theorem Kept.map_ne {w : World} {g : Nat} {out s t : Value} {mb : Nat} {zs : List Nat} {first : Nat} {st : List Nat} {opn : Nat} {D : Book} (h : Kept w g out s t mb zs first st opn D) : mb ≠ g ∧ s.ownBlock ≠ some mb ∧ t.ownBlock ≠ some mb := by
  obtain ⟨es, cl, hm, _⟩ := h.map
  refine ⟨fun e => ?_, fun e => ?_, fun e => ?_⟩
  · have := h.blk
    rw [← e, hm] at this
    cases this
  · obtain ⟨cs, ty, m, hb⟩ := row_block h.own1 e
    rw [hm] at hb
    cases hb
  · obtain ⟨cs, ty, m, hb⟩ := row_block h.own2 e
    rw [hm] at hb
    cases hb
theorem Kept.glt {w : World} {g : Nat} {out s t : Value} {mb : Nat} {zs : List Nat} {first : Nat} {st : List Nat} {opn : Nat} {D : Book} (h : Kept w g out s t mb zs first st opn D) : g < w.heap.size := (Array.getElem?_eq_some_iff.1 h.blk).1
/-- The blocks of it. -/
def blocksK (g : Nat) (s t : Value) (mb : Nat) (k : Nat) : Prop := k = g ∨ s.ownBlock = some k ∨ t.ownBlock = some k ∨ k = mb
theorem Kept.lt {w : World} {g : Nat} {out s t : Value} {mb : Nat} {zs : List Nat} {first : Nat} {st : List Nat} {opn : Nat} {D : Book} (h : Kept w g out s t mb zs first st opn D) (k : Nat) (hk : blocksK g s t mb k) : k < w.heap.size := by
  rcases hk with rfl | hk | hk | rfl
  · exact h.glt
  · exact (h.own1.lt k hk).2
  · exact (h.own2.lt k hk).2
  · exact h.map.lt
theorem Kept.keep {w w' : World} {g : Nat} {out s t : Value} {mb : Nat} {zs : List Nat} {first : Nat} {st : List Nat} {opn : Nat} {D : Book} (h : Kept w g out s t mb zs first st opn D) (hk : ∀ k, blocksK g s t mb k → w'.heap[k]? = w.heap[k]?) : Kept w' g out s t mb zs first st opn D := by
  refine ⟨(hk g (.inl rfl)).trans h.blk, ownsRow_same h.own1 (fun k e => hk k (.inr (.inl e))), ownsRow_same h.own2 (fun k e => hk k (.inr (.inr (.inl e)))), ?_, h.last, h.ne1, h.ne2, h.ne3⟩
  obtain ⟨es, cl, hm, rest⟩ := h.map
  exact ⟨es, cl, (hk mb (.inr (.inr (.inr rfl)))).trans hm, rest⟩
/-- Behind the append of bytes. -/
theorem Kept.add {w w1 : World} {g : Nat} {out s t : Value} {mb : Nat} {zs : List Nat} {first : Nat} {st : List Nat} {opn : Nat} {D : Book} (h : Kept w g out s t mb zs first st opn D) (hst : st.length ≤ zs.length - 2) (s' : Value) (xs : List Nat) (hown : w1.ownsRow 0 5 1 s' (zs.length + xs.length) ((zs ++ xs).map byteVal)) (hg : w.grownBy w1 s.ownBlock) (hw : ∀ k, s'.ownBlock = some k → s.ownBlock = some k ∨ w.heap.size ≤ k) :
    Kept (w1.setCell ⟨g, 1, none⟩ s') g out s' t mb (zs ++ xs) first st opn D ∧ Past (blocksK g s t mb) w (w1.setCell ⟨g, 1, none⟩ s') ∧ (∀ k, blocksK g s' t mb k → blocksK g s t mb k ∨ w.heap.size ≤ k) := by
  obtain ⟨m1, m2, m3⟩ := h.map_ne
  have hb1 := (hg.block g h.glt (fun e => h.ne1 e.symm)).trans h.blk
  have hsg : s'.ownBlock ≠ some g := fun e => (hw g e).elim h.ne1 (fun h1 => by have := h.glt; omega)
  have hold : ∀ k, k < w.heap.size → k ≠ g → s.ownBlock ≠ some k → (w1.setCell ⟨g, 1, none⟩ s').heap[k]? = w.heap[k]? := fun k hk hkg hks => (Below.heap_setCell _ _ _ k hkg).trans (hg.block k hk (fun e => hks e.symm))
  refine ⟨⟨block_setCell hb1 _, ?_, ?_, ?_, h.last.more xs (by omega), hsg, h.ne2, fun k hk hkt => ?_⟩, ⟨hg.os, hg.tape, hg.output, by simpa using hg.size, fun k hk hO => hold k hk (fun e => hO (.inl e)) (fun e => hO (.inr (.inl e)))⟩, fun k hk => ?_⟩
  · rw [List.length_append]
    exact ownsRow_same hown (fun k hk => Below.heap_setCell _ _ _ k (fun e => hsg (by rw [hk]; exact congrArg some e)))
  · exact ownsRow_same h.own2 (fun k hk => hold k (h.own2.lt k hk).2 (fun e => h.ne2 (by rw [hk]; exact congrArg some e)) (fun e => h.ne3 k e hk))
  · obtain ⟨es, cl, hm, rest⟩ := h.map
    exact ⟨es, cl, (hold mb h.map.lt m1 m2).trans hm, rest⟩
  · rcases hw k hk with h1 | h1
    · exact h.ne3 k h1 hkt
    · have := (h.own2.lt k hkt).2
      omega
  · rcases hk with rfl | hk | hk | rfl
    · exact .inl (.inl rfl)
    · exact (hw k hk).elim (fun h1 => .inl (.inr (.inl h1))) .inr
    · exact .inl (.inr (.inr (.inl hk)))
    · exact .inl (.inr (.inr (.inr rfl)))
/-- Behind the append of a step. -/
theorem Kept.stepped {w wa w1 : World} {g : Nat} {out s t : Value} {mb : Nat} {zs : List Nat} {first : Nat} {st : List Nat} {opn : Nat} {D : Book} (h : Kept w g out s t mb zs first st opn D) (hba : Below w.heap.size w wa) (t' : Value) (x : Nat) (hown : w1.ownsRow 0 21 1 t' (st.length + 1) ((st ++ [x]).map stepVal)) (hg : wa.grownBy w1 t.ownBlock) (hw : ∀ k, t'.ownBlock = some k → t.ownBlock = some k ∨ wa.heap.size ≤ k) :
    (w1.setCell ⟨g, 3, none⟩ t').heap[g]? = some (.cells #[out, s, .int .i64 (first : Int), t', .map (some mb), .int .i64 (opn : Int), .bool false] 57 (0, 0)) ∧ (w1.setCell ⟨g, 3, none⟩ t').ownsMap Tryd.prog 44 (plainElem Tryd.prog 3) mb (first + st.length) D ∧
    (∀ w2 D', (w1.setCell ⟨g, 3, none⟩ t').grownBy w2 (some mb) → w2.ownsMap Tryd.prog 44 (plainElem Tryd.prog 3) mb (first + st.length + 1) D' → Lasts zs first (st.length + 1) D' → Kept w2 g out s t' mb zs first (st ++ [x]) opn D' ∧ Past (blocksK g s t mb) w w2 ∧ (∀ k, blocksK g s t' mb k → blocksK g s t mb k ∨ w.heap.size ≤ k)) := by
  obtain ⟨m1, m2, m3⟩ := h.map_ne
  have hsz := hba.size
  have hglt := h.glt
  have hb1 := (hg.block g (by omega) (fun e => h.ne2 e.symm)).trans ((hba.block g h.glt).trans h.blk)
  have hsg : t'.ownBlock ≠ some g := fun e => (hw g e).elim h.ne2 (fun h1 => by omega)
  have hold : ∀ k, k < w.heap.size → k ≠ g → t.ownBlock ≠ some k → (w1.setCell ⟨g, 3, none⟩ t').heap[k]? = w.heap[k]? := fun k hk hkg hks => (Below.heap_setCell _ _ _ k hkg).trans ((hg.block k (by omega) (fun e => hks e.symm)).trans (hba.block k hk))
  have hblk := block_setCell hb1 (i := 3) t'
  have hmlt := h.map.lt
  have hmap : (w1.setCell ⟨g, 3, none⟩ t').ownsMap Tryd.prog 44 (plainElem Tryd.prog 3) mb (first + st.length) D := by
    obtain ⟨es, cl, hm, rest⟩ := h.map
    exact ⟨es, cl, (hold mb h.map.lt m1 m3).trans hm, rest⟩
  have hws : w1.heap.size = (w1.setCell ⟨g, 3, none⟩ t').heap.size := by simp
  have hg1 := hg.size
  refine ⟨hblk, hmap, fun w2 D' g2 o2 l2 => ⟨⟨?_, ?_, ?_, by rw [List.length_append, List.length_singleton, ← Nat.add_assoc]; exact o2, by rw [List.length_append, List.length_singleton]; exact l2, h.ne1, hsg, fun k hk hkt => ?_⟩, ⟨?_, ?_, ?_, ?_, fun k hk hO => ?_⟩, fun k hk => ?_⟩⟩
  · exact (g2.block g (by omega) (fun e => m1 (Option.some.inj e).symm)).trans hblk
  · have hlt := fun k hk => (h.own1.lt k hk).2
    exact ownsRow_same h.own1 (fun k hk => (g2.block k (by have := hlt k hk; omega) (fun e => m2 (by rw [hk]; exact e))).trans (hold k (hlt k hk) (fun e => h.ne1 (by rw [hk]; exact congrArg some e)) (fun e => h.ne3 k hk e)))
  · rw [List.length_append, List.length_singleton]
    have hlt := fun k hk => (hown.lt k hk).2
    refine ownsRow_same hown (fun k hk => (g2.block k (by have := hlt k hk; omega) (fun e => ?_)).trans (Below.heap_setCell _ _ _ k (fun e => hsg (by rw [hk]; exact congrArg some e))))
    obtain rfl := Option.some.inj e
    rcases hw _ hk with h1 | h1
    · exact m3 h1
    · omega
  · rcases hw k hkt with h1 | h1
    · exact h.ne3 k hk h1
    · have := (h.own1.lt k hk).2
      omega
  · exact g2.os.trans (hg.os.trans hba.os)
  · exact g2.tape.trans (hg.tape.trans hba.tape)
  · exact g2.output.trans (hg.output.trans hba.output)
  · have := g2.size
    omega
  · exact (g2.block k (by omega) (fun e => hO (.inr (.inr (.inr (Option.some.inj e)))))).trans (hold k hk (fun e => hO (.inl e)) (fun e => hO (.inr (.inr (.inl e)))))
  · rcases hk with rfl | hk | hk | rfl
    · exact .inl (.inl rfl)
    · exact .inl (.inr (.inl hk))
    · exact (hw k hk).elim (fun h1 => .inl (.inr (.inr (.inl h1)))) (fun h1 => .inr (by omega))
    · exact .inl (.inr (.inr (.inr rfl)))
end Go.Proofs.YtbhmjppnhlmefaaDoor.Fx
