/-
  The window's map of places, as landed: three bytes as one number, bytes that are added, bytes that are forgotten. The conditions stand in each.
  What a packer's window keeps, as landed: its memory, bytes that are added. The conditions stand in each.
  Bytes that are added to the window, as landed. The conditions stand in it.
  slices.Delete from the front of an own row, as landed: what is left, in the same block. The conditions stand in each.
  Bytes that the window forgets, as landed. The conditions stand in it.
-/
import Derived.Maps.Own
import Derived.Maps.OwnOps
import Derived.Maps.OwnSet
import Derived.Maps.Views
import Derived.Laws.BitsAllLaws
import Derived.Test.YtefdlidjdmlnaaaWinE
import Derived.Test.YtefdlidjdmlnaaaBitsCt
import Derived.Laws.IdiomCopy
import Derived.Lib.SliceRun
namespace Go.Proofs.Ytefdlidjdmlnaaa.Fx
open Go Go.RowKit Go.Joins Go.Maps
set_option linter.unusedVariables false
theorem or_three (x y z : Nat) (hx : x < 256) (hy : y < 256) (hz : z < 256) : (x ||| (y * 256)) ||| (z * 65536) = x + 256 * y + 65536 * z := by
  have h1 : x ||| (y * 256) = x + 256 * y := by
    rw [Nat.or_comm, Nat.mul_comm y 256, show 256 = 2 ^ 8 from rfl, ← Nat.two_pow_add_eq_or_of_lt hx]
    omega
  rw [h1, Nat.or_comm, Nat.mul_comm z 65536, show 65536 = 2 ^ 16 from rfl, ← Nat.two_pow_add_eq_or_of_lt (by omega)]
  omega
set_option maxHeartbeats 2000000 in
theorem three_code (g : Nat) (s : Value) (zs : List Nat) (i : Nat) (W : World) (hs : W.cell? ⟨g, 1, none⟩ = some s) (hb : bytesIn W s zs) (h8 : ∀ x ∈ zs, x < 256) (hi : i + 3 ≤ zs.length) (hl : zs.length ≤ 1099511627776) :
    Calls Try.prog 74 #[.pointer (some ⟨g, 1, none⟩), .int .i64 (i : Int)] W fun e w' => e = .returned (.int .u32 (three zs i : Nat)) ∧ ∃ k, w' = W.drewN k := by
  obtain ⟨x, ex⟩ : ∃ x, zs[i]? = some x := ⟨zs[i]'(by omega), List.getElem?_eq_getElem _⟩
  obtain ⟨y, ey⟩ : ∃ x, zs[i + 1]? = some x := ⟨zs[i + 1]'(by omega), List.getElem?_eq_getElem _⟩
  obtain ⟨z, ez⟩ : ∃ x, zs[i + 2]? = some x := ⟨zs[i + 2]'(by omega), List.getElem?_eq_getElem _⟩
  obtain ⟨b, off, cap, ev, hlt1, hc1⟩ := listed_cell hb i x ex
  obtain ⟨b2, off2, cap2, ev2, hlt2, hc2⟩ := listed_cell hb (i + 1) y ey
  obtain ⟨b3, off3, cap3, ev3, hlt3, hc3⟩ := listed_cell hb (i + 2) z ez
  subst ev
  simp only [Value.slice.injEq, Option.some.injEq, Addr.mk.injEq] at ev2 ev3
  obtain ⟨⟨rfl, rfl, _⟩, _, rfl⟩ := ev2
  obtain ⟨⟨rfl, rfl, _⟩, _, rfl⟩ := ev3
  have hx := h8 x (List.mem_of_getElem? ex)
  have hy := h8 y (List.mem_of_getElem? ey)
  have hz := h8 z (List.mem_of_getElem? ez)
  have h3 : three zs i = (x ||| (y * 256)) ||| (z * 65536) := by
    unfold three
    rw [List.getD_eq_getElem?_getD, List.getD_eq_getElem?_getD, List.getD_eq_getElem?_getD, ex, ey, ez, or_three x y z hx hy hz]
    rfl
  have hor := or_three x y z hx hy hz
  rw [h3]
  unfold byteVal at hc1 hc2 hc3
  obtain ⟨Y, eY⟩ : ∃ Y, y * 256 = Y := ⟨_, rfl⟩
  obtain ⟨Z, eZ⟩ : ∃ Y, z * 65536 = Y := ⟨_, rfl⟩
  have y1 : (y : Int) * 256 = (Y : Int) := by omega
  have z1 : (z : Int) * 65536 = (Z : Int) := by omega
  have y2 : IntKind.u32.wrap (Y : Int) = (Y : Int) := by rw [IntKind.wrap_u32']; omega
  have z2 : IntKind.u32.wrap (Z : Int) = (Z : Int) := by rw [IntKind.wrap_u32']; omega
  have y3 : (Y : Int) % 4294967296 = (Y : Int) := by omega
  have z3 : (Z : Int) % 4294967296 = (Z : Int) := by omega
  have xw : IntKind.u32.wrap (x : Int) = (x : Int) := by rw [IntKind.wrap_u32']; omega
  have yw : IntKind.u32.wrap (y : Int) = (y : Int) := by rw [IntKind.wrap_u32']; omega
  have zw : IntKind.u32.wrap (z : Int) = (z : Int) := by rw [IntKind.wrap_u32']; omega
  have hoa := u32_or_nat x Y (by omega) (by omega)
  rw [eY, eZ] at hor ⊢
  obtain ⟨A, eA⟩ : ∃ A, x ||| Y = A := ⟨_, rfl⟩
  rw [eA] at hoa hor ⊢
  have hAl : A < 4294967296 := by rw [← eA]; exact Nat.or_lt_two_pow (n := 32) (by omega) (by omega)
  have hob := u32_or_nat A Z hAl (by omega)
  obtain ⟨B, eB⟩ : ∃ B, A ||| Z = B := ⟨_, rfl⟩
  rw [eB] at hob hor ⊢
  have hB : B < 16777216 := by omega
  obtain ⟨len, el⟩ : ∃ x, zs.length = x := ⟨_, rfl⟩
  rw [el] at hs hi hl
  have a1 : (i : Int) + 1 = ((i + 1 : Nat) : Int) := by omega
  have a2 : (i : Int) + 2 = ((i + 2 : Nat) : Int) := by omega
  obtain ⟨i1, e1⟩ : ∃ x, i + 1 = x := ⟨_, rfl⟩
  obtain ⟨i2, e2⟩ : ∃ x, i + 2 = x := ⟨_, rfl⟩
  rw [e1] at a1 hc2
  rw [e2] at a2 hc3
  have w1 : IntKind.i64.wrap (i1 : Int) = (i1 : Int) := by rw [IntKind.wrap_i64]; omega
  have w2 : IntKind.i64.wrap (i2 : Int) = (i2 : Int) := by rw [IntKind.wrap_i64]; omega
  have b0 : (i : Int) < (len : Int) := by omega
  have b1 : (i1 : Int) < (len : Int) := by omega
  have b2' : (i2 : Int) < (len : Int) := by omega
  have n0 : i < len := by omega
  have n1 : i1 < len := by omega
  have n2 : i2 < len := by omega
  clear hb h8 ex ey ez h3 hor eY eZ eA eB el e1 e2
  go_enter Try.func74, Try.ntmps74
  go_wp2_with fail
  go_quiet (fail)
  go_wp2_with fail
  go_ret
  trace_state
  exact ⟨rfl, _, rfl⟩
end Go.Proofs.Ytefdlidjdmlnaaa.Fx
namespace Go.Proofs.Ytefdlidjdmlnaaa.Fx
open Go Go.RowKit Go.Joins Go.Maps
set_option linter.unusedVariables false
/-! ### An append to an own row, of which is told where the new row lies -/
section
variable {α : Type} {c : α → Value} {P : Program}
theorem run_append_to (w : World) (t ty e : TypeId) (z : Value) (bytes : Nat) (ht : P.underlying t = some (.slice e)) (hinfo : (P.info? e).map (fun i => (i.zero, i.size, i.bytes)) = some (some z, 1, bytes)) (hz : z.cells.size = 1) (hone : ∀ y, (c y).oneCell' = true)
    (v : Value) (n : Nat) (xs : List α) (hown : w.ownsRow 0 e 1 v n (xs.map c)) (u : Value) (zs : List α) (hr : listed c w u zs) (hlen : n + zs.length ≤ maxLen) (hb : (n + zs.length) * bytes ≤ 140737488355328) :
    ∃ v' w', (Builtin.append_ #[t, t] ty #[v, u]).run P w = .ok v' w' ∧ w'.ownsRow 0 e 1 v' (n + zs.length) ((xs ++ zs).map c) ∧ w.grownBy w' v.ownBlock ∧ (∀ k, v'.ownBlock = some k → v.ownBlock = some k ∨ w.heap.size ≤ k) := by
  obtain ⟨i0, hi, hz0, hz1, hz2⟩ := info_parts hinfo
  have some_of : ∀ (ad : Addr) (cap : Nat), (∀ j y, zs[j]? = some y → w.cell? (ad.add j) = some (c y)) → ∃ v' w', (Builtin.append_ #[t, t] ty #[v, .slice (some ad) zs.length cap]).run P w = .ok v' w' ∧ w'.ownsRow 0 e 1 v' (n + zs.length) ((xs ++ zs).map c) ∧ w.grownBy w' v.ownBlock ∧ (∀ k, v'.ownBlock = some k → v.ownBlock = some k ∨ w.heap.size ≤ k) := by
    intro ad cap hc
    rw [List.map_append]
    refine run_append_where (P := P) w 0 t ty e i0 z 1 bytes ht hi hz0 hz1 hz2 hz (by decide) v n (xs.map c) hown ad zs.length cap (zs.map c) (by rw [List.length_map, Nat.mul_one]) (fun j x hj => ?_) (fun x hx => ?_) hlen hb (Nat.zero_le _)
    · rw [List.getElem?_map] at hj
      cases hzj : zs[j]? with
      | none => rw [hzj] at hj; cases hj
      | some y =>
        rw [hzj] at hj
        obtain rfl := Option.some.inj hj
        exact hc j y hzj
    · obtain ⟨y, _, rfl⟩ := List.mem_map.mp hx
      exact hone y
  rcases hr with ⟨⟨q, cap, rfl, hq⟩, rfl⟩ | ⟨b, off, cap, rfl, hlt, hle, hc⟩
  · cases q with
    | none =>
      obtain rfl : cap = 0 := hq rfl
      refine ⟨v, w, run_append_owned_none (P := P) (w := w) 0 t ty e i0 1 ht hi v n (xs.map c) hown, by simpa using hown, ⟨rfl, rfl, rfl, Nat.le_refl _, fun _ _ _ => rfl⟩, fun k hk => .inl hk⟩
    | some ad => exact some_of ad cap (fun j y hj => by simp at hj)
  · exact some_of ⟨b, off, none⟩ cap (fun j y hj => by rw [Addr.add_lit]; exact hc j y hj)
/-- 'append(own, list...)', at the operation. -/
theorem wpList_append_to {w : World} {ops : Array Oper} {rest : List Oper} {o : Oper} {a : Act} {Q : Exit → Act → World → Prop} (hgd : o.guard = none) (s x : Operand) (t : TypeId)
    (ho : o.op = .call { callee := .builtin .append, args := #[s, x], argTypes := #[t, t] })
    (e : TypeId) (z : Value) (bytes : Nat) (ht : P.underlying t = some (.slice e)) (hinfo : (P.info? e).map (fun i => (i.zero, i.size, i.bytes)) = some (some z, 1, bytes)) (hz : z.cells.size = 1) (hone : ∀ y, (c y).oneCell' = true)
    (v : Value) (n : Nat) (xs : List α) (hs : a.eval s = v) (hown : w.ownsRow 0 e 1 v n (xs.map c)) (u : Value) (zs : List α) (hx : a.eval x = u) (hr : listed c w u zs)
    (hlen : n + zs.length ≤ maxLen) (hb : (n + zs.length) * bytes ≤ 140737488355328)
    (h : ∀ v' w', w'.ownsRow 0 e 1 v' (n + zs.length) ((xs ++ zs).map c) → w.grownBy w' v.ownBlock → (∀ k, v'.ownBlock = some k → v.ownBlock = some k ∨ w.heap.size ≤ k) → wpList P ops Q rest (a.put o.dst v') w') : wpList P ops Q (o :: rest) a w := by
  refine wpList_plain hgd fun K' hK' => ?_
  obtain ⟨v', w', hrun, r1, r2, r3⟩ := run_append_to (P := P) (c := c) w t o.type e z bytes ht hinfo hz hone v n xs hown u zs hr hlen hb
  unfold Oper.wp
  simp [execOp, ho, resolve, invoke, builtin, hs, hx, hrun, Result.andThen]
  exact hK' _ _ (h v' w' r1 r2 r3)
end
/-- A new block of one cell, as a slice. -/
theorem listed_one {α : Type} {c : α → Value} (w : World) (x : α) (v : Value) (ty : TypeId) (hv : v = c x) : listed c (w.alloc (.cells #[v] ty)) (.slice (some ⟨w.heap.size, 0, none⟩) 1 1) [x] := by
  refine .inr ⟨w.heap.size, 0, 1, rfl, ?_, Nat.le_refl _, fun j z hj => ?_⟩
  · show _ < (w.heap.push _).size
    simp
  · match j, hj with
    | 0, hj =>
      obtain rfl := Option.some.inj hj
      rw [← hv]
      exact cell_of_block (heap_alloc_new w _) 0
    | j + 1, hj => simp at hj
/-! ### What is kept -/
theorem info32 : (Try.prog.info? 21).map (fun i => (i.zero, i.size, i.bytes)) = some (some (.int .i32 0), 1, 4) := by kernel_rfl
theorem infoU8 : (Try.prog.info? 5).map (fun i => (i.zero, i.size, i.bytes)) = some (some (.int .u8 0), 1, 1) := by kernel_rfl
theorem keyLaw : Keyed Try.prog 80 := int_keyed Try.underlying80
theorem zeroInt (w : World) : (zeroValue 3).run Try.prog w = .ok (.int .i64 0) w := by kernel_rfl
abbrev Book := DataW Unit
/-- Where three bytes stand, as the map has it: the greatest of the places below m, told from the writer's beginning on. -/
def Lasts (zs : List Nat) (first m : Nat) (D : Book) : Prop := ∀ t : Nat, t < 16777216 → match lastOf zs t m with
  | some p => Maps.has D (.int .u32 (t : Int)) = true ∧ D.atKey (.int .u32 (t : Int)) (.lit (.int .i64 0)) = .lit (.int .i64 ((first + p : Nat) : Int))
  | none => Maps.has D (.int .u32 (t : Int)) = false
theorem Lasts.start (first : Nat) : Lasts [] first 0 (.map []) := fun t _ => rfl
theorem Lasts.more {zs : List Nat} {first m : Nat} {D : Book} (h : Lasts zs first m D) (xs : List Nat) (hm : m + 2 ≤ zs.length ∨ m = 0) : Lasts (zs ++ xs) first m D := fun t ht => by
  rw [lastOf_append zs xs t m hm]
  exact h t ht
theorem Lasts.put {zs : List Nat} {first m : Nat} {D : Book} (h : Lasts zs first m D) (hD : IsMap D) : Lasts zs first (m + 1) (D.put (.int .u32 (three zs m : Nat)) (.lit (.int .i64 ((first + m : Nat) : Int)))) := fun t ht => by
  by_cases e : three zs m = t
  · have h1 : lastOf zs t (m + 1) = some m := by rw [lastOf, if_pos e]
    rw [h1, ← e]
    exact ⟨has_put_same hD (by trivial) _, atKey_put_same hD (by trivial) _ _⟩
  · have h1 : lastOf zs t (m + 1) = lastOf zs t m := by rw [lastOf, if_neg e]
    have hne : (Lit.int .u32 (t : Int)) ≠ .int .u32 (three zs m : Nat) := fun h => e (by simp only [Lit.int.injEq, true_and] at h; omega)
    rw [h1]
    have := h t ht
    cases hq : lastOf zs t m with
    | none =>
      rw [hq] at this
      simp only at this ⊢
      rw [has_put_other hne]
      exact this
    | some p =>
      rw [hq] at this
      simp only at this ⊢
      rw [has_put_other hne, atKey_put_other hne]
      exact this
/-- A packer's memory. -/
structure Kept (w : World) (g : Nat) (out s t : Value) (mb : Nat) (zs : List Nat) (first : Nat) (st : List Nat) (opn : Nat) (D : Book) : Prop where
  blk : w.heap[g]? = some (.cells #[out, s, .int .i64 (first : Int), t, .map (some mb), .int .i64 (opn : Int), .bool false] 105 (0, 0))
  own1 : w.ownsRow 0 5 1 s zs.length (zs.map byteVal)
  own2 : w.ownsRow 0 21 1 t st.length (st.map stepVal)
  map : w.ownsMap Try.prog 80 (plainElem Try.prog 3) mb (first + st.length) D
  last : Lasts zs first st.length D
  ne1 : s.ownBlock ≠ some g
  ne2 : t.ownBlock ≠ some g
  ne3 : ∀ k, s.ownBlock = some k → t.ownBlock ≠ some k
theorem row_block {w : World} {base : Nat} {e : TypeId} {n : Nat} {v : Value} {c : Nat} {xs : List Value} (h : w.ownsRow base e n v c xs) {k : Nat} (hk : v.ownBlock = some k) : ∃ cs ty m, w.heap[k]? = some (.cells cs ty m) := by
  rcases h.2 with ⟨rfl, _⟩ | ⟨g, cap, cur, rfl, _, hg, _⟩
  · simp [Value.ownBlock] at hk
  · simp [Value.ownBlock] at hk
    subst hk
    exact ⟨_, _, _, hg⟩
theorem Kept.map_ne {w : World} {g : Nat} {out s t : Value} {mb : Nat} {zs : List Nat} {first : Nat} {st : List Nat} {opn : Nat} {D : Book} (h : Kept w g out s t mb zs first st opn D) : mb ≠ g ∧ s.ownBlock ≠ some mb ∧ t.ownBlock ≠ some mb := by
  obtain ⟨es, cl, hm, _⟩ := h.map
  refine ⟨fun e => ?_, fun e => ?_, fun e => ?_⟩
  · have := h.blk
    rw [← e, hm] at this
    cases this
  · obtain ⟨cs, ty, m, hb⟩ := row_block h.own1 e
    rw [hm] at hb
    cases hb
  · obtain ⟨cs, ty, m, hb⟩ := row_block h.own2 e
    rw [hm] at hb
    cases hb
theorem Kept.glt {w : World} {g : Nat} {out s t : Value} {mb : Nat} {zs : List Nat} {first : Nat} {st : List Nat} {opn : Nat} {D : Book} (h : Kept w g out s t mb zs first st opn D) : g < w.heap.size := (Array.getElem?_eq_some_iff.1 h.blk).1
/-- The blocks of it. -/
def blocksK (g : Nat) (s t : Value) (mb : Nat) (k : Nat) : Prop := k = g ∨ s.ownBlock = some k ∨ t.ownBlock = some k ∨ k = mb
theorem Kept.lt {w : World} {g : Nat} {out s t : Value} {mb : Nat} {zs : List Nat} {first : Nat} {st : List Nat} {opn : Nat} {D : Book} (h : Kept w g out s t mb zs first st opn D) (k : Nat) (hk : blocksK g s t mb k) : k < w.heap.size := by
  rcases hk with rfl | hk | hk | rfl
  · exact h.glt
  · exact (h.own1.lt k hk).2
  · exact (h.own2.lt k hk).2
  · exact h.map.lt
theorem Kept.keep {w w' : World} {g : Nat} {out s t : Value} {mb : Nat} {zs : List Nat} {first : Nat} {st : List Nat} {opn : Nat} {D : Book} (h : Kept w g out s t mb zs first st opn D) (hk : ∀ k, blocksK g s t mb k → w'.heap[k]? = w.heap[k]?) : Kept w' g out s t mb zs first st opn D := by
  refine ⟨(hk g (.inl rfl)).trans h.blk, ownsRow_same h.own1 (fun k e => hk k (.inr (.inl e))), ownsRow_same h.own2 (fun k e => hk k (.inr (.inr (.inl e)))), ?_, h.last, h.ne1, h.ne2, h.ne3⟩
  obtain ⟨es, cl, hm, rest⟩ := h.map
  exact ⟨es, cl, (hk mb (.inr (.inr (.inr rfl)))).trans hm, rest⟩
/-- Behind the append of bytes. -/
theorem Kept.add {w w1 : World} {g : Nat} {out s t : Value} {mb : Nat} {zs : List Nat} {first : Nat} {st : List Nat} {opn : Nat} {D : Book} (h : Kept w g out s t mb zs first st opn D) (hst : st.length ≤ zs.length - 2) (s' : Value) (xs : List Nat) (hown : w1.ownsRow 0 5 1 s' (zs.length + xs.length) ((zs ++ xs).map byteVal)) (hg : w.grownBy w1 s.ownBlock) (hw : ∀ k, s'.ownBlock = some k → s.ownBlock = some k ∨ w.heap.size ≤ k) :
    Kept (w1.setCell ⟨g, 1, none⟩ s') g out s' t mb (zs ++ xs) first st opn D ∧ Past (blocksK g s t mb) w (w1.setCell ⟨g, 1, none⟩ s') ∧ (∀ k, blocksK g s' t mb k → blocksK g s t mb k ∨ w.heap.size ≤ k) := by
  obtain ⟨m1, m2, m3⟩ := h.map_ne
  have hb1 := (hg.block g h.glt (fun e => h.ne1 e.symm)).trans h.blk
  have hsg : s'.ownBlock ≠ some g := fun e => (hw g e).elim h.ne1 (fun h1 => by have := h.glt; omega)
  have hold : ∀ k, k < w.heap.size → k ≠ g → s.ownBlock ≠ some k → (w1.setCell ⟨g, 1, none⟩ s').heap[k]? = w.heap[k]? := fun k hk hkg hks => (Below.heap_setCell _ _ _ k hkg).trans (hg.block k hk (fun e => hks e.symm))
  refine ⟨⟨block_setCell hb1 _, ?_, ?_, ?_, h.last.more xs (by omega), hsg, h.ne2, fun k hk hkt => ?_⟩, ⟨hg.os, hg.tape, hg.output, by simpa using hg.size, fun k hk hO => hold k hk (fun e => hO (.inl e)) (fun e => hO (.inr (.inl e)))⟩, fun k hk => ?_⟩
  · rw [List.length_append]
    exact ownsRow_same hown (fun k hk => Below.heap_setCell _ _ _ k (fun e => hsg (by rw [hk]; exact congrArg some e)))
  · exact ownsRow_same h.own2 (fun k hk => hold k (h.own2.lt k hk).2 (fun e => h.ne2 (by rw [hk]; exact congrArg some e)) (fun e => h.ne3 k e hk))
  · obtain ⟨es, cl, hm, rest⟩ := h.map
    exact ⟨es, cl, (hold mb h.map.lt m1 m2).trans hm, rest⟩
  · rcases hw k hk with h1 | h1
    · exact h.ne3 k h1 hkt
    · have := (h.own2.lt k hkt).2
      omega
  · rcases hk with rfl | hk | hk | rfl
    · exact .inl (.inl rfl)
    · exact (hw k hk).elim (fun h1 => .inl (.inr (.inl h1))) .inr
    · exact .inl (.inr (.inr (.inl hk)))
    · exact .inl (.inr (.inr (.inr rfl)))
/-- Behind the append of a step. -/
theorem Kept.stepped {w wa w1 : World} {g : Nat} {out s t : Value} {mb : Nat} {zs : List Nat} {first : Nat} {st : List Nat} {opn : Nat} {D : Book} (h : Kept w g out s t mb zs first st opn D) (hba : Below w.heap.size w wa) (t' : Value) (x : Nat) (hown : w1.ownsRow 0 21 1 t' (st.length + 1) ((st ++ [x]).map stepVal)) (hg : wa.grownBy w1 t.ownBlock) (hw : ∀ k, t'.ownBlock = some k → t.ownBlock = some k ∨ wa.heap.size ≤ k) :
    (w1.setCell ⟨g, 3, none⟩ t').heap[g]? = some (.cells #[out, s, .int .i64 (first : Int), t', .map (some mb), .int .i64 (opn : Int), .bool false] 105 (0, 0)) ∧ (w1.setCell ⟨g, 3, none⟩ t').ownsMap Try.prog 80 (plainElem Try.prog 3) mb (first + st.length) D ∧
    (∀ w2 D', (w1.setCell ⟨g, 3, none⟩ t').grownBy w2 (some mb) → w2.ownsMap Try.prog 80 (plainElem Try.prog 3) mb (first + st.length + 1) D' → Lasts zs first (st.length + 1) D' → Kept w2 g out s t' mb zs first (st ++ [x]) opn D' ∧ Past (blocksK g s t mb) w w2 ∧ (∀ k, blocksK g s t' mb k → blocksK g s t mb k ∨ w.heap.size ≤ k)) := by
  obtain ⟨m1, m2, m3⟩ := h.map_ne
  have hsz := hba.size
  have hglt := h.glt
  have hb1 := (hg.block g (by omega) (fun e => h.ne2 e.symm)).trans ((hba.block g h.glt).trans h.blk)
  have hsg : t'.ownBlock ≠ some g := fun e => (hw g e).elim h.ne2 (fun h1 => by omega)
  have hold : ∀ k, k < w.heap.size → k ≠ g → t.ownBlock ≠ some k → (w1.setCell ⟨g, 3, none⟩ t').heap[k]? = w.heap[k]? := fun k hk hkg hks => (Below.heap_setCell _ _ _ k hkg).trans ((hg.block k (by omega) (fun e => hks e.symm)).trans (hba.block k hk))
  have hblk := block_setCell hb1 (i := 3) t'
  have hmlt := h.map.lt
  have hmap : (w1.setCell ⟨g, 3, none⟩ t').ownsMap Try.prog 80 (plainElem Try.prog 3) mb (first + st.length) D := by
    obtain ⟨es, cl, hm, rest⟩ := h.map
    exact ⟨es, cl, (hold mb h.map.lt m1 m3).trans hm, rest⟩
  have hws : w1.heap.size = (w1.setCell ⟨g, 3, none⟩ t').heap.size := by simp
  have hg1 := hg.size
  refine ⟨hblk, hmap, fun w2 D' g2 o2 l2 => ⟨⟨?_, ?_, ?_, by rw [List.length_append, List.length_singleton, ← Nat.add_assoc]; exact o2, by rw [List.length_append, List.length_singleton]; exact l2, h.ne1, hsg, fun k hk hkt => ?_⟩, ⟨?_, ?_, ?_, ?_, fun k hk hO => ?_⟩, fun k hk => ?_⟩⟩
  · exact (g2.block g (by omega) (fun e => m1 (Option.some.inj e).symm)).trans hblk
  · have hlt := fun k hk => (h.own1.lt k hk).2
    exact ownsRow_same h.own1 (fun k hk => (g2.block k (by have := hlt k hk; omega) (fun e => m2 (by rw [hk]; exact e))).trans (hold k (hlt k hk) (fun e => h.ne1 (by rw [hk]; exact congrArg some e)) (fun e => h.ne3 k hk e)))
  · rw [List.length_append, List.length_singleton]
    have hlt := fun k hk => (hown.lt k hk).2
    refine ownsRow_same hown (fun k hk => (g2.block k (by have := hlt k hk; omega) (fun e => ?_)).trans (Below.heap_setCell _ _ _ k (fun e => hsg (by rw [hk]; exact congrArg some e))))
    obtain rfl := Option.some.inj e
    rcases hw _ hk with h1 | h1
    · exact m3 h1
    · omega
  · rcases hw k hkt with h1 | h1
    · exact h.ne3 k hk h1
    · have := (h.own1.lt k hk).2
      omega
  · exact g2.os.trans (hg.os.trans hba.os)
  · exact g2.tape.trans (hg.tape.trans hba.tape)
  · exact g2.output.trans (hg.output.trans hba.output)
  · have := g2.size
    omega
  · exact (g2.block k (by omega) (fun e => hO (.inr (.inr (.inr (Option.some.inj e)))))).trans (hold k hk (fun e => hO (.inl e)) (fun e => hO (.inr (.inr (.inl e)))))
  · rcases hk with rfl | hk | hk | rfl
    · exact .inl (.inl rfl)
    · exact .inl (.inr (.inl hk))
    · exact (hw k hk).elim (fun h1 => .inl (.inr (.inr (.inl h1)))) (fun h1 => .inr (by omega))
    · exact .inl (.inr (.inr (.inr rfl)))
end Go.Proofs.Ytefdlidjdmlnaaa.Fx
namespace Go.Proofs.Ytefdlidjdmlnaaa.Fx
open Go Go.RowKit Go.Joins Go.Maps
set_option linter.unusedVariables false
/-- A packer's memory, whatever its parts are: the bytes that are kept, from which place on, and how many are in no block. -/
def isK (w : World) (g : Nat) (out : Value) (zs : List Nat) (first opn : Nat) (O : Nat → Prop) : Prop :=
  ∃ s t mb st D, Kept w g out s t mb zs first st opn D ∧ Steps zs st ∧ st.length = zs.length - 2 ∧ O = blocksK g s t mb
theorem Kept.cells {w : World} {g : Nat} {out s t : Value} {mb : Nat} {zs : List Nat} {first : Nat} {st : List Nat} {opn : Nat} {D : Book} (h : Kept w g out s t mb zs first st opn D) :
    w.cell? ⟨g, 0, none⟩ = some out ∧ w.cell? ⟨g, 1, none⟩ = some s ∧ w.cell? ⟨g, 2, none⟩ = some (.int .i64 (first : Int)) ∧ w.cell? ⟨g, 3, none⟩ = some t ∧ w.cell? ⟨g, 4, none⟩ = some (.map (some mb)) ∧ w.cell? ⟨g, 5, none⟩ = some (.int .i64 (opn : Int)) ∧ w.cell? ⟨g, 6, none⟩ = some (.bool false) :=
  ⟨cell_of_block h.blk 0, cell_of_block h.blk 1, cell_of_block h.blk 2, cell_of_block h.blk 3, cell_of_block h.blk 4, cell_of_block h.blk 5, cell_of_block h.blk 6⟩
theorem u32_wf (T : Nat) (hT : T < 4294967296) : (Lit.int .u32 (T : Int)).wf = true := by
  simp [Lit.wf, IntKind.min, IntKind.max, IntKind.bits, IntKind.signed]
  omega
theorem i64_wf (n : Int) (h : -9223372036854775808 ≤ n ∧ n < 9223372036854775808) : (Lit.int .i64 n).wf = true := by
  simp [Lit.wf, IntKind.min, IntKind.max, IntKind.bits, IntKind.signed]
  omega
theorem ownsMap_drewN {w : World} {P : Program} {k : TypeId} {R : Value → Option (Book × List MemPlace)} {b n : Nat} {D : Book} (h : w.ownsMap P k R b n D) (m : Nat) : (w.drewN m).ownsMap P k R b n D := h
set_option maxRecDepth 100000 in
theorem i32_type : Try.prog.underlying 99 = some (.slice (Try.prog.elem 99)) := Try.underlying99
set_option maxRecDepth 100000 in
theorem bytes_type' : Try.prog.underlying 36 = some (.slice (Try.prog.elem 36)) := Try.underlying36
set_option maxHeartbeats 4000000 in
set_option maxRecDepth 100000 in
theorem add_code (g : Nat) (out bv : Value) (zs xs : List Nat) (first opn : Nat) (W : World) (O : Nat → Prop) (hk : isK W g out zs first opn O) (hb : bytesIn W bv xs) (h8 : ∀ x ∈ zs ++ xs, x < 256) (hbO : ∀ b, inBlock bv b → ¬ O b) (hl : (zs ++ xs).length ≤ 65536) (hf : first ≤ 1099511627776) :
    Calls Try.prog 56 #[.pointer (some ⟨g, 1, none⟩), bv] W fun e w' => e = .returned (.tuple #[]) ∧ ∃ O', isK w' g out (zs ++ xs) first opn O' ∧ (∀ b, O' b → O b ∨ W.heap.size ≤ b) ∧ Past O W w' := by
  obtain ⟨s, t, mb, st, D, hkept, hsteps, hst, rfl⟩ := hk
  have HK := Lib.hid hkept
  have HST := Lib.hid hsteps
  have HSL := Lib.hid hst
  have HB := Lib.hid hb
  have H8 := Lib.hid h8
  obtain ⟨q0, q1, q2, q3, q4, q5, q6⟩ := hkept.cells
  have hll : zs.length + xs.length ≤ 65536 := by rw [← List.length_append]; exact hl
  have HL := Lib.hid hl
  have f1 := unfrozen_of_block hkept.blk 1
  have hglt := hkept.glt
  obtain ⟨so, sc, rfl⟩ := row_any hkept.own1
  obtain ⟨bo, bc, rfl⟩ := listed_length hb
  clear hkept hsteps hst hb h8 hl hbO q0 q2 q3 q4 q5 q6
  obtain ⟨n1, en1⟩ : ∃ n, zs.length = n := ⟨_, rfl⟩
  obtain ⟨m1, em1⟩ : ∃ n, xs.length = n := ⟨_, rfl⟩
  have HO1 := Lib.hid HK.out.own1
  have EN1 := Lib.hid en1
  have EM1 := Lib.hid em1
  rw [en1] at HK HO1 q1 hll ⊢
  rw [em1] at HB hll ⊢
  obtain ⟨Z, eZ⟩ : ∃ Z, zs ++ xs = Z := ⟨_, rfl⟩
  have EZ := Lib.hid eZ
  rw [eZ] at H8 HL ⊢
  clear en1 em1 eZ
  go_enter Try.func56, Try.ntmps56
  go_wp2_with (at_builtin; refine wpList_append_to (c := byteVal) rfl _ _ 36 rfl 5 (.int .u8 0) 1 Try.underlying36 infoU8 rfl (fun _ => rfl) (.slice so n1 sc) n1 zs rfl HO1.out (.slice bo m1 bc) xs rfl HB.out (by rw [EM1.out]; unfold maxLen; omega) (by rw [EM1.out]; omega) ?_)
  intro s' w1 hown hgrow hwhere
  obtain ⟨s1o, s1c, es'⟩ := row_any hown
  obtain ⟨k1, k2, k3⟩ := HK.out.add (by rw [HSL.out]; omega) s' xs (by rw [List.map_append, EN1.out]; exact hown) hgrow hwhere
  have hb1 := (hgrow.block g hglt (fun e => HK.out.ne1 e.symm)).trans HK.out.blk
  have c1 := cell_of_block hb1 1
  have f2 := unfrozen_of_block hb1 1
  have K1 := Lib.hid k1
  have K2 := Lib.hid k2
  have K3 := Lib.hid k3
  clear q1 f1 hown hgrow hwhere hb1 k1 k2 k3
  rw [EM1.out] at es'
  rw [es']
  go_upto_region 1 with fail
  rw [← es']
  clear es'
  obtain ⟨x, ex⟩ : ∃ x, x = w1.setCell ⟨g, 1, none⟩ s' := ⟨_, rfl⟩
  rw [← ex] at K1 K2 ⊢
  clear c1 f2 ex
  obtain ⟨q0, q1, q2, q3, q4, q5, q6⟩ := K1.out.cells
  have hlt := fun w => listed_len (u := 3) (P := Try.prog) (t := 99) i32_type (own_listed K1.out.own2) w
  have hZ : Z.length ≤ 65536 := HL.out
  have HS0 : Hid (Steps Z st) := by rw [← EZ.out]; exact HST.out.more xs
  have HSZ : Hid (st.length ≤ Z.length - 2) := by
    show _ ≤ _
    rw [← EZ.out, List.length_append, HSL.out]
    omega
  rw [EZ.out] at K1
  obtain ⟨n0, en0⟩ : ∃ n, st.length = n := ⟨_, rfl⟩
  rw [en0] at hlt
  have EN0 := Lib.hid en0
  clear en0 q0 q1 q2 q4 q5 q6
  go_wp2_with fail
  clear q3 hlt
  obtain ⟨O0, eO0⟩ : ∃ O0, O0 = blocksK g (.slice so n1 sc) t mb := ⟨_, rfl⟩
  have EO0 := Lib.hid eO0
  rw [← eO0] at K2 K3
  clear eO0
  go_loopw [4] (fun s4 wr => ∃ (t' : Value) (st' : List Nat) (D' : Book), s4 = .int .i64 (st'.length : Int) ∧ Hid (Kept wr g out s' t' mb Z first st' opn D') ∧ Hid (Steps Z st') ∧ st'.length ≤ Z.length - 2 ∧ Hid (∀ k, blocksK g s' t' mb k → O0 k ∨ W.heap.size ≤ k) ∧ Hid (Past O0 W wr)) (fun s4 _ => Z.length - (intOf s4).toNat)
  case atStart => exact ⟨t, st, D, by rw [EN0.out], K1, HS0, HSZ.out, K3, K2⟩
  case round =>
    obtain ⟨t', st', D', rfl, hK, hS, hle, hO, hP⟩ := hrel
    obtain ⟨q0, q1, q2, q3, q4, q5, q6⟩ := hK.out.cells
    have hlen := fun w => listed_len (u := 3) (P := Try.prog) (t := 36) bytes_type' (own_listed hK.out.own1) w
    obtain ⟨i, ei⟩ : ∃ i, st'.length = i := ⟨_, rfl⟩
    obtain ⟨len, el⟩ : ∃ i, Z.length = i := ⟨_, rfl⟩
    rw [ei] at hle ⊢
    rw [el] at hle hlen hZ ⊢
    have EI := Lib.hid ei
    have EL := Lib.hid el
    clear ei el
    by_cases hlt : i + 3 ≤ len
    · have d1 : decide ((i : Int) + 3 ≤ (len : Int)) = true := decide_eq_true (by omega)
      have K3c := fun (w : World) h1 h2 => three_code g s' Z i w h1 h2 H8.out (by rw [EL.out]; exact hlt) (by rw [EL.out]; omega)
      have hsum : (first : Int) + (i : Int) = ((first + i : Nat) : Int) := by omega
      obtain ⟨F, eF⟩ : ∃ F, first + i = F := ⟨_, rfl⟩
      rw [eF] at hsum
      have hF : F ≤ 1099511627776 + 65536 := by omega
      have wF : IntKind.i64.wrap (F : Int) = (F : Int) := by rw [IntKind.wrap_i64]; omega
      have EF := Lib.hid eF
      obtain ⟨T, eT⟩ : ∃ T, three Z i = T := ⟨_, rfl⟩
      rw [eT] at K3c
      have ET := Lib.hid eT
      have hT : T < 16777216 := by rw [← eT]; exact three_lt Z H8.out i
      have KT := fun n => K3c (wr.drewN n) q1 (own_listed hK.out.own1)
      clear K3c eT eF
      go_wp2_with fail
      go_quiet ((go_at_call 74; exact Calls.quiet_of (KT _)))
      have HMAP := Lib.hid hK.out.map
      have HLAST := Lib.hid (hK.out.last T hT)
      obtain ⟨hb, ehb⟩ : ∃ b, Maps.has D' (.int .u32 (T : Int)) = b := ⟨_, rfl⟩
      obtain ⟨p, hpb, hp⟩ : ∃ p : Nat, stepOf Z i = p ∧ (∀ c : Int, D'.atKey (.int .u32 (T : Int)) (.lit (.int .i64 0)) = .lit (.int .i64 c) → (hb = true → (F : Int) - c = (p : Int)) ∧ (hb = false → p = 0)) := by
        refine ⟨_, rfl, fun c hc => ?_⟩
        unfold stepOf
        rw [ET.out]
        have h1 := HLAST.out
        rw [EI.out] at h1
        cases hq : lastOf Z T i with
        | none =>
          rw [hq] at h1
          simp only at h1 ⊢
          rw [h1] at ehb
          exact ⟨(fun h => by rw [← ehb] at h; cases h), fun _ => by first | rfl | trivial⟩
        | some q =>
          rw [hq] at h1
          simp only at h1 ⊢
          obtain ⟨h2, h3⟩ := h1
          rw [h2] at ehb
          rw [h3] at hc
          simp only [DataW.lit.injEq, Lit.int.injEq, true_and] at hc
          have := (lastOf_some hq).1
          refine ⟨fun _ => by rw [← hc, ← EF.out]; omega, (fun h => by rw [← ehb] at h; cases h)⟩
      have hps : p ≤ 65536 := by
        rw [← hpb]
        unfold stepOf
        split <;> omega
      have EHB := Lib.hid ehb
      have HP1 := Lib.hid hpb
      have HP2 := Lib.hid hp
      have hbk := ehb
      clear ehb hpb hp
      have HTW := Lib.hid (u32_wf T (by omega))
      have HFW := Lib.hid (i64_wf (F : Int) (by omega))
      obtain ⟨to', tc', et'⟩ := row_shape hK.out.own2
      rw [EI.out] at et'
      subst et'
      have hglt2 := hK.out.glt
      have HOWN2 : Hid (∀ (n : Nat) (o : Obj), ((wr.drewN n).alloc o).ownsRow 0 21 1 (.slice to' i tc') i (st'.map stepVal)) := fun n o => by
        have h := hK.out.own2
        rw [EI.out] at h
        exact World.ownsRow.alloc (w := wr.drewN n) h o
      have HSN : Hid (Steps Z (st' ++ [p])) := by
        have := hS.out.snoc (by rw [EI.out, EL.out]; exact hlt) (by rw [EL.out]; exact hZ)
        rw [EI.out, HP1.out] at this
        exact this
      have HLP : Hid (Lasts Z first (st'.length + 1) (D'.put (.int .u32 (T : Int)) (.lit (.int .i64 (F : Int))))) := by
        have := hK.out.last.put hK.out.map.isMap
        rw [EI.out, ET.out, EF.out] at this
        show Lasts _ _ _ _
        rw [EI.out]
        exact this
      cases hb with
      | false =>
        go_upto_region 9 with (at_lookup; refine wpList_lookup_own_ok_int _ rfl _ _ 100 rfl 80 3 .i64 keyLaw Try.underlying100 Try.underlying3 (zeroInt _) mb (first + st'.length) D' rfl (ownsMap_drewN HMAP.out _) _ _ rfl (keyOf_int_mk Try.underlying80 HTW.out) ?_; intro c hat hwc; have hp0 := Lib.hid ((HP2.out c hat).2 (by first | rfl | trivial)); clear hat hwc)
        go_wp2_with (at_builtin; refine wpList_append_to (c := stepVal) rfl _ _ 99 rfl 21 (.int .i32 0) 4 Try.underlying99 info32 rfl (fun _ => rfl) (.slice to' i tc') i st' rfl (HOWN2.out _ _) (.slice (some ⟨wr.heap.size, 0, none⟩) 1 1) [p] rfl (listed_one (wr.drewN _) p (.int .i32 0) _ (by rw [hp0.out]; rfl)) (by unfold maxLen; simp; omega) (by simp; omega) ?_)
        intro t2 w2 hown2 hgrow2 hwhere2
        obtain ⟨t2o, t2c, rfl⟩ := row_shape hown2
        obtain ⟨j1, j2, j3⟩ := hK.out.stepped ((below_drewN (Below.refl _ _) _).alloc (Nat.le_refl _) _) (.slice t2o (i + 1) t2c) p (by rw [EI.out]; simpa using hown2) hgrow2 (fun k hk => (hwhere2 k hk).elim .inl (fun h => .inr (by show (wr.heap.push _).size ≤ k; rw [Array.size_push]; exact h)))
        have hb2 := (hgrow2.block g (by show g < (wr.drewN _ |>.alloc _).heap.size; have := hglt2; show g < (wr.heap.push _).size; simp; omega) (fun e => hK.out.ne2 e.symm)).trans (((below_drewN (Below.refl wr.heap.size wr) _).alloc (Nat.le_refl _) (.cells #[.int .i32 0] 21)).block g hglt2 |>.trans hK.out.blk)
        have J3 := Lib.hid j3
        have J2 := Lib.hid j2
        have d3 := cell_of_block hb2 3
        have d4 := cell_of_block hb2 4
        have f3 := unfrozen_of_block hb2 3
        clear q0 q1 q2 q3 q4 q5 q6 hown2 hgrow2 hwhere2 hb2 j1 j2 j3
        go_wp2_with (at_mapUpdate; refine wpList_mapUpdate_own _ rfl _ _ _ 100 rfl 80 3 keyLaw Try.underlying100 _ mb (first + st'.length) D' rfl J2.out (by unfold maxLen; rw [EI.out]; omega) _ _ _ rfl rfl (keyOf_int_mk Try.underlying80 HTW.out) _ [] (plainElem_int Try.underlying3 HFW.out) ?_)
        intro w3 hown3 hgrow3
        obtain ⟨l1, l2, l3⟩ := J3.out w3 _ hgrow3 hown3 HLP.out
        go_wp2_with fail
        go_roundw
        case rel => exact ⟨_, st' ++ [p], _, by rw [List.length_append, EI.out]; simp, l1, HSN.out, by rw [List.length_append, EI.out]; simp; omega, fun k hk => (l3 k hk).elim (fun h => hO.out k h) (fun h => .inr (by have := hP.out.size; omega)), hP.out.trans l2 hO.out⟩
        case measure => simp [intOf]; omega
      | true =>
        go_upto_region 9 with (at_lookup; refine wpList_lookup_own_ok_int _ rfl _ _ 100 rfl 80 3 .i64 keyLaw Try.underlying100 Try.underlying3 (zeroInt _) mb (first + st'.length) D' rfl (ownsMap_drewN HMAP.out _) _ _ rfl (keyOf_int_mk Try.underlying80 HTW.out) ?_; intro c hat hwc; have hp0 := (HP2.out c hat).1 (by first | rfl | trivial); clear hat hwc)
        clear hp0
        go_wp2_with (at_builtin; refine wpList_append_to (c := stepVal) rfl _ _ 99 rfl 21 (.int .i32 0) 4 Try.underlying99 info32 rfl (fun _ => rfl) (.slice to' i tc') i st' rfl (HOWN2.out _ _) (.slice (some ⟨wr.heap.size, 0, none⟩) 1 1) [p] rfl (listed_one (wr.drewN _) p (.int .i32 (p : Int)) _ rfl) (by unfold maxLen; simp; omega) (by simp; omega) ?_)
        intro t2 w2 hown2 hgrow2 hwhere2
        obtain ⟨t2o, t2c, rfl⟩ := row_shape hown2
        obtain ⟨j1, j2, j3⟩ := hK.out.stepped ((below_drewN (Below.refl _ _) _).alloc (Nat.le_refl _) _) (.slice t2o (i + 1) t2c) p (by rw [EI.out]; simpa using hown2) hgrow2 (fun k hk => (hwhere2 k hk).elim .inl (fun h => .inr (by show (wr.heap.push _).size ≤ k; rw [Array.size_push]; exact h)))
        have hb2 := (hgrow2.block g (by show g < (wr.drewN _ |>.alloc _).heap.size; have := hglt2; show g < (wr.heap.push _).size; simp; omega) (fun e => hK.out.ne2 e.symm)).trans (((below_drewN (Below.refl wr.heap.size wr) _).alloc (Nat.le_refl _) (.cells #[.int .i32 (p : Int)] 21)).block g hglt2 |>.trans hK.out.blk)
        have J3 := Lib.hid j3
        have J2 := Lib.hid j2
        have d3 := cell_of_block hb2 3
        have d4 := cell_of_block hb2 4
        have f3 := unfrozen_of_block hb2 3
        clear q0 q1 q2 q3 q4 q5 q6 hown2 hgrow2 hwhere2 hb2 j1 j2 j3
        go_wp2_with (at_mapUpdate; refine wpList_mapUpdate_own _ rfl _ _ _ 100 rfl 80 3 keyLaw Try.underlying100 _ mb (first + st'.length) D' rfl J2.out (by unfold maxLen; rw [EI.out]; omega) _ _ _ rfl rfl (keyOf_int_mk Try.underlying80 HTW.out) _ [] (plainElem_int Try.underlying3 HFW.out) ?_)
        intro w3 hown3 hgrow3
        obtain ⟨l1, l2, l3⟩ := J3.out w3 _ hgrow3 hown3 HLP.out
        go_wp2_with fail
        go_roundw
        case rel => exact ⟨_, st' ++ [p], _, by rw [List.length_append, EI.out]; simp, l1, HSN.out, by rw [List.length_append, EI.out]; simp; omega, fun k hk => (l3 k hk).elim (fun h => hO.out k h) (fun h => .inr (by have := hP.out.size; omega)), hP.out.trans l2 hO.out⟩
        case measure => simp [intOf]; omega
    · have d1 : decide ((i : Int) + 3 ≤ (len : Int)) = false := decide_eq_false (by omega)
      go_wp2_with fail
      refine bodyPost_end (v := .tuple #[]) (by simp [results, Try.results56, go_sem]) rfl ⟨rfl, _, ⟨s', t', mb, st', D', hK.out, hS.out, by rw [EI.out, EL.out]; omega, rfl⟩, ?_, ?_⟩
      · rw [← EO0.out]
        exact hO.out
      · rw [← EO0.out]
        exact hP.out
end Go.Proofs.Ytefdlidjdmlnaaa.Fx
namespace Go.Proofs.Ytefdlidjdmlnaaa.Fx
open Go Go.RowKit Go.Joins
set_option linter.unusedVariables false
/-- A row of cells that are written: the block, and all others. -/
theorem cleared (b : Nat) : ∀ (vs : List Value) (o : Nat) (w : World) (cur : Array Value) (e : TypeId), w.heap[b]? = some (.cells cur e (0, 0)) →
    ∃ cur', (w.setCells b o vs).heap[b]? = some (.cells cur' e (0, 0)) ∧ cur'.size = cur.size ∧ (∀ j, j < o → cur'[j]? = cur[j]?) ∧ Past (fun k => k = b) w (w.setCells b o vs) ∧ (w.setCells b o vs).heap.size = w.heap.size
  | [], o, w, cur, e, h => ⟨cur, h, rfl, fun _ _ => rfl, Past.refl _ _, rfl⟩
  | v :: r, o, w, cur, e, h => by
    obtain ⟨cur', h1, h2, h3, h4, h5⟩ := cleared b r (o + 1) (w.setCell ⟨b, o, none⟩ v) (cur.setIfInBounds o v) e (block_setCell h v)
    refine ⟨cur', h1, by rw [h2]; simp, fun j hj => ?_, (past_setCell w b o v).trans h4 (fun b hb => .inl hb), by show ((w.setCell ⟨b, o, none⟩ v).setCells b (o + 1) r).heap.size = _; rw [h5]; simp⟩
    rw [h3 j (by omega), Array.getElem?_setIfInBounds_ne (by omega)]
section
variable {α : Type} {c : α → Value} {P : Program}
/-- What is left of a row whose first n elements go. -/
theorem dropped (w : World) (t ty e : TypeId) (z : Value) (bytes : Nat) (ht : P.underlying t = some (.slice e)) (hinfo : (P.info? e).map (fun i => (i.zero, i.size, i.bytes)) = some (some z, 1, bytes)) (hz : ∀ w, (zeroValue e).run P w = .ok z w) (hzc : z.cells = #[z]) (hz1 : z.oneCell' = true) (hone : ∀ y, (c y).oneCell' = true)
    (b len cap n : Nat) (xs : List α) (hl : xs.length = len) (hown : w.ownsRow 0 e 1 (.slice (some ⟨b, 0, none⟩) len cap) len (xs.map c)) (hn : 0 < n) (hnl : n ≤ len) :
    ∃ w1, (Builtin.append_ #[t, t] ty #[.slice (some ⟨b, 0, none⟩) 0 cap, .slice (some (if cap = n then ⟨b, 0, none⟩ else ⟨b, n, none⟩)) (len - n) (cap - n)]).run P w.drew = .ok (.slice (some ⟨b, 0, none⟩) (len - n) cap) w1 ∧
      (∀ ty2, (Builtin.clear_ #[t] ty2 #[.slice (some ⟨b, len - n, none⟩) n (cap - (len - n))]).run P w1 = .ok (.tuple #[]) (w1.setCells b (len - n) (List.replicate n z))) ∧
      (w1.setCells b (len - n) (List.replicate n z)).ownsRow 0 e 1 (.slice (some ⟨b, 0, none⟩) (len - n) cap) (len - n) ((xs.drop n).map c) ∧ Past (fun k => k = b) w (w1.setCells b (len - n) (List.replicate n z)) := by
  obtain ⟨i0, hi, hz0, hzs, hzb⟩ := info_parts hinfo
  have hlen := hown.1
  rcases hown.2 with ⟨h, _⟩ | ⟨g, cap', cur, h, _, hg, hcc, hcm, hcs, hct⟩
  · cases h
  simp only [Value.slice.injEq, Option.some.injEq, Addr.mk.injEq] at h
  obtain ⟨⟨rfl, _⟩, _, rfl⟩ := h
  have hnews : ((xs.drop n).map c).length = (len - n) * i0.size := by rw [List.length_map, List.length_drop, hl, hzs, Nat.mul_one]
  have hA : ∀ j u, ((xs.drop n).map c)[j]? = some u → w.drew.cell? ((if cap = n then (⟨b, 0, none⟩ : Addr) else ⟨b, n, none⟩).add j) = some u := by
    intro j u hu
    have hj : j < len - n := by have := (List.getElem?_eq_some_iff.mp hu).1; rw [hnews, hzs] at this; omega
    rw [if_neg (by omega), Addr.add_lit]
    rw [List.getElem?_map, List.getElem?_drop, ← List.getElem?_map] at hu
    have := hown.cells rfl (n + j) u hu
    rw [Addr.add_lit, Nat.zero_add] at this
    exact this
  have hB : ∀ u ∈ (xs.drop n).map c, u.oneCell' = true := by
    intro u hu
    obtain ⟨x, _, rfl⟩ := List.mem_map.1 hu
    exact hone x
  have hrun := run_append_room (P := P) w.drew t ty e i0 ht hi b 0 cap cur hg (if cap = n then ⟨b, 0, none⟩ else ⟨b, n, none⟩) (len - n) (cap - n) ((xs.drop n).map c) hnews hA hB (by omega) (by rw [hnews, hzs]; omega)
  obtain ⟨A, eA⟩ : ∃ A, (cur.toList.take (0 * i0.size) ++ (xs.drop n).map c ++ cur.toList.drop (0 * i0.size + ((xs.drop n).map c).length)).toArray = A := ⟨_, rfl⟩
  rw [eA, Nat.zero_add] at hrun
  have hAl : A.toList = (xs.drop n).map c ++ cur.toList.drop (len - n) := by
    rw [← eA, hnews, hzs]
    simp
  have hAs : A.size = cur.size := by
    have := congrArg List.length hAl
    simp only [Array.length_toList, List.length_append, List.length_map, List.length_drop, hl] at this
    omega
  have hb1 : (w.drew.setRow b A).heap[b]? = some (.cells A e (0, 0)) := setRow_heap w.drew b cur A e (0, 0) hg
  have hp1 : Past (fun k => k = b) w (w.drew.setRow b A) := ⟨rfl, rfl, rfl, by rw [size_setRow]; exact Nat.le_refl _, fun k hk hn => setRow_other _ _ _ _ hn⟩
  obtain ⟨cur', h1, h2, h3, h4, _⟩ := cleared b (List.replicate n z) (len - n) (w.drew.setRow b A) A e hb1
  refine ⟨_, hrun, fun ty2 => Lib.run_clear_slice (w.drew.setRow b A) t e ty2 z ht hz hzc hz1 b (len - n) n _ hn (fun j hj => ?_) (fun j hj => unfrozen_of_block hb1 _), ⟨by rw [List.length_map, List.length_drop, hl, Nat.mul_one], .inr ⟨b, cap, cur', rfl, Nat.zero_le _, h1, by omega, hcm, by rw [h2, hAs]; exact hcs, ?_⟩⟩, hp1.trans h4 (fun b hb => .inl hb)⟩
  · rw [cell_of_block hb1]
    rw [Array.getElem?_eq_getElem (by rw [hAs, hcs, Nat.mul_one]; omega)]
    rfl
  · apply List.ext_getElem?
    intro j
    rw [Nat.mul_one, List.getElem?_take]
    by_cases hj : j < len - n
    · rw [if_pos hj, Array.getElem?_toList, h3 j hj, ← Array.getElem?_toList, hAl, List.getElem?_append_left (by rw [List.length_map, List.length_drop, hl]; exact hj)]
    · rw [if_neg hj, List.getElem?_eq_none (by rw [List.length_map, List.length_drop, hl]; omega)]
end
set_option maxRecDepth 100000 in
theorem typeU8 : Try.prog.underlying 36 = some (.slice (Try.prog.elem 36)) := Try.underlying36
set_option maxRecDepth 100000 in
theorem oneU8 (w : World) : (sizeOf (Try.prog.elem 36)).run Try.prog w = .ok 1 w := by rfl
theorem highU8 (b n cap m : Nat) (h : m ≤ cap) (w : World) : (Instr.slice 36 (.slice (some ⟨b, 0, none⟩) n cap) none (some (.int .i64 (m : Int))) none).run Try.prog w = .ok (.slice (some ⟨b, 0, none⟩) m cap) w := by
  rw [run_slice_h w 36 (some ⟨b, 0, none⟩) n cap typeU8 .i64 m (by omega) (by omega), oneU8]
  simp [sliced, Result.andThen, addr_add_zero]
theorem lowU8 (b n cap m : Nat) (h : m ≤ n) (hc : n ≤ cap) (w : World) : (Instr.slice 36 (.slice (some ⟨b, 0, none⟩) n cap) (some (.int .i64 (m : Int))) none none).run Try.prog w = .ok (.slice (some (if cap = m then ⟨b, 0, none⟩ else ⟨b, m, none⟩)) (n - m) (cap - m)) w := by
  rw [run_slice_l w 36 (some ⟨b, 0, none⟩) n cap typeU8 .i64 m (by omega) (by omega), oneU8]
  have hadd : (⟨b, 0, none⟩ : Addr).add m = ⟨b, m, none⟩ := by unfold Addr.add; split <;> simp_all
  by_cases h1 : cap = m
  · subst h1
    obtain rfl : n = cap := by omega
    simp [sliced, Result.andThen]
  · simp [sliced, Result.andThen, hadd, h1]
theorem midU8 (b n cap i j : Nat) (hi : i ≤ j) (hj : j ≤ cap) (hlt : i < cap) (w : World) : (Instr.slice 36 (.slice (some ⟨b, 0, none⟩) n cap) (some (.int .i64 (i : Int))) (some (.int .i64 (j : Int))) none).run Try.prog w = .ok (.slice (some ⟨b, i, none⟩) (j - i) (cap - i)) w := by
  rw [run_slice_lh w 36 (some ⟨b, 0, none⟩) n cap typeU8 .i64 .i64 i j (by omega) (by omega) (by omega), oneU8]
  have hadd : (⟨b, 0, none⟩ : Addr).add i = ⟨b, i, none⟩ := by unfold Addr.add; split <;> simp_all
  have hne : ¬ cap = i := by omega
  simp [sliced, Result.andThen, hadd, hne]
set_option maxHeartbeats 2000000 in
set_option maxRecDepth 100000 in
theorem deleteU8 (v : Value) (xs : List Nat) (n : Nat) (W : World) (hown : W.ownsRow 0 5 1 v xs.length (xs.map byteVal)) (hn : 0 < n) (hnl : n ≤ xs.length) (hl : xs.length ≤ 1099511627776) :
    Calls Try.prog 90 #[v, .int .i64 0, .int .i64 (n : Int)] W fun e w' => ∃ u, e = .returned u ∧ w'.ownsRow 0 5 1 u (xs.length - n) ((xs.drop n).map byteVal) ∧ u.ownBlock = v.ownBlock ∧ Past (fun k => v.ownBlock = some k) W w' := by
  obtain ⟨b, cap, rfl⟩ : ∃ b cap, v = .slice (some ⟨b, 0, none⟩) xs.length cap := by
    rcases hown.2 with ⟨_, h⟩ | ⟨g, cap, cur, h, _⟩
    · omega
    · exact ⟨g, cap, h⟩
  obtain ⟨len, el⟩ : ∃ len, xs.length = len := ⟨_, rfl⟩
  rw [el] at hown hnl hl ⊢
  have hcap : len ≤ cap ∧ cap ≤ maxLen := by
    rcases hown.2 with ⟨h, _⟩ | ⟨g, cap', cur, h, _, _, h1, h2, _⟩
    · cases h
    · simp only [Value.slice.injEq] at h
      obtain ⟨_, _, rfl⟩ := h
      exact ⟨h1, h2⟩
  obtain ⟨hc1, hc2⟩ := hcap
  unfold maxLen at hc2
  obtain ⟨w1, hrun, hclear, hrow, hpast⟩ := dropped (c := byteVal) (P := Try.prog) W 36 36 5 (.int .u8 0) 1 Try.underlying36 infoU8 (fun w => by kernel_rfl) rfl rfl (fun _ => rfl) b len cap n xs el hown hn hnl
  have hs0 : ∀ w, (Instr.slice 36 (.slice (some ⟨b, 0, none⟩) len cap) none (some (.int .i64 0)) none).run Try.prog w = .ok (.slice (some ⟨b, 0, none⟩) 0 cap) w := fun w => highU8 b len cap 0 (by omega) w
  have hs1 := fun w => lowU8 b len cap n hnl hc1 w
  have hs2 := fun w => midU8 b (len - n) cap (len - n) len (by omega) hc1 (by omega) w
  rw [show len - (len - n) = n by omega] at hs2
  have hsub : ((len - n : Nat) : Int) = (len : Int) - (n : Int) := by omega
  have HR := Lib.hid hrow
  have HP := Lib.hid hpast
  have HRUN := Lib.hid hrun
  obtain ⟨V1, eV1⟩ : ∃ V, (Value.slice (some (if cap = n then (⟨b, 0, none⟩ : Addr) else ⟨b, n, none⟩)) (len - n) (cap - n)) = V := ⟨_, rfl⟩
  rw [eV1] at hs1 HRUN
  obtain ⟨m, em⟩ : ∃ m, len - n = m := ⟨_, rfl⟩
  rw [em] at hs2 hclear HR HP HRUN ⊢
  obtain ⟨W3, eW3⟩ : ∃ x, x = w1.setCells b m (List.replicate n (.int .u8 0)) := ⟨_, rfl⟩
  rw [← eW3] at hclear HR HP
  have hn0 : ((0 : Int) == (n : Int)) = false := by simp; omega
  have hn1 : decide ((0 : Int) = (n : Int)) = false := decide_eq_false (by omega)
  have hn2 : (0 == n) = false := by simp; omega
  clear hown hrun hrow hpast hsub eV1 em eW3
  go_enter Try.func90, Try.ntmps90
  go_upto_region 5 with fail
  go_region_law (refine step_append_eq rfl (.tmp 22) (.tmp 25) 36 rfl (.slice (some ⟨b, 0, none⟩) 0 cap) V1 (.slice (some ⟨b, 0, none⟩) m cap) w1 (by simp [Act.eval, Act.put]) (by simp [Act.eval, Act.put]) HRUN.out ?_)
  all_goals go_wp2_with fail
  all_goals go_ret
  all_goals exact ⟨_, rfl, HR.out, rfl, by simpa [Value.ownBlock, eq_comm] using HP.out⟩
set_option maxRecDepth 100000 in
theorem typeI32 : Try.prog.underlying 99 = some (.slice (Try.prog.elem 99)) := Try.underlying99
set_option maxRecDepth 100000 in
theorem oneI32 (w : World) : (sizeOf (Try.prog.elem 99)).run Try.prog w = .ok 1 w := by rfl
theorem highI32 (b n cap m : Nat) (h : m ≤ cap) (w : World) : (Instr.slice 99 (.slice (some ⟨b, 0, none⟩) n cap) none (some (.int .i64 (m : Int))) none).run Try.prog w = .ok (.slice (some ⟨b, 0, none⟩) m cap) w := by
  rw [run_slice_h w 99 (some ⟨b, 0, none⟩) n cap typeI32 .i64 m (by omega) (by omega), oneI32]
  simp [sliced, Result.andThen, addr_add_zero]
theorem lowI32 (b n cap m : Nat) (h : m ≤ n) (hc : n ≤ cap) (w : World) : (Instr.slice 99 (.slice (some ⟨b, 0, none⟩) n cap) (some (.int .i64 (m : Int))) none none).run Try.prog w = .ok (.slice (some (if cap = m then ⟨b, 0, none⟩ else ⟨b, m, none⟩)) (n - m) (cap - m)) w := by
  rw [run_slice_l w 99 (some ⟨b, 0, none⟩) n cap typeI32 .i64 m (by omega) (by omega), oneI32]
  have hadd : (⟨b, 0, none⟩ : Addr).add m = ⟨b, m, none⟩ := by unfold Addr.add; split <;> simp_all
  by_cases h1 : cap = m
  · subst h1
    obtain rfl : n = cap := by omega
    simp [sliced, Result.andThen]
  · simp [sliced, Result.andThen, hadd, h1]
theorem midI32 (b n cap i j : Nat) (hi : i ≤ j) (hj : j ≤ cap) (hlt : i < cap) (w : World) : (Instr.slice 99 (.slice (some ⟨b, 0, none⟩) n cap) (some (.int .i64 (i : Int))) (some (.int .i64 (j : Int))) none).run Try.prog w = .ok (.slice (some ⟨b, i, none⟩) (j - i) (cap - i)) w := by
  rw [run_slice_lh w 99 (some ⟨b, 0, none⟩) n cap typeI32 .i64 .i64 i j (by omega) (by omega) (by omega), oneI32]
  have hadd : (⟨b, 0, none⟩ : Addr).add i = ⟨b, i, none⟩ := by unfold Addr.add; split <;> simp_all
  have hne : ¬ cap = i := by omega
  simp [sliced, Result.andThen, hadd, hne]
set_option maxHeartbeats 2000000 in
set_option maxRecDepth 100000 in
theorem deleteI32 (v : Value) (xs : List Nat) (n : Nat) (W : World) (hown : W.ownsRow 0 21 1 v xs.length (xs.map stepVal)) (hn : 0 < n) (hnl : n ≤ xs.length) (hl : xs.length ≤ 1099511627776) :
    Calls Try.prog 91 #[v, .int .i64 0, .int .i64 (n : Int)] W fun e w' => ∃ u, e = .returned u ∧ w'.ownsRow 0 21 1 u (xs.length - n) ((xs.drop n).map stepVal) ∧ u.ownBlock = v.ownBlock ∧ Past (fun k => v.ownBlock = some k) W w' := by
  obtain ⟨b, cap, rfl⟩ : ∃ b cap, v = .slice (some ⟨b, 0, none⟩) xs.length cap := by
    rcases hown.2 with ⟨_, h⟩ | ⟨g, cap, cur, h, _⟩
    · omega
    · exact ⟨g, cap, h⟩
  obtain ⟨len, el⟩ : ∃ len, xs.length = len := ⟨_, rfl⟩
  rw [el] at hown hnl hl ⊢
  have hcap : len ≤ cap ∧ cap ≤ maxLen := by
    rcases hown.2 with ⟨h, _⟩ | ⟨g, cap', cur, h, _, _, h1, h2, _⟩
    · cases h
    · simp only [Value.slice.injEq] at h
      obtain ⟨_, _, rfl⟩ := h
      exact ⟨h1, h2⟩
  obtain ⟨hc1, hc2⟩ := hcap
  unfold maxLen at hc2
  obtain ⟨w1, hrun, hclear, hrow, hpast⟩ := dropped (c := stepVal) (P := Try.prog) W 99 99 21 (.int .i32 0) 4 Try.underlying99 info32 (fun w => by kernel_rfl) rfl rfl (fun _ => rfl) b len cap n xs el hown hn hnl
  have hs0 : ∀ w, (Instr.slice 99 (.slice (some ⟨b, 0, none⟩) len cap) none (some (.int .i64 0)) none).run Try.prog w = .ok (.slice (some ⟨b, 0, none⟩) 0 cap) w := fun w => highI32 b len cap 0 (by omega) w
  have hs1 := fun w => lowI32 b len cap n hnl hc1 w
  have hs2 := fun w => midI32 b (len - n) cap (len - n) len (by omega) hc1 (by omega) w
  rw [show len - (len - n) = n by omega] at hs2
  have hsub : ((len - n : Nat) : Int) = (len : Int) - (n : Int) := by omega
  have HR := Lib.hid hrow
  have HP := Lib.hid hpast
  have HRUN := Lib.hid hrun
  obtain ⟨V1, eV1⟩ : ∃ V, (Value.slice (some (if cap = n then (⟨b, 0, none⟩ : Addr) else ⟨b, n, none⟩)) (len - n) (cap - n)) = V := ⟨_, rfl⟩
  rw [eV1] at hs1 HRUN
  obtain ⟨m, em⟩ : ∃ m, len - n = m := ⟨_, rfl⟩
  rw [em] at hs2 hclear HR HP HRUN ⊢
  obtain ⟨W3, eW3⟩ : ∃ x, x = w1.setCells b m (List.replicate n (.int .i32 0)) := ⟨_, rfl⟩
  rw [← eW3] at hclear HR HP
  have hn0 : ((0 : Int) == (n : Int)) = false := by simp; omega
  have hn1 : decide ((0 : Int) = (n : Int)) = false := decide_eq_false (by omega)
  have hn2 : (0 == n) = false := by simp; omega
  clear hown hrun hrow hpast hsub eV1 em eW3
  go_enter Try.func91, Try.ntmps91
  go_upto_region 5 with fail
  go_region_law (refine step_append_eq rfl (.tmp 22) (.tmp 25) 99 rfl (.slice (some ⟨b, 0, none⟩) 0 cap) V1 (.slice (some ⟨b, 0, none⟩) m cap) w1 (by simp [Act.eval, Act.put]) (by simp [Act.eval, Act.put]) HRUN.out ?_)
  all_goals go_wp2_with fail
  all_goals go_ret
  all_goals exact ⟨_, rfl, HR.out, rfl, by simpa [Value.ownBlock, eq_comm] using HP.out⟩
end Go.Proofs.Ytefdlidjdmlnaaa.Fx
namespace Go.Proofs.Ytefdlidjdmlnaaa.Fx
open Go Go.RowKit Go.Joins Go.Maps
set_option linter.unusedVariables false
/-! ### The map while places go -/
def LastsFrom (zs : List Nat) (first m i : Nat) (D : Book) : Prop := ∀ t : Nat, t < 16777216 → match lastOf zs t m with
  | some p => if p < i then Maps.has D (.int .u32 (t : Int)) = false else Maps.has D (.int .u32 (t : Int)) = true ∧ D.atKey (.int .u32 (t : Int)) (.lit (.int .i64 0)) = .lit (.int .i64 ((first + p : Nat) : Int))
  | none => Maps.has D (.int .u32 (t : Int)) = false
theorem LastsFrom.start {zs : List Nat} {first m : Nat} {D : Book} (h : Lasts zs first m D) : LastsFrom zs first m 0 D := fun t ht => by
  have := h t ht
  cases hq : lastOf zs t m with
  | none => rw [hq] at this; exact this
  | some p =>
    rw [hq] at this
    simp only at this ⊢
    rw [if_neg (by omega)]
    exact this
/-- The place i's three bytes: where they stand last. -/
theorem LastsFrom.at_ {zs : List Nat} {first m i : Nat} {D : Book} (h : LastsFrom zs first m i D) (h8 : ∀ x ∈ zs, x < 256) (hi : i < m) : ∃ p, lastOf zs (three zs i) m = some p ∧ i ≤ p ∧ D.atKey (.int .u32 (three zs i : Nat)) (.lit (.int .i64 0)) = .lit (.int .i64 ((first + p : Nat) : Int)) := by
  have h1 := h _ (three_lt zs h8 i)
  cases hq : lastOf zs (three zs i) m with
  | none => exact absurd rfl (lastOf_none hq i hi)
  | some p =>
    have hp : i ≤ p := by
      rcases Nat.lt_or_ge p i with hlt | hlt
      · exact absurd rfl ((lastOf_some hq).2.2 i hlt hi)
      · exact hlt
    rw [hq] at h1
    simp only at h1
    rw [if_neg (by omega)] at h1
    exact ⟨p, rfl, hp, h1.2⟩
theorem LastsFrom.gone {zs : List Nat} {first m i : Nat} {D : Book} (h : LastsFrom zs first m i D) (hq : lastOf zs (three zs i) m = some i) : LastsFrom zs first m (i + 1) (D.del (.int .u32 (three zs i : Nat))) := fun t ht => by
  by_cases e : three zs i = t
  · subst e
    rw [hq]
    simp only
    rw [if_pos (by omega)]
    exact has_del_same
  · have hne : (Lit.int .u32 (t : Int)) ≠ .int .u32 (three zs i : Nat) := fun h => e (by simp only [Lit.int.injEq, true_and] at h; omega)
    have := h t ht
    rw [has_del_other hne, atKey_del_other hne]
    cases hp : lastOf zs t m with
    | none => rw [hp] at this; exact this
    | some p =>
      rw [hp] at this
      simp only at this ⊢
      have hpi : p ≠ i := by
        rintro rfl
        exact e (lastOf_some hp).2.1
      by_cases hlt : p < i
      · rw [if_pos hlt] at this
        rw [if_pos (by omega)]
        exact this
      · rw [if_neg hlt] at this
        rw [if_neg (by omega)]
        exact this
theorem LastsFrom.stays {zs : List Nat} {first m i p : Nat} {D : Book} (h : LastsFrom zs first m i D) (hq : lastOf zs (three zs i) m = some p) (hp : p ≠ i) : LastsFrom zs first m (i + 1) D := fun t ht => by
  have := h t ht
  cases hq2 : lastOf zs t m with
  | none => rw [hq2] at this; exact this
  | some p2 =>
    rw [hq2] at this
    simp only at this ⊢
    have hpi : p2 ≠ i := by
      rintro rfl
      have := (lastOf_some hq2).2.1
      rw [this, hq2] at hq
      exact hp (Option.some.inj hq).symm
    by_cases hlt : p2 < i
    · rw [if_pos hlt] at this
      rw [if_pos (by omega)]
      exact this
    · rw [if_neg hlt] at this
      rw [if_neg (by omega)]
      exact this
theorem LastsFrom.end_ {zs : List Nat} {first m n : Nat} {D : Book} (h : LastsFrom zs first m n D) (hn : n ≤ m) : Lasts (zs.drop n) (first + n) (m - n) D := fun t ht => by
  have h1 := h t ht
  cases hq : lastOf zs t m with
  | none =>
    have : lastOf (zs.drop n) t (m - n) = none := lastOf_not (fun q hq' => by rw [three_drop]; exact lastOf_none hq (n + q) (by omega))
    rw [this]
    rw [hq] at h1
    exact h1
  | some p =>
    rw [hq] at h1
    simp only at h1
    obtain ⟨a1, a2, a3⟩ := lastOf_some hq
    by_cases hlt : p < n
    · rw [if_pos hlt] at h1
      have : lastOf (zs.drop n) t (m - n) = none := lastOf_not (fun q hq' => by rw [three_drop]; exact a3 (n + q) (by omega) (by omega))
      rw [this]
      exact h1
    · rw [if_neg hlt] at h1
      have : lastOf (zs.drop n) t (m - n) = some (p - n) := lastOf_is (by omega) (by rw [three_drop, show n + (p - n) = p by omega]; exact a2) (fun q h2 h3 => by rw [three_drop]; exact a3 (n + q) (by omega) (by omega))
      rw [this]
      simp only
      rw [show first + n + (p - n) = first + p by omega]
      exact h1
/-! ### The memory meanwhile -/
structure Mem (w : World) (g : Nat) (out s t : Value) (mb : Nat) (zs : List Nat) (first : Nat) (st : List Nat) (opn N : Nat) (D : Book) : Prop where
  blk : w.heap[g]? = some (.cells #[out, s, .int .i64 (first : Int), t, .map (some mb), .int .i64 (opn : Int), .bool false] 105 (0, 0))
  own1 : w.ownsRow 0 5 1 s zs.length (zs.map byteVal)
  own2 : w.ownsRow 0 21 1 t st.length (st.map stepVal)
  map : w.ownsMap Try.prog 80 (plainElem Try.prog 3) mb N D
  ne1 : s.ownBlock ≠ some g
  ne2 : t.ownBlock ≠ some g
  ne3 : ∀ k, s.ownBlock = some k → t.ownBlock ≠ some k
theorem Kept.mem {w : World} {g : Nat} {out s t : Value} {mb : Nat} {zs : List Nat} {first : Nat} {st : List Nat} {opn : Nat} {D : Book} (h : Kept w g out s t mb zs first st opn D) : Mem w g out s t mb zs first st opn (first + st.length) D := ⟨h.blk, h.own1, h.own2, h.map, h.ne1, h.ne2, h.ne3⟩
theorem Mem.map_ne {w : World} {g : Nat} {out s t : Value} {mb : Nat} {zs : List Nat} {first : Nat} {st : List Nat} {opn N : Nat} {D : Book} (h : Mem w g out s t mb zs first st opn N D) : mb ≠ g ∧ s.ownBlock ≠ some mb ∧ t.ownBlock ≠ some mb := by
  obtain ⟨es, cl, hm, _⟩ := h.map
  refine ⟨fun e => ?_, fun e => ?_, fun e => ?_⟩
  · have := h.blk
    rw [← e, hm] at this
    cases this
  · obtain ⟨cs, ty, m, hb⟩ := row_block h.own1 e
    rw [hm] at hb
    cases hb
  · obtain ⟨cs, ty, m, hb⟩ := row_block h.own2 e
    rw [hm] at hb
    cases hb
theorem Mem.glt {w : World} {g : Nat} {out s t : Value} {mb : Nat} {zs : List Nat} {first : Nat} {st : List Nat} {opn N : Nat} {D : Book} (h : Mem w g out s t mb zs first st opn N D) : g < w.heap.size := (Array.getElem?_eq_some_iff.1 h.blk).1
theorem Mem.drewN {w : World} {g : Nat} {out s t : Value} {mb : Nat} {zs : List Nat} {first : Nat} {st : List Nat} {opn N : Nat} {D : Book} (h : Mem w g out s t mb zs first st opn N D) (n : Nat) : Mem (w.drewN n) g out s t mb zs first st opn N D := ⟨h.blk, h.own1, h.own2, h.map, h.ne1, h.ne2, h.ne3⟩
/-- Behind a delete in the map. -/
theorem Mem.turned {w w' : World} {g : Nat} {out s t : Value} {mb : Nat} {zs : List Nat} {first : Nat} {st : List Nat} {opn N : Nat} {D D' : Book} (h : Mem w g out s t mb zs first st opn N D) (hm : w'.ownsMap Try.prog 80 (plainElem Try.prog 3) mb N D') (hg : w.grownBy w' (some mb)) : Mem w' g out s t mb zs first st opn N D' ∧ Past (blocksK g s t mb) w w' := by
  obtain ⟨m1, m2, m3⟩ := h.map_ne
  refine ⟨⟨(hg.block g h.glt (fun e => m1 (Option.some.inj e).symm)).trans h.blk, ownsRow_same h.own1 (fun k hk => hg.block k (h.own1.lt k hk).2 (fun e => m2 (by rw [hk]; exact e))), ownsRow_same h.own2 (fun k hk => hg.block k (h.own2.lt k hk).2 (fun e => m3 (by rw [hk]; exact e))), hm, h.ne1, h.ne2, h.ne3⟩, ⟨hg.os, hg.tape, hg.output, hg.size, fun k hk hO => hg.block k hk (fun e => hO (.inr (.inr (.inr (Option.some.inj e)))))⟩⟩
/-- Behind the bytes' delete. -/
theorem Mem.cut1 {w w1 : World} {g : Nat} {out s t : Value} {mb : Nat} {zs : List Nat} {first : Nat} {st : List Nat} {opn N n : Nat} {D : Book} (h : Mem w g out s t mb zs first st opn N D) (u : Value) (ho : w1.ownsRow 0 5 1 u (zs.length - n) ((zs.drop n).map byteVal)) (hu : u.ownBlock = s.ownBlock) (hp : Past (fun k => s.ownBlock = some k) w w1) :
    Mem (w1.setCell ⟨g, 1, none⟩ u) g out u t mb (zs.drop n) first st opn N D ∧ Past (blocksK g s t mb) w (w1.setCell ⟨g, 1, none⟩ u) ∧ w1.heap[g]? = some (.cells #[out, s, .int .i64 (first : Int), t, .map (some mb), .int .i64 (opn : Int), .bool false] 105 (0, 0)) := by
  obtain ⟨m1, m2, m3⟩ := h.map_ne
  have hb1 := (hp.block g h.glt h.ne1).trans h.blk
  have hug : u.ownBlock ≠ some g := by rw [hu]; exact h.ne1
  have hold : ∀ k, k < w.heap.size → k ≠ g → s.ownBlock ≠ some k → (w1.setCell ⟨g, 1, none⟩ u).heap[k]? = w.heap[k]? := fun k hk hkg hks => (Below.heap_setCell _ _ _ k hkg).trans (hp.block k hk hks)
  refine ⟨⟨block_setCell hb1 _, ?_, ?_, ?_, hug, h.ne2, fun k hk => h.ne3 k (by rw [← hu]; exact hk)⟩, ⟨hp.os, hp.tape, hp.output, by simpa using hp.size, fun k hk hO => hold k hk (fun e => hO (.inl e)) (fun e => hO (.inr (.inl e)))⟩, hb1⟩
  · rw [List.length_drop]
    exact ownsRow_same ho (fun k hk => Below.heap_setCell _ _ _ k (fun e => hug (by rw [hk]; exact congrArg some e)))
  · exact ownsRow_same h.own2 (fun k hk => hold k (h.own2.lt k hk).2 (fun e => h.ne2 (by rw [hk]; exact congrArg some e)) (fun e => h.ne3 k e hk))
  · obtain ⟨es, cl, hm, rest⟩ := h.map
    exact ⟨es, cl, (hold mb h.map.lt m1 m2).trans hm, rest⟩
/-- Behind the steps' delete. -/
theorem Mem.cut2 {w w1 : World} {g : Nat} {out s t : Value} {mb : Nat} {zs : List Nat} {first : Nat} {st : List Nat} {opn N n : Nat} {D : Book} (h : Mem w g out s t mb zs first st opn N D) (u : Value) (ho : w1.ownsRow 0 21 1 u (st.length - n) ((st.drop n).map stepVal)) (hu : u.ownBlock = t.ownBlock) (hp : Past (fun k => t.ownBlock = some k) w w1) :
    Mem (w1.setCell ⟨g, 3, none⟩ u) g out s u mb zs first (st.drop n) opn N D ∧ Past (blocksK g s t mb) w (w1.setCell ⟨g, 3, none⟩ u) ∧ w1.heap[g]? = some (.cells #[out, s, .int .i64 (first : Int), t, .map (some mb), .int .i64 (opn : Int), .bool false] 105 (0, 0)) := by
  obtain ⟨m1, m2, m3⟩ := h.map_ne
  have hb1 := (hp.block g h.glt h.ne2).trans h.blk
  have hug : u.ownBlock ≠ some g := by rw [hu]; exact h.ne2
  have hold : ∀ k, k < w.heap.size → k ≠ g → t.ownBlock ≠ some k → (w1.setCell ⟨g, 3, none⟩ u).heap[k]? = w.heap[k]? := fun k hk hkg hks => (Below.heap_setCell _ _ _ k hkg).trans (hp.block k hk hks)
  refine ⟨⟨block_setCell hb1 _, ?_, ?_, ?_, h.ne1, hug, fun k hk => by rw [hu]; exact h.ne3 k hk⟩, ⟨hp.os, hp.tape, hp.output, by simpa using hp.size, fun k hk hO => hold k hk (fun e => hO (.inl e)) (fun e => hO (.inr (.inr (.inl e))))⟩, hb1⟩
  · exact ownsRow_same h.own1 (fun k hk => hold k (h.own1.lt k hk).2 (fun e => h.ne1 (by rw [hk]; exact congrArg some e)) (fun e => h.ne3 k hk e))
  · rw [List.length_drop]
    exact ownsRow_same ho (fun k hk => Below.heap_setCell _ _ _ k (fun e => hug (by rw [hk]; exact congrArg some e)))
  · obtain ⟨es, cl, hm, rest⟩ := h.map
    exact ⟨es, cl, (hold mb h.map.lt m1 m3).trans hm, rest⟩
/-- Behind the first place's store. -/
theorem Mem.moved {w : World} {g : Nat} {out s t : Value} {mb : Nat} {zs : List Nat} {first : Nat} {st : List Nat} {opn N : Nat} {D : Book} (h : Mem w g out s t mb zs first st opn N D) (f2 : Nat) : Mem (w.setCell ⟨g, 2, none⟩ (.int .i64 (f2 : Int))) g out s t mb zs f2 st opn N D ∧ Past (blocksK g s t mb) w (w.setCell ⟨g, 2, none⟩ (.int .i64 (f2 : Int))) := by
  obtain ⟨m1, m2, m3⟩ := h.map_ne
  have hold : ∀ k, k ≠ g → (w.setCell ⟨g, 2, none⟩ (.int .i64 (f2 : Int))).heap[k]? = w.heap[k]? := fun k hkg => Below.heap_setCell _ _ _ k hkg
  refine ⟨⟨block_setCell h.blk _, ownsRow_same h.own1 (fun k hk => hold k (fun e => h.ne1 (by rw [hk]; exact congrArg some e))), ownsRow_same h.own2 (fun k hk => hold k (fun e => h.ne2 (by rw [hk]; exact congrArg some e))), ?_, h.ne1, h.ne2, h.ne3⟩, ⟨rfl, rfl, rfl, by simp, fun k hk hO => hold k (fun e => hO (.inl e))⟩⟩
  obtain ⟨es, cl, hm, rest⟩ := h.map
  exact ⟨es, cl, (hold mb m1).trans hm, rest⟩
theorem Mem.kept {w : World} {g : Nat} {out s t : Value} {mb : Nat} {zs : List Nat} {first : Nat} {st : List Nat} {opn : Nat} {D : Book} (h : Mem w g out s t mb zs first st opn (first + st.length) D) (hl : Lasts zs first st.length D) : Kept w g out s t mb zs first st opn D := ⟨h.blk, h.own1, h.own2, h.map, hl, h.ne1, h.ne2, h.ne3⟩
end Go.Proofs.Ytefdlidjdmlnaaa.Fx
