/-
  Lists in memory whose elements are one cell each (bytes, bools, integers): read, taken in part, of a call's own, written, appended to. The conditions stand in each.
-/
import Derived.WalkKit
import Derived.Lib.Hide
import Derived.Lib.SmallJoins
import Derived.Laws.AppendOwnNone
import Derived.Deep.RegionHeld3
import Derived.Test.YtbfpbmnnlckldaaDoorRows
namespace Go.Proofs.YtbfpbmnnlckldaaDoor.Fx
open Go Go.RowKit Go.Joins
set_option linter.unusedVariables false
section
variable {α : Type} (c : α → Value)
/-- A slice's value that reads as this list. -/
def listed (w : World) (v : Value) (zs : List α) : Prop :=
  ((∃ o cap, v = .slice o 0 cap ∧ (o = none → cap = 0)) ∧ zs = []) ∨ ∃ b off cap, v = .slice (some ⟨b, off, none⟩) zs.length cap ∧ b < w.heap.size ∧ zs.length ≤ cap ∧ ∀ j z, zs[j]? = some z → w.cell? ⟨b, off + j, none⟩ = some (c z)
theorem listed_none (w : World) : listed c w (.slice none 0 0) ([] : List α) := .inl ⟨⟨none, 0, rfl, fun _ => rfl⟩, rfl⟩
variable {c}
/-- The block in which a slice's cells lie. -/
def inBlock (v : Value) (b : Nat) : Prop := ∃ off n cap, v = .slice (some ⟨b, off, none⟩) n cap ∧ 0 < n
theorem listed_kept {w w' : World} {v : Value} {zs : List α} (h : listed c w v zs) (hs : w.heap.size ≤ w'.heap.size) (hb : ∀ b, inBlock v b → w'.heap[b]? = w.heap[b]?) : listed c w' v zs := by
  rcases h with h | ⟨b, off, cap, rfl, hlt, hle, hc⟩
  · exact .inl h
  · refine .inr ⟨b, off, cap, rfl, Nat.lt_of_lt_of_le hlt hs, hle, fun j z hz => ?_⟩
    have hj : j < zs.length := (List.getElem?_eq_some_iff.mp hz).1
    exact (World.cell?_of_block (w := w) (a := ⟨b, off + j, none⟩) (hb b ⟨off, zs.length, cap, rfl, by omega⟩)).trans (hc j z hz)
theorem listed_on {w w' : World} {v : Value} {zs : List α} (h : listed c w v zs) (hb : Below w.heap.size w w') : listed c w' v zs := by
  rcases h with h | ⟨b, off, cap, rfl, hlt, hle, hc⟩
  · exact .inl h
  · exact .inr ⟨b, off, cap, rfl, Nat.lt_of_lt_of_le hlt hb.size, hle, fun j z hz => (hb.cell (p := ⟨b, off + j, none⟩) hlt).trans (hc j z hz)⟩
theorem listed_length {w : World} {v : Value} {zs : List α} (h : listed c w v zs) : ∃ o cap, v = .slice o zs.length cap := by
  rcases h with ⟨⟨o, cap, rfl, _⟩, rfl⟩ | ⟨b, off, cap, rfl, _⟩
  · exact ⟨o, cap, rfl⟩
  · exact ⟨_, cap, rfl⟩
theorem listed_len {P : Program} {t u : TypeId} (ht : P.underlying t = some (.slice (P.elem t))) {W : World} {v : Value} {zs : List α} (h : listed c W v zs) (w : World) : (Builtin.len_ #[t] u #[v]).run P w = .ok (.int .i64 (zs.length : Int)) w := by
  obtain ⟨o, cap, rfl⟩ := listed_length h
  exact run_len_slice w t u o zs.length cap ht
theorem listed_cell {w : World} {v : Value} {zs : List α} (h : listed c w v zs) (j : Nat) (z : α) (hz : zs[j]? = some z) : ∃ b off cap, v = .slice (some ⟨b, off, none⟩) zs.length cap ∧ b < w.heap.size ∧ w.cell? ⟨b, off + j, none⟩ = some (c z) := by
  rcases h with ⟨_, rfl⟩ | ⟨b, off, cap, rfl, hlt, hle, hc⟩
  · simp at hz
  · exact ⟨b, off, cap, rfl, hlt, hc j z hz⟩
/-- A slice expression l[i:j] of a list. -/
theorem listed_slice {P : Program} {t : TypeId} (ht : P.underlying t = some (.slice (P.elem t))) (he : ∀ w, (sizeOf (P.elem t)).run P w = .ok 1 w) {W : World} {v : Value} {zs : List α} (h : listed c W v zs) (i j : Nat) (hij : i ≤ j) (hj : j ≤ zs.length) :
    ∃ u, (∀ w, (Instr.slice t v (some (.int .i64 (i : Int))) (some (.int .i64 (j : Int))) none).run P w = .ok u w) ∧ listed c W u ((zs.take j).drop i) := by
  have hlen : ((zs.take j).drop i).length = j - i := by rw [List.length_drop, List.length_take]; omega
  rcases h with ⟨⟨o, cap, rfl, ho⟩, rfl⟩ | ⟨b, off, cap, rfl, hlt, hle, hc⟩
  · obtain rfl : j = 0 := by simpa using hj
    obtain rfl : i = 0 := by omega
    have hz : ∀ a : Addr, a.add 0 = a := fun a => by
      obtain ⟨b, o, sp⟩ := a
      cases sp <;> simp [Addr.add]
    refine ⟨.slice o 0 cap, fun w => ?_, .inl ⟨⟨o, cap, rfl, ho⟩, by simp⟩⟩
    rw [run_slice_lh w t o 0 cap ht .i64 .i64 ((0 : Nat) : Int) ((0 : Nat) : Int) (by omega) (by omega) (by omega), he]
    cases o <;> simp [sliced, Result.andThen, hz]
  · by_cases hci : cap = i
    · subst hci
      obtain rfl : cap = j := by omega
      have hn : cap = zs.length := by omega
      refine ⟨.slice (some ⟨b, off, none⟩) 0 0, fun w => ?_, .inl ⟨⟨_, 0, rfl, fun h => by cases h⟩, List.eq_nil_of_length_eq_zero (by omega)⟩⟩
      rw [run_slice_lh w t (some ⟨b, off, none⟩) zs.length cap ht .i64 .i64 cap cap (by omega) (by omega) (by omega), he]
      simp [sliced, Result.andThen]
    · refine ⟨.slice (some ⟨b, off + i, none⟩) (j - i) (cap - i), fun w => ?_, .inr ⟨b, off + i, cap - i, by rw [hlen], hlt, by omega, fun k z hk => ?_⟩⟩
      · rw [run_slice_lh w t (some ⟨b, off, none⟩) zs.length cap ht .i64 .i64 i j (by omega) (by omega) (by omega), he]
        have hadd : (⟨b, off, none⟩ : Addr).add i = ⟨b, off + i, none⟩ := by unfold Addr.add; split <;> simp_all
        simp [sliced, Result.andThen, hadd, hci]
      · have hk2 : k < j - i := by
          have := (List.getElem?_eq_some_iff.mp hk).1
          omega
        rw [List.getElem?_drop, List.getElem?_take, if_pos (by omega)] at hk
        rw [Nat.add_assoc]
        exact hc _ z hk
/-! ### Of a call's own -/
theorem own_listed {w : World} {base e : Nat} {v : Value} {n : Nat} {zs : List α} (h : w.ownsRow base e 1 v n (zs.map c)) : listed c w v zs := by
  have hl := h.1
  rw [List.length_map, Nat.mul_one] at hl
  rcases h.2 with ⟨rfl, rfl⟩ | ⟨g, cap, cur, rfl, hb, hg, hn, hm, hs, ht⟩
  · exact .inl ⟨⟨none, 0, rfl, fun _ => rfl⟩, List.eq_nil_of_length_eq_zero hl⟩
  · subst hl
    refine .inr ⟨g, 0, cap, rfl, (Array.getElem?_eq_some_iff.1 hg).1, hn, fun j z hz => ?_⟩
    have := h.cells (g := g) rfl j (c z) (by rw [List.getElem?_map, hz]; rfl)
    have hadd : (⟨g, 0, none⟩ : Addr).add j = ⟨g, 0 + j, none⟩ := by unfold Addr.add; split <;> simp_all
    rwa [hadd] at this
theorem own_fresh {w : World} {base e : Nat} {v : Value} {n : Nat} {xs : List Value} (h : w.ownsRow base e 1 v n xs) (b : Nat) (hb : inBlock v b) : base ≤ b := by
  obtain ⟨off, m, cap, rfl, _⟩ := hb
  exact (h.lt b rfl).1
/-- 'append(own, list...)'. -/
theorem wpList_append_listed {P : Program} {w : World} {ops : Array Oper} {rest : List Oper} {o : Oper} {a : Act} {Q : Exit → Act → World → Prop} (hgd : o.guard = none) (s x : Operand) (t : TypeId)
    (ho : o.op = .call { callee := .builtin .append, args := #[s, x], argTypes := #[t, t] })
    (base : Nat) (e : TypeId) (z : Value) (ht : P.underlying t = some (.slice e)) (hinfo : (P.info? e).map (fun i => (i.zero, i.size, i.bytes)) = some (some z, 1, 1)) (hz : z.cells.size = 1) (hone : ∀ y, (c y).oneCell' = true)
    (v : Value) (n : Nat) (xs : List α) (hs : a.eval s = v) (hown : w.ownsRow base e 1 v n (xs.map c)) (u : Value) (zs : List α) (hx : a.eval x = u) (hr : listed c w u zs)
    (hlen : n + zs.length ≤ 140737488355328) (hbase : base ≤ w.heap.size)
    (h : ∀ v' w', w'.ownsRow base e 1 v' (n + zs.length) ((xs ++ zs).map c) → w.grownBy w' v.ownBlock → wpList P ops Q rest (a.put o.dst v') w') : wpList P ops Q (o :: rest) a w := by
  obtain ⟨i0, hi, hz0, hz1, hz2⟩ := info_parts hinfo
  rcases hr with ⟨⟨q, cap, rfl, hq⟩, rfl⟩ | ⟨b, off, cap, rfl, hlt, hle, hc⟩
  · rw [List.append_nil, List.length_nil, Nat.add_zero] at h
    simp only [List.length_nil, Nat.add_zero] at hlen
    cases q with
    | none =>
      obtain rfl : cap = 0 := hq rfl
      exact wpList_append_own_none hgd s x t ho base e i0 1 ht hi v n (xs.map c) hs hown hx (h v w hown ⟨rfl, rfl, rfl, Nat.le_refl _, fun _ _ _ => rfl⟩)
    | some ad =>
      refine wpList_append_own w hgd s x t ho base e i0 z 1 1 ht hi hz0 hz1 hz2 hz (by decide) v n (xs.map c) hs hown ad 0 cap [] hx rfl (fun j u hj => by simp at hj) (fun u hu => by cases hu) (by unfold maxLen; omega) (by omega) hbase ?_
      intro v' w' h1 h2 _
      rw [List.append_nil] at h1
      exact h v' w' h1 h2
  · rw [List.map_append] at h
    refine wpList_append_own w hgd s x t ho base e i0 z 1 1 ht hi hz0 hz1 hz2 hz (by decide) v n (xs.map c) hs hown ⟨b, off, none⟩ zs.length cap (zs.map c) hx (by rw [List.length_map, Nat.mul_one]) (fun j u hj => ?_) (fun u hu => ?_) (by unfold maxLen; omega) (by omega) hbase ?_
    · rw [List.getElem?_map] at hj
      cases hzj : zs[j]? with
      | none => rw [hzj] at hj; cases hj
      | some y =>
        rw [hzj] at hj
        obtain rfl := Option.some.inj hj
        rw [Addr.add_lit]
        exact hc j y hzj
    · obtain ⟨y, _, rfl⟩ := List.mem_map.mp hu
      exact hone y
    · intro v' w' h1 h2 _
      exact h v' w' h1 h2
/-- 'append(own, x)' of one element. -/
theorem wpList_append_one {P : Program} {w : World} {ops : Array Oper} {rest : List Oper} {o : Oper} {a : Act} {Q : Exit → Act → World → Prop} (hgd : o.guard = none) (s x : Operand) (t : TypeId)
    (ho : o.op = .call { callee := .builtin .append, args := #[s, x], argTypes := #[t, t] })
    (base : Nat) (e : TypeId) (z : Value) (ht : P.underlying t = some (.slice e)) (hinfo : (P.info? e).map (fun i => (i.zero, i.size, i.bytes)) = some (some z, 1, 1)) (hz : z.cells.size = 1) (hone : ∀ y, (c y).oneCell' = true)
    (v : Value) (n : Nat) (xs : List α) (hs : a.eval s = v) (hown : w.ownsRow base e 1 v n (xs.map c)) (g : Nat) (y : α) (hx : a.eval x = .slice (some ⟨g, 0, none⟩) 1 1) (hy : w.cell? ⟨g, 0, none⟩ = some (c y))
    (hlen : n + 1 ≤ 140737488355328) (hbase : base ≤ w.heap.size)
    (h : ∀ v' w', w'.ownsRow base e 1 v' (n + 1) ((xs ++ [y]).map c) → w.grownBy w' v.ownBlock → wpList P ops Q rest (a.put o.dst v') w') : wpList P ops Q (o :: rest) a w :=
  wpList_append_listed hgd s x t ho base e z ht hinfo hz hone v n xs hs hown _ [y] hx (.inr ⟨g, 0, 1, rfl, World.block_lt_of_cell? w _ hy, Nat.le_refl _, fun j q hj => by
    match j, hj with
    | 0, hj =>
      obtain rfl := Option.some.inj hj
      exact hy
    | j + 1, hj => simp at hj⟩) hlen hbase h
end
theorem row_shape {w : World} {base : Nat} {e : TypeId} {v : Value} {n : Nat} {xs : List Value} (h : w.ownsRow base e 1 v n xs) : ∃ o cap, v = .slice o n cap := by
  rcases h.2 with ⟨rfl, rfl⟩ | ⟨g, cap, cur, rfl, _⟩
  · exact ⟨none, 0, rfl⟩
  · exact ⟨_, cap, rfl⟩
def byteVal (n : Nat) : Value := .int .u8 (n : Int)
abbrev bytesIn (w : World) (v : Value) (zs : List Nat) : Prop := listed byteVal w v zs
end Go.Proofs.YtbfpbmnnlckldaaDoor.Fx
