/-
  Lists in memory whose elements are one cell each (bytes, bools, integers): read, taken in part, of a call's own, written, appended to. The conditions stand in each.
  A region that draws its order, by what holds whatever has come up so far: one step for each operation, however many orders there are. Plain facts; the conditions stand in each.
-/
import Derived.WalkKit
import Derived.Lib.Hide
import Derived.Lib.SmallJoins
import Derived.Laws.AppendOwnNone
import Derived.Deep.RegionHeld3
import Derived.Test.YtefdlidjdmlnaaaRows
import Derived.RegionTactic
namespace Go.Proofs.Ytefdlidjdmlnaaa.Fx
open Go Go.RowKit Go.Joins
set_option linter.unusedVariables false
section
variable {α : Type} (c : α → Value)
/-- A slice's value that reads as this list. -/
def listed (w : World) (v : Value) (zs : List α) : Prop :=
  ((∃ o cap, v = .slice o 0 cap ∧ (o = none → cap = 0)) ∧ zs = []) ∨ ∃ b off cap, v = .slice (some ⟨b, off, none⟩) zs.length cap ∧ b < w.heap.size ∧ zs.length ≤ cap ∧ ∀ j z, zs[j]? = some z → w.cell? ⟨b, off + j, none⟩ = some (c z)
theorem listed_none (w : World) : listed c w (.slice none 0 0) ([] : List α) := .inl ⟨⟨none, 0, rfl, fun _ => rfl⟩, rfl⟩
variable {c}
/-- The block in which a slice's cells lie. -/
def inBlock (v : Value) (b : Nat) : Prop := ∃ off n cap, v = .slice (some ⟨b, off, none⟩) n cap ∧ 0 < n
theorem listed_kept {w w' : World} {v : Value} {zs : List α} (h : listed c w v zs) (hs : w.heap.size ≤ w'.heap.size) (hb : ∀ b, inBlock v b → w'.heap[b]? = w.heap[b]?) : listed c w' v zs := by
  rcases h with h | ⟨b, off, cap, rfl, hlt, hle, hc⟩
  · exact .inl h
  · refine .inr ⟨b, off, cap, rfl, Nat.lt_of_lt_of_le hlt hs, hle, fun j z hz => ?_⟩
    have hj : j < zs.length := (List.getElem?_eq_some_iff.mp hz).1
    exact (World.cell?_of_block (w := w) (a := ⟨b, off + j, none⟩) (hb b ⟨off, zs.length, cap, rfl, by omega⟩)).trans (hc j z hz)
theorem listed_on {w w' : World} {v : Value} {zs : List α} (h : listed c w v zs) (hb : Below w.heap.size w w') : listed c w' v zs := by
  rcases h with h | ⟨b, off, cap, rfl, hlt, hle, hc⟩
  · exact .inl h
  · exact .inr ⟨b, off, cap, rfl, Nat.lt_of_lt_of_le hlt hb.size, hle, fun j z hz => (hb.cell (p := ⟨b, off + j, none⟩) hlt).trans (hc j z hz)⟩
theorem listed_length {w : World} {v : Value} {zs : List α} (h : listed c w v zs) : ∃ o cap, v = .slice o zs.length cap := by
  rcases h with ⟨⟨o, cap, rfl, _⟩, rfl⟩ | ⟨b, off, cap, rfl, _⟩
  · exact ⟨o, cap, rfl⟩
  · exact ⟨_, cap, rfl⟩
theorem listed_len {P : Program} {t u : TypeId} (ht : P.underlying t = some (.slice (P.elem t))) {W : World} {v : Value} {zs : List α} (h : listed c W v zs) (w : World) : (Builtin.len_ #[t] u #[v]).run P w = .ok (.int .i64 (zs.length : Int)) w := by
  obtain ⟨o, cap, rfl⟩ := listed_length h
  exact run_len_slice w t u o zs.length cap ht
theorem listed_cell {w : World} {v : Value} {zs : List α} (h : listed c w v zs) (j : Nat) (z : α) (hz : zs[j]? = some z) : ∃ b off cap, v = .slice (some ⟨b, off, none⟩) zs.length cap ∧ b < w.heap.size ∧ w.cell? ⟨b, off + j, none⟩ = some (c z) := by
  rcases h with ⟨_, rfl⟩ | ⟨b, off, cap, rfl, hlt, hle, hc⟩
  · simp at hz
  · exact ⟨b, off, cap, rfl, hlt, hc j z hz⟩
/-- A slice expression l[i:j] of a list. -/
theorem listed_slice {P : Program} {t : TypeId} (ht : P.underlying t = some (.slice (P.elem t))) (he : ∀ w, (sizeOf (P.elem t)).run P w = .ok 1 w) {W : World} {v : Value} {zs : List α} (h : listed c W v zs) (i j : Nat) (hij : i ≤ j) (hj : j ≤ zs.length) :
    ∃ u, (∀ w, (Instr.slice t v (some (.int .i64 (i : Int))) (some (.int .i64 (j : Int))) none).run P w = .ok u w) ∧ listed c W u ((zs.take j).drop i) := by
  have hlen : ((zs.take j).drop i).length = j - i := by rw [List.length_drop, List.length_take]; omega
  rcases h with ⟨⟨o, cap, rfl, ho⟩, rfl⟩ | ⟨b, off, cap, rfl, hlt, hle, hc⟩
  · obtain rfl : j = 0 := by simpa using hj
    obtain rfl : i = 0 := by omega
    have hz : ∀ a : Addr, a.add 0 = a := fun a => by
      obtain ⟨b, o, sp⟩ := a
      cases sp <;> simp [Addr.add]
    refine ⟨.slice o 0 cap, fun w => ?_, .inl ⟨⟨o, cap, rfl, ho⟩, by simp⟩⟩
    rw [run_slice_lh w t o 0 cap ht .i64 .i64 ((0 : Nat) : Int) ((0 : Nat) : Int) (by omega) (by omega) (by omega), he]
    cases o <;> simp [sliced, Result.andThen, hz]
  · by_cases hci : cap = i
    · subst hci
      obtain rfl : cap = j := by omega
      have hn : cap = zs.length := by omega
      refine ⟨.slice (some ⟨b, off, none⟩) 0 0, fun w => ?_, .inl ⟨⟨_, 0, rfl, fun h => by cases h⟩, List.eq_nil_of_length_eq_zero (by omega)⟩⟩
      rw [run_slice_lh w t (some ⟨b, off, none⟩) zs.length cap ht .i64 .i64 cap cap (by omega) (by omega) (by omega), he]
      simp [sliced, Result.andThen]
    · refine ⟨.slice (some ⟨b, off + i, none⟩) (j - i) (cap - i), fun w => ?_, .inr ⟨b, off + i, cap - i, by rw [hlen], hlt, by omega, fun k z hk => ?_⟩⟩
      · rw [run_slice_lh w t (some ⟨b, off, none⟩) zs.length cap ht .i64 .i64 i j (by omega) (by omega) (by omega), he]
        have hadd : (⟨b, off, none⟩ : Addr).add i = ⟨b, off + i, none⟩ := by unfold Addr.add; split <;> simp_all
        simp [sliced, Result.andThen, hadd, hci]
      · have hk2 : k < j - i := by
          have := (List.getElem?_eq_some_iff.mp hk).1
          omega
        rw [List.getElem?_drop, List.getElem?_take, if_pos (by omega)] at hk
        rw [Nat.add_assoc]
        exact hc _ z hk
/-! ### Of a call's own -/
theorem own_listed {w : World} {base e : Nat} {v : Value} {n : Nat} {zs : List α} (h : w.ownsRow base e 1 v n (zs.map c)) : listed c w v zs := by
  have hl := h.1
  rw [List.length_map, Nat.mul_one] at hl
  rcases h.2 with ⟨rfl, rfl⟩ | ⟨g, cap, cur, rfl, hb, hg, hn, hm, hs, ht⟩
  · exact .inl ⟨⟨none, 0, rfl, fun _ => rfl⟩, List.eq_nil_of_length_eq_zero hl⟩
  · subst hl
    refine .inr ⟨g, 0, cap, rfl, (Array.getElem?_eq_some_iff.1 hg).1, hn, fun j z hz => ?_⟩
    have := h.cells (g := g) rfl j (c z) (by rw [List.getElem?_map, hz]; rfl)
    have hadd : (⟨g, 0, none⟩ : Addr).add j = ⟨g, 0 + j, none⟩ := by unfold Addr.add; split <;> simp_all
    rwa [hadd] at this
theorem own_fresh {w : World} {base e : Nat} {v : Value} {n : Nat} {xs : List Value} (h : w.ownsRow base e 1 v n xs) (b : Nat) (hb : inBlock v b) : base ≤ b := by
  obtain ⟨off, m, cap, rfl, _⟩ := hb
  exact (h.lt b rfl).1
/-- 'append(own, list...)'. -/
theorem wpList_append_listed {P : Program} {w : World} {ops : Array Oper} {rest : List Oper} {o : Oper} {a : Act} {Q : Exit → Act → World → Prop} (hgd : o.guard = none) (s x : Operand) (t : TypeId)
    (ho : o.op = .call { callee := .builtin .append, args := #[s, x], argTypes := #[t, t] })
    (base : Nat) (e : TypeId) (z : Value) (ht : P.underlying t = some (.slice e)) (hinfo : (P.info? e).map (fun i => (i.zero, i.size, i.bytes)) = some (some z, 1, 1)) (hz : z.cells.size = 1) (hone : ∀ y, (c y).oneCell' = true)
    (v : Value) (n : Nat) (xs : List α) (hs : a.eval s = v) (hown : w.ownsRow base e 1 v n (xs.map c)) (u : Value) (zs : List α) (hx : a.eval x = u) (hr : listed c w u zs)
    (hlen : n + zs.length ≤ 140737488355328) (hbase : base ≤ w.heap.size)
    (h : ∀ v' w', w'.ownsRow base e 1 v' (n + zs.length) ((xs ++ zs).map c) → w.grownBy w' v.ownBlock → wpList P ops Q rest (a.put o.dst v') w') : wpList P ops Q (o :: rest) a w := by
  obtain ⟨i0, hi, hz0, hz1, hz2⟩ := info_parts hinfo
  rcases hr with ⟨⟨q, cap, rfl, hq⟩, rfl⟩ | ⟨b, off, cap, rfl, hlt, hle, hc⟩
  · rw [List.append_nil, List.length_nil, Nat.add_zero] at h
    simp only [List.length_nil, Nat.add_zero] at hlen
    cases q with
    | none =>
      obtain rfl : cap = 0 := hq rfl
      exact wpList_append_own_none hgd s x t ho base e i0 1 ht hi v n (xs.map c) hs hown hx (h v w hown ⟨rfl, rfl, rfl, Nat.le_refl _, fun _ _ _ => rfl⟩)
    | some ad =>
      refine wpList_append_own w hgd s x t ho base e i0 z 1 1 ht hi hz0 hz1 hz2 hz (by decide) v n (xs.map c) hs hown ad 0 cap [] hx rfl (fun j u hj => by simp at hj) (fun u hu => by cases hu) (by unfold maxLen; omega) (by omega) hbase ?_
      intro v' w' h1 h2 _
      rw [List.append_nil] at h1
      exact h v' w' h1 h2
  · rw [List.map_append] at h
    refine wpList_append_own w hgd s x t ho base e i0 z 1 1 ht hi hz0 hz1 hz2 hz (by decide) v n (xs.map c) hs hown ⟨b, off, none⟩ zs.length cap (zs.map c) hx (by rw [List.length_map, Nat.mul_one]) (fun j u hj => ?_) (fun u hu => ?_) (by unfold maxLen; omega) (by omega) hbase ?_
    · rw [List.getElem?_map] at hj
      cases hzj : zs[j]? with
      | none => rw [hzj] at hj; cases hj
      | some y =>
        rw [hzj] at hj
        obtain rfl := Option.some.inj hj
        rw [Addr.add_lit]
        exact hc j y hzj
    · obtain ⟨y, _, rfl⟩ := List.mem_map.mp hu
      exact hone y
    · intro v' w' h1 h2 _
      exact h v' w' h1 h2
/-- 'append(own, x)' of one element. -/
theorem wpList_append_one {P : Program} {w : World} {ops : Array Oper} {rest : List Oper} {o : Oper} {a : Act} {Q : Exit → Act → World → Prop} (hgd : o.guard = none) (s x : Operand) (t : TypeId)
    (ho : o.op = .call { callee := .builtin .append, args := #[s, x], argTypes := #[t, t] })
    (base : Nat) (e : TypeId) (z : Value) (ht : P.underlying t = some (.slice e)) (hinfo : (P.info? e).map (fun i => (i.zero, i.size, i.bytes)) = some (some z, 1, 1)) (hz : z.cells.size = 1) (hone : ∀ y, (c y).oneCell' = true)
    (v : Value) (n : Nat) (xs : List α) (hs : a.eval s = v) (hown : w.ownsRow base e 1 v n (xs.map c)) (g : Nat) (y : α) (hx : a.eval x = .slice (some ⟨g, 0, none⟩) 1 1) (hy : w.cell? ⟨g, 0, none⟩ = some (c y))
    (hlen : n + 1 ≤ 140737488355328) (hbase : base ≤ w.heap.size)
    (h : ∀ v' w', w'.ownsRow base e 1 v' (n + 1) ((xs ++ [y]).map c) → w.grownBy w' v.ownBlock → wpList P ops Q rest (a.put o.dst v') w') : wpList P ops Q (o :: rest) a w :=
  wpList_append_listed hgd s x t ho base e z ht hinfo hz hone v n xs hs hown _ [y] hx (.inr ⟨g, 0, 1, rfl, World.block_lt_of_cell? w _ hy, Nat.le_refl _, fun j q hj => by
    match j, hj with
    | 0, hj =>
      obtain rfl := Option.some.inj hj
      exact hy
    | j + 1, hj => simp at hj⟩) hlen hbase h
end
theorem row_shape {w : World} {base : Nat} {e : TypeId} {v : Value} {n : Nat} {xs : List Value} (h : w.ownsRow base e 1 v n xs) : ∃ o cap, v = .slice o n cap := by
  rcases h.2 with ⟨rfl, rfl⟩ | ⟨g, cap, cur, rfl, _⟩
  · exact ⟨none, 0, rfl⟩
  · exact ⟨_, cap, rfl⟩
def byteVal (n : Nat) : Value := .int .u8 (n : Int)
abbrev bytesIn (w : World) (v : Value) (zs : List Nat) : Prop := listed byteVal w v zs
end Go.Proofs.Ytefdlidjdmlnaaa.Fx
namespace Go.Proofs.Ytefdlidjdmlnaaa.Fx
open Go Go.RowKit
set_option linter.unusedVariables false

section
variable {P : Program} {ops : Array Oper} {Q : Exit → Act → World → Prop}
/-- How many have not come up. -/
def left (l : Array Bool) : Nat := l.toList.count false
theorem left_set {l : Array Bool} {i : Nat} (hi : i < l.size) (h : l.getD i true = false) : left (l.setIfInBounds i true) + 1 = left l := by
  unfold left
  have hi' : i < l.toList.length := by simpa using hi
  have hx : l.toList[i] = false := by
    simp [Array.getD, hi] at h
    simpa using h
  rw [Array.toList_setIfInBounds, List.count_set hi']
  have hm : false ∈ l.toList := by
    rw [← hx]
    exact List.getElem_mem hi'
  have := List.count_pos_iff.2 hm
  have e1 : (if (l.toList[i] == false) = true then 1 else 0) = 1 := by
    rw [hx]
    rfl
  have e2 : (if ((true : Bool) == false) = true then 1 else 0) = 0 := rfl
  rw [e1, e2]
  omega
theorem left_none {l : Array Bool} (h : left l = 0) (i : Nat) (hi : i < l.size) : l.getD i false = true := by
  unfold left at h
  have hn : false ∉ l.toList := List.count_eq_zero.1 h
  have hi' : i < l.toList.length := by simpa using hi
  have hm := List.getElem_mem hi'
  cases hx : l.toList[i] with
  | false =>
    rw [hx] at hm
    exact absurd hm hn
  | true =>
    simp [Array.getD, hi]
    simpa using hx
/-- Each operation waits for earlier ones alone: so where none may come up, all have. -/
theorem all_up (hdag : ∀ (i : Nat) (o : Oper), ops[i]? = some o → ∀ e ∈ o.after, Region.binds .any e = true → e.on < i) {l : Array Bool} (hl : l.size = ops.size) (hr : Region.ready .any ops l = []) : ∀ n i, i < n → i < ops.size → l.getD i false = true := by
  intro n
  induction n with
  | zero => intro i h; omega
  | succ n ih =>
    intro i hi hs
    cases hx : l.getD i false with
    | true => rfl
    | false =>
      exfalso
      have ho : ops[i]? = some ops[i] := Array.getElem?_eq_getElem hs
      have : i ∈ Region.ready .any ops l := mem_ready.2 ⟨by
        simp [Array.getD, hl, hs] at hx ⊢
        exact hx, ops[i], ho, fun e he hb => ih e.on (by have := hdag i _ ho e he hb; omega) (by have := hdag i _ ho e he hb; omega)⟩
      rw [hr] at this
      cases this
/-- Each operation waits for earlier ones alone: as a test. -/
def dagB (ops : Array Oper) : Bool := (List.range ops.size).all fun i => (ops[i]?).all fun o => o.after.all fun e => !Region.binds .any e || decide (e.on < i)
theorem dag_of (h : dagB ops = true) : ∀ (i : Nat) (o : Oper), ops[i]? = some o → ∀ e ∈ o.after, Region.binds .any e = true → e.on < i := by
  intro i o ho e he hb
  have hs : i < ops.size := by
    rcases Nat.lt_or_ge i ops.size with h' | h'
    · exact h'
    · rw [Array.getElem?_eq_none h'] at ho; cases ho
  unfold dagB at h
  have h1 := List.all_eq_true.1 h i (List.mem_range.2 hs)
  rw [ho] at h1
  have h2 := Array.all_eq_true'.1 h1 e he
  simpa [hb] using h2
/-- What number i waits for has come up: as a test. -/
def depsB (ops : Array Oper) (l : Array Bool) (i : Nat) : Bool := (ops[i]?).all fun o => o.after.all fun e => !Region.binds .any e || l.getD e.on false
theorem deps_of {l : Array Bool} {i : Nat} {o : Oper} (ho : ops[i]? = some o) (h : ∀ e ∈ o.after, Region.binds .any e = true → l.getD e.on false = true) : depsB ops l i = true := by
  unfold depsB
  rw [ho]
  refine Array.all_eq_true'.2 fun e he => ?_
  cases hb : Region.binds .any e with
  | false => rfl
  | true => simpa using h e he hb
theorem wp_region_inv {id : Nat} {a0 : Act} {w0 : World} (Inv : Act → Array Bool → Act → World → Prop) (hm : P.follows .mixedOrders = true) (hg : dagB ops = true)
    (h0 : Inv a0 (Array.replicate ops.size false) a0 w0.drew)
    (hstep : ∀ (l : Array Bool) (a : Act) (w : World) (i : Nat), l.size = ops.size → i < ops.size → l.getD i true = false → depsB ops l i = true → Inv a0 l a w → wpOp P ops Q i (fun a' w' => Inv a0 (l.setIfInBounds i true) a' w') a w)
    (hend : ∀ (l : Array Bool) (a : Act) (w : World), l.size = ops.size → (∀ i, i < ops.size → l.getD i false = true) → Inv a0 l a w → Q .normal a w) : (Code.region id ops true).wp P Q a0 w0 := by
  have hdag := dag_of hg
  refine wp_region_any hm ?_
  have key : ∀ fuel l a w, l.size = ops.size → left l ≤ fuel → Inv a0 l a w → wpAny P .any ops Q fuel l a w := by
    intro fuel
    induction fuel with
    | zero =>
      intro l a w hl hf hi
      have hall := left_none (l := l) (by omega)
      refine ⟨?_, hend l a w hl (fun i h => hall i (by omega)) hi⟩
      cases hr : Region.ready .any ops l with
      | nil => rfl
      | cons i rest =>
        exfalso
        have : i ∈ Region.ready .any ops l := by rw [hr]; exact List.mem_cons_self ..
        obtain ⟨h1, o, ho, _⟩ := mem_ready.1 this
        have hs : i < ops.size := by
          rcases Nat.lt_or_ge i ops.size with h | h
          · exact h
          · rw [Array.getElem?_eq_none h] at ho; cases ho
        have h2 := hall i (by omega)
        simp [Array.getD, hl, hs] at h1 h2
        rw [h1] at h2
        cases h2
    | succ fuel ih =>
      intro l a w hl hf hi
      refine ⟨fun hr => hend l a w hl (fun i h => all_up hdag hl hr (i + 1) i (by omega) h) hi, fun i hi' => ?_⟩
      obtain ⟨h1, o, ho, hall⟩ := mem_ready.1 hi'
      have hs : i < ops.size := by
        rcases Nat.lt_or_ge i ops.size with h | h
        · exact h
        · rw [Array.getElem?_eq_none h] at ho; cases ho
      have := left_set (l := l) (i := i) (by omega) h1
      exact wpOp_mono (fun a' w' h => ih _ a' w' (by simpa using hl) (by omega) h) (hstep l a w i hl hs h1 (deps_of ho hall) hi)
  exact key _ _ _ _ (by simp) (by unfold left; simp) h0
end
end Go.Proofs.Ytefdlidjdmlnaaa.Fx
