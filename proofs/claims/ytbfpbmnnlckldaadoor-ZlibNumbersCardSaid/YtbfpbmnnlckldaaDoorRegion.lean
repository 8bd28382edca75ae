/-
  A region that draws its order, by what holds whatever has come up so far: one step for each operation, however many orders there are. Plain facts; the conditions stand in each.
-/
import Derived.Test.YtbfpbmnnlckldaaDoorLists
import Derived.RegionTactic
namespace Go.Proofs.YtbfpbmnnlckldaaDoor.Fx
open Go Go.RowKit
set_option linter.unusedVariables false

section
variable {P : Program} {ops : Array Oper} {Q : Exit → Act → World → Prop}
/-- How many have not come up. -/
def left (l : Array Bool) : Nat := l.toList.count false
theorem left_set {l : Array Bool} {i : Nat} (hi : i < l.size) (h : l.getD i true = false) : left (l.setIfInBounds i true) + 1 = left l := by
  unfold left
  have hi' : i < l.toList.length := by simpa using hi
  have hx : l.toList[i] = false := by
    simp [Array.getD, hi] at h
    simpa using h
  rw [Array.toList_setIfInBounds, List.count_set hi']
  have hm : false ∈ l.toList := by
    rw [← hx]
    exact List.getElem_mem hi'
  have := List.count_pos_iff.2 hm
  have e1 : (if (l.toList[i] == false) = true then 1 else 0) = 1 := by
    rw [hx]
    rfl
  have e2 : (if ((true : Bool) == false) = true then 1 else 0) = 0 := rfl
  rw [e1, e2]
  omega
theorem left_none {l : Array Bool} (h : left l = 0) (i : Nat) (hi : i < l.size) : l.getD i false = true := by
  unfold left at h
  have hn : false ∉ l.toList := List.count_eq_zero.1 h
  have hi' : i < l.toList.length := by simpa using hi
  have hm := List.getElem_mem hi'
  cases hx : l.toList[i] with
  | false =>
    rw [hx] at hm
    exact absurd hm hn
  | true =>
    simp [Array.getD, hi]
    simpa using hx
/-- Each operation waits for earlier ones alone: so where none may come up, all have. -/
theorem all_up (hdag : ∀ (i : Nat) (o : Oper), ops[i]? = some o → ∀ e ∈ o.after, Region.binds .any e = true → e.on < i) {l : Array Bool} (hl : l.size = ops.size) (hr : Region.ready .any ops l = []) : ∀ n i, i < n → i < ops.size → l.getD i false = true := by
  intro n
  induction n with
  | zero => intro i h; omega
  | succ n ih =>
    intro i hi hs
    cases hx : l.getD i false with
    | true => rfl
    | false =>
      exfalso
      have ho : ops[i]? = some ops[i] := Array.getElem?_eq_getElem hs
      have : i ∈ Region.ready .any ops l := mem_ready.2 ⟨by
        simp [Array.getD, hl, hs] at hx ⊢
        exact hx, ops[i], ho, fun e he hb => ih e.on (by have := hdag i _ ho e he hb; omega) (by have := hdag i _ ho e he hb; omega)⟩
      rw [hr] at this
      cases this
/-- Each operation waits for earlier ones alone: as a test. -/
def dagB (ops : Array Oper) : Bool := (List.range ops.size).all fun i => (ops[i]?).all fun o => o.after.all fun e => !Region.binds .any e || decide (e.on < i)
theorem dag_of (h : dagB ops = true) : ∀ (i : Nat) (o : Oper), ops[i]? = some o → ∀ e ∈ o.after, Region.binds .any e = true → e.on < i := by
  intro i o ho e he hb
  have hs : i < ops.size := by
    rcases Nat.lt_or_ge i ops.size with h' | h'
    · exact h'
    · rw [Array.getElem?_eq_none h'] at ho; cases ho
  unfold dagB at h
  have h1 := List.all_eq_true.1 h i (List.mem_range.2 hs)
  rw [ho] at h1
  have h2 := Array.all_eq_true'.1 h1 e he
  simpa [hb] using h2
/-- What number i waits for has come up: as a test. -/
def depsB (ops : Array Oper) (l : Array Bool) (i : Nat) : Bool := (ops[i]?).all fun o => o.after.all fun e => !Region.binds .any e || l.getD e.on false
theorem deps_of {l : Array Bool} {i : Nat} {o : Oper} (ho : ops[i]? = some o) (h : ∀ e ∈ o.after, Region.binds .any e = true → l.getD e.on false = true) : depsB ops l i = true := by
  unfold depsB
  rw [ho]
  refine Array.all_eq_true'.2 fun e he => ?_
  cases hb : Region.binds .any e with
  | false => rfl
  | true => simpa using h e he hb
theorem wp_region_inv {id : Nat} {a0 : Act} {w0 : World} (Inv : Act → Array Bool → Act → World → Prop) (hm : P.follows .mixedOrders = true) (hg : dagB ops = true)
    (h0 : Inv a0 (Array.replicate ops.size false) a0 w0.drew)
    (hstep : ∀ (l : Array Bool) (a : Act) (w : World) (i : Nat), l.size = ops.size → i < ops.size → l.getD i true = false → depsB ops l i = true → Inv a0 l a w → wpOp P ops Q i (fun a' w' => Inv a0 (l.setIfInBounds i true) a' w') a w)
    (hend : ∀ (l : Array Bool) (a : Act) (w : World), l.size = ops.size → (∀ i, i < ops.size → l.getD i false = true) → Inv a0 l a w → Q .normal a w) : (Code.region id ops true).wp P Q a0 w0 := by
  have hdag := dag_of hg
  refine wp_region_any hm ?_
  have key : ∀ fuel l a w, l.size = ops.size → left l ≤ fuel → Inv a0 l a w → wpAny P .any ops Q fuel l a w := by
    intro fuel
    induction fuel with
    | zero =>
      intro l a w hl hf hi
      have hall := left_none (l := l) (by omega)
      refine ⟨?_, hend l a w hl (fun i h => hall i (by omega)) hi⟩
      cases hr : Region.ready .any ops l with
      | nil => rfl
      | cons i rest =>
        exfalso
        have : i ∈ Region.ready .any ops l := by rw [hr]; exact List.mem_cons_self ..
        obtain ⟨h1, o, ho, _⟩ := mem_ready.1 this
        have hs : i < ops.size := by
          rcases Nat.lt_or_ge i ops.size with h | h
          · exact h
          · rw [Array.getElem?_eq_none h] at ho; cases ho
        have h2 := hall i (by omega)
        simp [Array.getD, hl, hs] at h1 h2
        rw [h1] at h2
        cases h2
    | succ fuel ih =>
      intro l a w hl hf hi
      refine ⟨fun hr => hend l a w hl (fun i h => all_up hdag hl hr (i + 1) i (by omega) h) hi, fun i hi' => ?_⟩
      obtain ⟨h1, o, ho, hall⟩ := mem_ready.1 hi'
      have hs : i < ops.size := by
        rcases Nat.lt_or_ge i ops.size with h | h
        · exact h
        · rw [Array.getElem?_eq_none h] at ho; cases ho
      have := left_set (l := l) (i := i) (by omega) h1
      exact wpOp_mono (fun a' w' h => ih _ a' w' (by simpa using hl) (by omega) h) (hstep l a w i hl hs h1 (deps_of ho hall) hi)
  exact key _ _ _ _ (by simp) (by unfold left; simp) h0
end
end Go.Proofs.YtbfpbmnnlckldaaDoor.Fx
