/-
  A region that draws its order, by what holds whatever has come up so far: one step for each operation, however many orders there are. And what lies at blocks that such a region makes and fills. Plain facts; the conditions stand in each.
-/
import Derived.Test.YtddagmcmajjnfaaVecCells
import Derived.RegionTactic
namespace Go.Proofs.Ytddagmcmajjnfaa.Fx
open Go Go.RowKit
set_option linter.unusedVariables false

section
variable {P : Program} {ops : Array Oper} {Q : Exit → Act → World → Prop}
/-- How many have not come up. -/
def left (l : Array Bool) : Nat := l.toList.count false
theorem left_set {l : Array Bool} {i : Nat} (hi : i < l.size) (h : l.getD i true = false) : left (l.setIfInBounds i true) + 1 = left l := by
  unfold left
  have hi' : i < l.toList.length := by simpa using hi
  have hx : l.toList[i] = false := by
    simp [Array.getD, hi] at h
    simpa using h
  rw [Array.toList_setIfInBounds, List.count_set hi']
  have hm : false ∈ l.toList := by
    rw [← hx]
    exact List.getElem_mem hi'
  have := List.count_pos_iff.2 hm
  have e1 : (if (l.toList[i] == false) = true then 1 else 0) = 1 := by
    rw [hx]
    rfl
  have e2 : (if ((true : Bool) == false) = true then 1 else 0) = 0 := rfl
  rw [e1, e2]
  omega
theorem left_none {l : Array Bool} (h : left l = 0) (i : Nat) (hi : i < l.size) : l.getD i false = true := by
  unfold left at h
  have hn : false ∉ l.toList := List.count_eq_zero.1 h
  have hi' : i < l.toList.length := by simpa using hi
  have hm := List.getElem_mem hi'
  cases hx : l.toList[i] with
  | false =>
    rw [hx] at hm
    exact absurd hm hn
  | true =>
    simp [Array.getD, hi]
    simpa using hx
/-- Each operation waits for earlier ones alone: so where none may come up, all have. -/
theorem all_up (hdag : ∀ (i : Nat) (o : Oper), ops[i]? = some o → ∀ e ∈ o.after, e.on < i) {l : Array Bool} (hl : l.size = ops.size) (hr : Region.ready .any ops l = []) : ∀ n i, i < n → i < ops.size → l.getD i false = true := by
  intro n
  induction n with
  | zero => intro i h; omega
  | succ n ih =>
    intro i hi hs
    cases hx : l.getD i false with
    | true => rfl
    | false =>
      exfalso
      have ho : ops[i]? = some ops[i] := Array.getElem?_eq_getElem hs
      have : i ∈ Region.ready .any ops l := mem_ready.2 ⟨by
        simp [Array.getD, hl, hs] at hx ⊢
        exact hx, ops[i], ho, fun e he _ => ih e.on (by have := hdag i _ ho e he; omega) (by have := hdag i _ ho e he; omega)⟩
      rw [hr] at this
      cases this
/-- Each operation waits for earlier ones alone: as a test. -/
def dagB (ops : Array Oper) : Bool := (List.range ops.size).all fun i => (ops[i]?).all fun o => o.after.all fun e => decide (e.on < i)
theorem dag_of (h : dagB ops = true) : ∀ (i : Nat) (o : Oper), ops[i]? = some o → ∀ e ∈ o.after, e.on < i := by
  intro i o ho e he
  have hs : i < ops.size := by
    rcases Nat.lt_or_ge i ops.size with h' | h'
    · exact h'
    · rw [Array.getElem?_eq_none h'] at ho; cases ho
  unfold dagB at h
  have h1 := List.all_eq_true.1 h i (List.mem_range.2 hs)
  rw [ho] at h1
  have h2 := Array.all_eq_true'.1 h1 e he
  simpa using h2
/-- What number i waits for has come up: as a test. -/
def depsB (ops : Array Oper) (l : Array Bool) (i : Nat) : Bool := (ops[i]?).all fun o => o.after.all fun e => !Region.binds .any e || l.getD e.on false
theorem deps_of {l : Array Bool} {i : Nat} {o : Oper} (ho : ops[i]? = some o) (h : ∀ e ∈ o.after, Region.binds .any e = true → l.getD e.on false = true) : depsB ops l i = true := by
  unfold depsB
  rw [ho]
  refine Array.all_eq_true'.2 fun e he => ?_
  cases hb : Region.binds .any e with
  | false => rfl
  | true => simpa using h e he hb
theorem wp_region_inv {id : Nat} {a0 : Act} {w0 : World} (Inv : Act → Array Bool → Act → World → Prop) (hm : P.follows .mixedOrders = true) (hg : dagB ops = true)
    (h0 : Inv a0 (Array.replicate ops.size false) a0 w0.drew)
    (hstep : ∀ (l : Array Bool) (a : Act) (w : World) (i : Nat), l.size = ops.size → i < ops.size → l.getD i true = false → depsB ops l i = true → Inv a0 l a w → wpOp P ops Q i (fun a' w' => Inv a0 (l.setIfInBounds i true) a' w') a w)
    (hend : ∀ (l : Array Bool) (a : Act) (w : World), l.size = ops.size → (∀ i, i < ops.size → l.getD i false = true) → Inv a0 l a w → Q .normal a w) : (Code.region id ops true).wp P Q a0 w0 := by
  have hdag := dag_of hg
  refine wp_region_any hm ?_
  have key : ∀ fuel l a w, l.size = ops.size → left l ≤ fuel → Inv a0 l a w → wpAny P .any ops Q fuel l a w := by
    intro fuel
    induction fuel with
    | zero =>
      intro l a w hl hf hi
      have hall := left_none (l := l) (by omega)
      refine ⟨?_, hend l a w hl (fun i h => hall i (by omega)) hi⟩
      cases hr : Region.ready .any ops l with
      | nil => rfl
      | cons i rest =>
        exfalso
        have : i ∈ Region.ready .any ops l := by rw [hr]; exact List.mem_cons_self ..
        obtain ⟨h1, o, ho, _⟩ := mem_ready.1 this
        have hs : i < ops.size := by
          rcases Nat.lt_or_ge i ops.size with h | h
          · exact h
          · rw [Array.getElem?_eq_none h] at ho; cases ho
        have h2 := hall i (by omega)
        simp [Array.getD, hl, hs] at h1 h2
        rw [h1] at h2
        cases h2
    | succ fuel ih =>
      intro l a w hl hf hi
      refine ⟨fun hr => hend l a w hl (fun i h => all_up hdag hl hr (i + 1) i (by omega) h) hi, fun i hi' => ?_⟩
      obtain ⟨h1, o, ho, hall⟩ := mem_ready.1 hi'
      have hs : i < ops.size := by
        rcases Nat.lt_or_ge i ops.size with h | h
        · exact h
        · rw [Array.getElem?_eq_none h] at ho; cases ho
      have := left_set (l := l) (i := i) (by omega) h1
      exact wpOp_mono (fun a' w' h => ih _ a' w' (by simpa using hl) (by omega) h) (hstep l a w i hl hs h1 (deps_of ho hall) hi)
  exact key _ _ _ _ (by simp) (by unfold left; simp) h0
end
/-- Three cells that may be written. -/
def There (w : World) (g : Nat) : Prop := w.cell? ⟨g, 0, none⟩ = some (lies w ⟨g, 0, none⟩) ∧ w.cell? ⟨g, 1, none⟩ = some (lies w ⟨g, 1, none⟩) ∧ w.cell? ⟨g, 2, none⟩ = some (lies w ⟨g, 2, none⟩) ∧ w.frozen? ⟨g, 0, none⟩ = false ∧ w.frozen? ⟨g, 1, none⟩ = false ∧ w.frozen? ⟨g, 2, none⟩ = false
def Has (w : World) (g : Nat) (x y z : Int) : Prop := w.cell? ⟨g, 0, none⟩ = some (.int .i64 x) ∧ w.cell? ⟨g, 1, none⟩ = some (.int .i64 y) ∧ w.cell? ⟨g, 2, none⟩ = some (.int .i64 z)
def put3 (w : World) (g : Nat) (x y z : Int) : World := ((w.setCell ⟨g, 0, none⟩ (.int .i64 x)).setCell ⟨g, 1, none⟩ (.int .i64 y)).setCell ⟨g, 2, none⟩ (.int .i64 z)
theorem There.lt {w : World} {g : Nat} (h : There w g) : g < w.heap.size := World.block_lt_of_cell? _ _ h.1
theorem Has.lt {w : World} {g : Nat} {x y z : Int} (h : Has w g x y z) : g < w.heap.size := World.block_lt_of_cell? _ _ h.1
theorem There.keep {w w' : World} {g : Nat} (h : There w g) (hb : Below w.heap.size w w') : There w' g :=
  ⟨keep_lies hb h.1, keep_lies hb h.2.1, keep_lies hb h.2.2.1, keep_frozen hb h.lt h.2.2.2.1, keep_frozen hb h.lt h.2.2.2.2.1, keep_frozen hb h.lt h.2.2.2.2.2⟩
theorem Has.keep {w w' : World} {g : Nat} {x y z : Int} (h : Has w g x y z) (hb : Below w.heap.size w w') : Has w' g x y z :=
  ⟨keep_cell hb h.1, keep_cell hb h.2.1, keep_cell hb h.2.2⟩
theorem There.put {w : World} {g r : Nat} {x y z : Int} (h : There w g) : There (put3 w r x y z) g := by
  unfold put3
  refine ⟨some_set3 _ _ _ _ _ h.1, some_set3 _ _ _ _ _ h.2.1, some_set3 _ _ _ _ _ h.2.2.1, ?_, ?_, ?_⟩
  · rw [store3_frozen]; exact h.2.2.2.1
  · rw [store3_frozen]; exact h.2.2.2.2.1
  · rw [store3_frozen]; exact h.2.2.2.2.2
theorem Has.put {w : World} {g r : Nat} {x y z x' y' z' : Int} (h : Has w g x y z) (hr : r ≠ g) : Has (put3 w r x' y' z') g x y z := by
  unfold put3
  exact ⟨by rw [store3_far _ _ _ _ _ _ hr]; exact h.1, by rw [store3_far _ _ _ _ _ _ hr]; exact h.2.1, by rw [store3_far _ _ _ _ _ _ hr]; exact h.2.2⟩
theorem There.has {w : World} {g : Nat} {x y z : Int} (h : There w g) : Has (put3 w g x y z) g x y z := by
  have hl := store3_lies w g (.int .i64 x) (.int .i64 y) (.int .i64 z) h.1 h.2.1 h.2.2.1
  exact store3_read hl.1 hl.2.1 hl.2.2
theorem There.new (w : World) (a b c : Value) (t : TypeId) : There (w.alloc (.cells #[a, b, c] t)) w.heap.size := by
  refine ⟨lies_of (v := a) ?_, lies_of (v := b) ?_, lies_of (v := c) ?_, ?_, ?_, ?_⟩
  · rw [World.cell?_alloc_at _ _ _ _ rfl]; rfl
  · rw [World.cell?_alloc_at _ _ _ _ rfl]; rfl
  · rw [World.cell?_alloc_at _ _ _ _ rfl]; rfl
  · rw [World.frozen?_alloc_at _ _ _ _ rfl]
  · rw [World.frozen?_alloc_at _ _ _ _ rfl]
  · rw [World.frozen?_alloc_at _ _ _ _ rfl]
theorem put3_size (w : World) (g : Nat) (x y z : Int) : (put3 w g x y z).heap.size = w.heap.size := by
  unfold put3
  simp
/-- What the region stands on: it lies on, where memory is made, and where blocks from B on are written. -/
structure Stands (B : Nat) (Base : World → Prop) : Prop where
  keep : ∀ w w', Base w → Below w.heap.size w w' → Base w'
  put : ∀ w g x y z, Base w → B ≤ g → Base (put3 w g x y z)
  size : ∀ w, Base w → B ≤ w.heap.size
/-- Three blocks: made (b), filled (s). -/
structure W3 (B : Nat) (Base : World → Prop) (b0 b1 b2 s0 s1 s2 : Bool) (g0 g1 g2 : Nat) (x0 y0 z0 x1 y1 z1 x2 y2 z2 : Int) (w : World) : Prop where
  base : Base w
  t0 : b0 = true → B ≤ g0 ∧ There w g0
  t1 : b1 = true → B ≤ g1 ∧ There w g1
  t2 : b2 = true → B ≤ g2 ∧ There w g2
  d01 : b0 = true → b1 = true → g0 ≠ g1
  d02 : b0 = true → b2 = true → g0 ≠ g2
  d12 : b1 = true → b2 = true → g1 ≠ g2
  h0 : s0 = true → b0 = true ∧ Has w g0 x0 y0 z0
  h1 : s1 = true → b1 = true ∧ Has w g1 x1 y1 z1
  h2 : s2 = true → b2 = true ∧ Has w g2 x2 y2 z2
section
variable {B : Nat} {Base : World → Prop} {b0 b1 b2 s0 s1 s2 : Bool} {g0 g1 g2 : Nat} {x0 y0 z0 x1 y1 z1 x2 y2 z2 : Int} {w w' : World}
theorem W3.call (st : Stands B Base) (h : W3 B Base b0 b1 b2 s0 s1 s2 g0 g1 g2 x0 y0 z0 x1 y1 z1 x2 y2 z2 w) (hb : Below w.heap.size w w') : W3 B Base b0 b1 b2 s0 s1 s2 g0 g1 g2 x0 y0 z0 x1 y1 z1 x2 y2 z2 w' :=
  ⟨st.keep _ _ h.base hb, fun e => ⟨(h.t0 e).1, (h.t0 e).2.keep hb⟩, fun e => ⟨(h.t1 e).1, (h.t1 e).2.keep hb⟩, fun e => ⟨(h.t2 e).1, (h.t2 e).2.keep hb⟩, h.d01, h.d02, h.d12, fun e => ⟨(h.h0 e).1, (h.h0 e).2.keep hb⟩, fun e => ⟨(h.h1 e).1, (h.h1 e).2.keep hb⟩, fun e => ⟨(h.h2 e).1, (h.h2 e).2.keep hb⟩⟩
theorem W3.new0 (st : Stands B Base) (h : W3 B Base false b1 b2 s0 s1 s2 g0 g1 g2 x0 y0 z0 x1 y1 z1 x2 y2 z2 w) (a b c : Value) (t : TypeId) : W3 B Base true b1 b2 s0 s1 s2 w.heap.size g1 g2 x0 y0 z0 x1 y1 z1 x2 y2 z2 (w.alloc (.cells #[a, b, c] t)) := by
  have h' := h.call st ((Below.refl _ _).alloc (Nat.le_refl _) (.cells #[a, b, c] t))
  exact ⟨h'.base, fun _ => ⟨st.size _ h.base, There.new w a b c t⟩, h'.t1, h'.t2, fun _ e => Nat.ne_of_gt (h.t1 e).2.lt, fun _ e => Nat.ne_of_gt (h.t2 e).2.lt, h.d12, fun e => absurd (h.h0 e).1 (by simp), h'.h1, h'.h2⟩
theorem W3.new1 (st : Stands B Base) (h : W3 B Base b0 false b2 s0 s1 s2 g0 g1 g2 x0 y0 z0 x1 y1 z1 x2 y2 z2 w) (a b c : Value) (t : TypeId) : W3 B Base b0 true b2 s0 s1 s2 g0 w.heap.size g2 x0 y0 z0 x1 y1 z1 x2 y2 z2 (w.alloc (.cells #[a, b, c] t)) := by
  have h' := h.call st ((Below.refl _ _).alloc (Nat.le_refl _) (.cells #[a, b, c] t))
  exact ⟨h'.base, h'.t0, fun _ => ⟨st.size _ h.base, There.new w a b c t⟩, h'.t2, fun e _ => Nat.ne_of_lt (h.t0 e).2.lt, h.d02, fun _ e => Nat.ne_of_gt (h.t2 e).2.lt, h'.h0, fun e => absurd (h.h1 e).1 (by simp), h'.h2⟩
theorem W3.new2 (st : Stands B Base) (h : W3 B Base b0 b1 false s0 s1 s2 g0 g1 g2 x0 y0 z0 x1 y1 z1 x2 y2 z2 w) (a b c : Value) (t : TypeId) : W3 B Base b0 b1 true s0 s1 s2 g0 g1 w.heap.size x0 y0 z0 x1 y1 z1 x2 y2 z2 (w.alloc (.cells #[a, b, c] t)) := by
  have h' := h.call st ((Below.refl _ _).alloc (Nat.le_refl _) (.cells #[a, b, c] t))
  exact ⟨h'.base, h'.t0, h'.t1, fun _ => ⟨st.size _ h.base, There.new w a b c t⟩, h.d01, fun e _ => Nat.ne_of_lt (h.t0 e).2.lt, fun e _ => Nat.ne_of_lt (h.t1 e).2.lt, h'.h0, h'.h1, fun e => absurd (h.h2 e).1 (by simp)⟩
theorem W3.put0 (st : Stands B Base) (h : W3 B Base true b1 b2 s0 s1 s2 g0 g1 g2 x0 y0 z0 x1 y1 z1 x2 y2 z2 w) : W3 B Base true b1 b2 true s1 s2 g0 g1 g2 x0 y0 z0 x1 y1 z1 x2 y2 z2 (put3 w g0 x0 y0 z0) :=
  ⟨st.put _ _ _ _ _ h.base (h.t0 rfl).1, fun e => ⟨(h.t0 e).1, (h.t0 e).2.put⟩, fun e => ⟨(h.t1 e).1, (h.t1 e).2.put⟩, fun e => ⟨(h.t2 e).1, (h.t2 e).2.put⟩, h.d01, h.d02, h.d12, fun _ => ⟨rfl, (h.t0 rfl).2.has⟩, fun e => ⟨(h.h1 e).1, (h.h1 e).2.put (h.d01 rfl (h.h1 e).1)⟩, fun e => ⟨(h.h2 e).1, (h.h2 e).2.put (h.d02 rfl (h.h2 e).1)⟩⟩
theorem W3.put1 (st : Stands B Base) (h : W3 B Base b0 true b2 s0 s1 s2 g0 g1 g2 x0 y0 z0 x1 y1 z1 x2 y2 z2 w) : W3 B Base b0 true b2 s0 true s2 g0 g1 g2 x0 y0 z0 x1 y1 z1 x2 y2 z2 (put3 w g1 x1 y1 z1) :=
  ⟨st.put _ _ _ _ _ h.base (h.t1 rfl).1, fun e => ⟨(h.t0 e).1, (h.t0 e).2.put⟩, fun e => ⟨(h.t1 e).1, (h.t1 e).2.put⟩, fun e => ⟨(h.t2 e).1, (h.t2 e).2.put⟩, h.d01, h.d02, h.d12, fun e => ⟨(h.h0 e).1, (h.h0 e).2.put (Ne.symm (h.d01 (h.h0 e).1 rfl))⟩, fun _ => ⟨rfl, (h.t1 rfl).2.has⟩, fun e => ⟨(h.h2 e).1, (h.h2 e).2.put (h.d12 rfl (h.h2 e).1)⟩⟩
theorem W3.put2 (st : Stands B Base) (h : W3 B Base b0 b1 true s0 s1 s2 g0 g1 g2 x0 y0 z0 x1 y1 z1 x2 y2 z2 w) : W3 B Base b0 b1 true s0 s1 true g0 g1 g2 x0 y0 z0 x1 y1 z1 x2 y2 z2 (put3 w g2 x2 y2 z2) :=
  ⟨st.put _ _ _ _ _ h.base (h.t2 rfl).1, fun e => ⟨(h.t0 e).1, (h.t0 e).2.put⟩, fun e => ⟨(h.t1 e).1, (h.t1 e).2.put⟩, fun e => ⟨(h.t2 e).1, (h.t2 e).2.put⟩, h.d01, h.d02, h.d12, fun e => ⟨(h.h0 e).1, (h.h0 e).2.put (Ne.symm (h.d02 (h.h0 e).1 rfl))⟩, fun e => ⟨(h.h1 e).1, (h.h1 e).2.put (Ne.symm (h.d12 (h.h1 e).1 rfl))⟩, fun _ => ⟨rfl, (h.t2 rfl).2.has⟩⟩
end
end Go.Proofs.Ytddagmcmajjnfaa.Fx
