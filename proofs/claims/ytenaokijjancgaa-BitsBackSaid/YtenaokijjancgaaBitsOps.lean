/-
  A script of calls that came in; a writer or reader beside the document's own. The conditions stand in each.
-/
import Derived.Test.YtenaokijjancgaaBitsD
namespace Go.Proofs.Ytenaokijjancgaa.Fx
open Go Go.RowKit Go.Joins
set_option linter.unusedVariables false
/-- A call of a script: its kind, N, K. -/
structure Call where
  kind : Int
  n : Nat
  k : Int
/-- A call's numbers are of their kinds. -/
def Call.ok (c : Call) : Prop := (-9223372036854775808 ≤ c.kind ∧ c.kind ≤ 9223372036854775807) ∧ c.n ≤ 4294967295 ∧ -9223372036854775808 ≤ c.k ∧ c.k ≤ 9223372036854775807
/-- A slice's value that reads as this script. -/
def scriptIn (w : World) (v : Value) (cs : List Call) : Prop :=
  ((∃ o cap, v = .slice o 0 cap) ∧ cs = []) ∨ ∃ b off cap, v = .slice (some ⟨b, off, none⟩) cs.length cap ∧ cs.length ≤ cap ∧ b < w.heap.size ∧
    ∀ i c, cs[i]? = some c → w.cell? ⟨b, off + i * 3, none⟩ = some (.int .i64 c.kind) ∧ w.cell? ⟨b, off + i * 3 + 1, none⟩ = some (.int .u32 (c.n : Int)) ∧ w.cell? ⟨b, off + i * 3 + 2, none⟩ = some (.int .i64 c.k)
theorem script_length {w : World} {v : Value} {cs : List Call} (h : scriptIn w v cs) : ∃ o cap, v = .slice o cs.length cap := by
  rcases h with ⟨⟨o, cap, rfl⟩, rfl⟩ | ⟨b, off, cap, rfl, _⟩
  · exact ⟨o, cap, rfl⟩
  · exact ⟨_, cap, rfl⟩
theorem script_on {w w' : World} {v : Value} {cs : List Call} (h : scriptIn w v cs) (hb : Below w.heap.size w w') : scriptIn w' v cs := by
  rcases h with h | ⟨b, off, cap, rfl, hle, hlt, hc⟩
  · exact .inl h
  · exact .inr ⟨b, off, cap, rfl, hle, Nat.lt_of_lt_of_le hlt hb.size, fun i c hi => ⟨(hb.cell hlt).trans (hc i c hi).1, (hb.cell hlt).trans (hc i c hi).2.1, (hb.cell hlt).trans (hc i c hi).2.2⟩⟩
theorem script_at {w : World} {v : Value} {cs : List Call} (h : scriptIn w v cs) (i : Nat) (c : Call) (hi : cs[i]? = some c) : ∃ b off cap, v = .slice (some ⟨b, off, none⟩) cs.length cap ∧ b < w.heap.size ∧ w.cell? ⟨b, off + i * 3, none⟩ = some (.int .i64 c.kind) ∧ w.cell? ⟨b, off + i * 3 + 1, none⟩ = some (.int .u32 (c.n : Int)) ∧ w.cell? ⟨b, off + i * 3 + 2, none⟩ = some (.int .i64 c.k) := by
  rcases h with ⟨_, rfl⟩ | ⟨b, off, cap, rfl, hle, hlt, hc⟩
  · simp at hi
  · exact ⟨b, off, cap, rfl, hlt, hc i c hi⟩
/-- An object of the code (its bits l, number t, blocks O) beside a box of the document's own (the value u of bits r, number s). -/
structure Both (obj : World → Value → List Bool → Nat → (Nat → Prop) → Prop) (ty : TypeId) (B : Nat) (w : World) (v : Value) (g : Nat) (l : List Bool) (t : Nat) (O : Nat → Prop) (u : Value) (r : List Bool) (s : Nat) : Prop where
  is : obj w v l t O
  olt : ∀ k, O k → k < w.heap.size
  own : ∀ k, O k → B ≤ k
  box : w.heap[g]? = some (.cells #[u, .int .i64 (s : Int)] ty (0, 0))
  val : bools w u r
  apart : ∀ b, inBlock u b → B ≤ b ∧ ¬ O b ∧ b ≠ g
  gv : B ≤ g ∧ ¬ O g
section
variable {obj : World → Value → List Bool → Nat → (Nat → Prop) → Prop} {ty : TypeId} {B : Nat} {w w' : World} {v u u' : Value} {g : Nat} {l l' r r' : List Bool} {t t' s s' : Nat} {O O' : Nat → Prop}
theorem Both.lt (h : Both obj ty B w v g l t O u r s) : g < w.heap.size := (Array.getElem?_eq_some_iff.1 h.box).1
theorem bools_lt (h : bools w u r) {b : Nat} (hb : inBlock u b) : b < w.heap.size := by
  obtain ⟨off, n, cap, rfl, hn⟩ := hb
  rcases h with ⟨⟨o, c', h, _⟩, _⟩ | ⟨b', off', cap', h, hlt, _⟩
  · simp only [Value.slice.injEq] at h
    omega
  · simp only [Value.slice.injEq, Option.some.injEq, Addr.mk.injEq] at h
    obtain ⟨⟨rfl, _⟩, _⟩ := h
    exact hlt
/-- Behind a call of the object's. -/
theorem Both.call (h : Both obj ty B w v g l t O u r s) (hi : obj w' v l' t' O') (hlt : ∀ k, O' k → k < w'.heap.size) (hO : ∀ b, O' b → O b ∨ w.heap.size ≤ b) (hp : Past O w w') (hB : B ≤ w.heap.size) : Both obj ty B w' v g l' t' O' u r s := by
  have hg := h.lt
  refine ⟨hi, hlt, fun k hk => ?_, (hp.block g hg h.gv.2).trans h.box, listed_past h.val hp (fun b hb => (h.apart b hb).2.1), fun b hb => ⟨(h.apart b hb).1, fun ho => ?_, (h.apart b hb).2.2⟩, h.gv.1, fun ho => ?_⟩
  · rcases hO k hk with h1 | h1
    · exact h.own k h1
    · omega
  · have := bools_lt h.val hb
    rcases hO b ho with h1 | h1
    · exact (h.apart b hb).2.1 h1
    · omega
  · rcases hO g ho with h1 | h1
    · exact h.gv.2 h1
    · omega
/-- Another block behind a call of the object's. -/
theorem Both.else {c : Nat} {x : Obj} (hc : w.heap[c]? = some x) (hn : ¬ O c) (hO : ∀ b, O' b → O b ∨ w.heap.size ≤ b) (hp : Past O w w') : w'.heap[c]? = some x ∧ ¬ O' c := by
  have hlt := (Array.getElem?_eq_some_iff.1 hc).1
  refine ⟨(hp.block c hlt hn).trans hc, fun ho => ?_⟩
  rcases hO c ho with h1 | h1
  · exact hn h1
  · omega
theorem Both.below (h : Both obj ty B w v g l t O u r s) (hkeep : obj w' v l t O) (hb : Below w.heap.size w w') : Both obj ty B w' v g l t O u r s :=
  ⟨hkeep, fun k hk => Nat.lt_of_lt_of_le (h.olt k hk) hb.size, h.own, (hb.block g h.lt).trans h.box, listed_on h.val hb, h.apart, h.gv⟩
/-- The document's own has another value. -/
theorem Both.store (h : Both obj ty B w v g l t O u r s) (hu : bools w u' r') (hf : ∀ b, inBlock u' b → B ≤ b ∧ ¬ O b ∧ b ≠ g)
    (hkeep : ∀ w', w.heap.size ≤ w'.heap.size → (∀ k, O k → w'.heap[k]? = w.heap[k]?) → obj w' v l t O) :
    Both obj ty B ((w.setCell ⟨g, 0, none⟩ u').setCell ⟨g, 1, none⟩ (.int .i64 (s' : Int))) v g l t O u' r' s' := by
  have hk : ∀ k, k ≠ g → ((w.setCell ⟨g, 0, none⟩ u').setCell ⟨g, 1, none⟩ (.int .i64 (s' : Int))).heap[k]? = w.heap[k]? := fun k hk => by
    rw [Below.heap_setCell _ _ _ k hk, Below.heap_setCell _ _ _ k hk]
  have hs : w.heap.size ≤ ((w.setCell ⟨g, 0, none⟩ u').setCell ⟨g, 1, none⟩ (.int .i64 (s' : Int))).heap.size := Nat.le_of_eq (by simp)
  exact ⟨hkeep _ hs (fun k ho => hk k (fun e => h.gv.2 (e ▸ ho))), fun k ho => Nat.lt_of_lt_of_le (h.olt k ho) hs, h.own, block_setCell (block_setCell h.box _) _, listed_kept hu hs (fun b hb => hk b (hf b hb).2.2), hf, h.gv⟩
end
end Go.Proofs.Ytenaokijjancgaa.Fx
