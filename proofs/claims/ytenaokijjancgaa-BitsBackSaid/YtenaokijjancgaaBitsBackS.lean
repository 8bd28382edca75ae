/-
  Two writers beside two rows: what stays behind each kind of step. The conditions stand in each.
-/
import Derived.Test.YtenaokijjancgaaBitsBackP
namespace Go.Proofs.Ytenaokijjancgaa.Fx
open Go Go.RowKit Go.Joins
set_option linter.unusedVariables false
theorem ownsRow_hold {w w' : World} {base : Nat} {e : TypeId} {sz : Nat} {v : Value} {n : Nat} {xs : List Value} (h : w.ownsRow base e sz v n xs) (hk : ∀ k, v.ownBlock = some k → w'.heap[k]? = w.heap[k]?) : w'.ownsRow base e sz v n xs := by
  refine ⟨h.1, ?_⟩
  rcases h.2 with hn | ⟨g, cap, cur, rfl, hb, hg, rest⟩
  · exact .inl hn
  · exact .inr ⟨g, cap, cur, rfl, hb, (hk g rfl).trans hg, rest⟩
theorem row1_form {w : World} {base : Nat} {e : TypeId} {v : Value} {n : Nat} {xs : List Value} (h : w.ownsRow base e 1 v n xs) : ∃ o cap, v = .slice o n cap := by
  rcases h.2 with ⟨rfl, rfl⟩ | ⟨g, cap, cur, rfl, _⟩
  · exact ⟨none, 0, rfl⟩
  · exact ⟨_, cap, rfl⟩
theorem row3_form {w : World} {base : Nat} {e : TypeId} {v : Value} {n : Nat} {xs : List Value} (h : w.ownsRow base e 3 v n xs) : ∃ o cap, v = .slice o n cap := by
  rcases h.2 with ⟨rfl, rfl⟩ | ⟨g, cap, cur, rfl, _⟩
  · exact ⟨none, 0, rfl⟩
  · exact ⟨_, cap, rfl⟩
theorem row3_some {w : World} {base : Nat} {e : TypeId} {o : Option Addr} {n cap m : Nat} {xs : List Value} (h : w.ownsRow base e 3 (.slice o m cap) n xs) (hn : 0 < n) : ∃ g, o = some ⟨g, 0, none⟩ ∧ g < w.heap.size := by
  rcases h.2 with ⟨h1, rfl⟩ | ⟨g, cap', cur, hv, _, hg, _⟩
  · omega
  · simp only [Value.slice.injEq] at hv
    exact ⟨g, hv.1, (Array.getElem?_eq_some_iff.1 hg).1⟩
/-- No quiet block; one. -/
def X0 : Nat → Obj → Prop := fun _ _ => False
def X1 (g : Nat) (o : Obj) : Nat → Obj → Prop := fun g' o' => g' = g ∧ o' = o
/-- Two writers (bits, taken, blocks), the row of all bytes, the row of calls, quiet blocks. -/
structure All (obj : World → Value → List Bool → Nat → (Nat → Prop) → Prop) (B : Nat) (X : Nat → Obj → Prop) (w : World) (vw vv : Value) (L1 : List Bool) (t1 : Nat) (O1 : Nat → Prop) (L2 : List Bool) (t2 : Nat) (O2 : Nat → Prop) (av : Value) (zs : List Nat) (lv : Value) (ps : List Put1) : Prop where
  iw : obj w vw L1 t1 O1
  iv : obj w vv L2 t2 O2
  lt1 : ∀ k, O1 k → k < w.heap.size
  lt2 : ∀ k, O2 k → k < w.heap.size
  own1 : ∀ k, O1 k → B ≤ k
  own2 : ∀ k, O2 k → B ≤ k
  dis : ∀ k, O1 k → ¬ O2 k
  all : w.ownsRow B 5 1 av zs.length (zs.map byteVal)
  lst : w.ownsRow B 42 3 lv ps.length (cells3 ps)
  fa : ∀ k, av.ownBlock = some k → ¬ O1 k ∧ ¬ O2 k
  fl : ∀ k, lv.ownBlock = some k → ¬ O1 k ∧ ¬ O2 k ∧ av.ownBlock ≠ some k
  box : ∀ g o, X g o → w.heap[g]? = some o ∧ B ≤ g ∧ ¬ O1 g ∧ ¬ O2 g ∧ av.ownBlock ≠ some g ∧ lv.ownBlock ≠ some g
section
variable {obj isR : World → Value → List Bool → Nat → (Nat → Prop) → Prop} {B : Nat} {X X' : Nat → Obj → Prop} {w w' : World} {vw vv : Value} {L1 L2 L' : List Bool} {t1 t2 t' : Nat} {O1 O2 O' : Nat → Prop} {av av' lv lv' : Value} {zs zs' : List Nat} {ps ps' : List Put1}
theorem All.callW (D : Does obj isR) (h : All obj B X w vw vv L1 t1 O1 L2 t2 O2 av zs lv ps) (hi : obj w' vw L' t' O') (hO : ∀ b, O' b → O1 b ∨ w.heap.size ≤ b) (hp : Past O1 w w') (hB : B ≤ w.heap.size) : All obj B X w' vw vv L' t' O' L2 t2 O2 av zs lv ps := by
  have hno : ∀ k, k < w.heap.size → ¬ O1 k → ¬ O' k := fun k hk hn ho => by
    rcases hO k ho with h1 | h1
    · exact hn h1
    · omega
  refine ⟨hi, D.wkeep _ _ _ _ _ _ h.iv hp.size (fun k hk => hp.block k (h.lt2 k hk) (fun ho => h.dis k ho hk)), D.wlt _ _ _ _ _ hi, fun k hk => Nat.lt_of_lt_of_le (h.lt2 k hk) hp.size, fun k hk => ?_, h.own2, fun k hk ho => ?_,
    ownsRow_hold h.all (fun k hk => hp.block k (h.all.lt k hk).2 (h.fa k hk).1), ownsRow_hold h.lst (fun k hk => hp.block k (h.lst.lt k hk).2 (h.fl k hk).1), fun k hk => ⟨hno k (h.all.lt k hk).2 (h.fa k hk).1, (h.fa k hk).2⟩, fun k hk => ⟨hno k (h.lst.lt k hk).2 (h.fl k hk).1, (h.fl k hk).2⟩, fun g o hx => ?_⟩
  · rcases hO k hk with h1 | h1
    · exact h.own1 k h1
    · omega
  · rcases hO k hk with h1 | h1
    · exact h.dis k h1 ho
    · have := h.lt2 k ho
      omega
  · obtain ⟨b1, b2, b3, b4⟩ := h.box g o hx
    have hlt := (Array.getElem?_eq_some_iff.1 b1).1
    exact ⟨(hp.block g hlt b3).trans b1, b2, hno g hlt b3, b4⟩
theorem All.callV (D : Does obj isR) (h : All obj B X w vw vv L1 t1 O1 L2 t2 O2 av zs lv ps) (hi : obj w' vv L' t' O') (hO : ∀ b, O' b → O2 b ∨ w.heap.size ≤ b) (hp : Past O2 w w') (hB : B ≤ w.heap.size) : All obj B X w' vw vv L1 t1 O1 L' t' O' av zs lv ps := by
  have hno : ∀ k, k < w.heap.size → ¬ O2 k → ¬ O' k := fun k hk hn ho => by
    rcases hO k ho with h1 | h1
    · exact hn h1
    · omega
  refine ⟨D.wkeep _ _ _ _ _ _ h.iw hp.size (fun k hk => hp.block k (h.lt1 k hk) (fun ho => h.dis k hk ho)), hi, fun k hk => Nat.lt_of_lt_of_le (h.lt1 k hk) hp.size, D.wlt _ _ _ _ _ hi, h.own1, fun k hk => ?_, fun k hk ho => ?_,
    ownsRow_hold h.all (fun k hk => hp.block k (h.all.lt k hk).2 (h.fa k hk).2), ownsRow_hold h.lst (fun k hk => hp.block k (h.lst.lt k hk).2 (h.fl k hk).2.1), fun k hk => ⟨(h.fa k hk).1, hno k (h.all.lt k hk).2 (h.fa k hk).2⟩, fun k hk => ⟨(h.fl k hk).1, hno k (h.lst.lt k hk).2 (h.fl k hk).2.1, (h.fl k hk).2.2⟩, fun g o hx => ?_⟩
  · rcases hO k hk with h1 | h1
    · exact h.own2 k h1
    · omega
  · rcases hO k ho with h1 | h1
    · exact h.dis k hk h1
    · have := h.lt1 k hk
      omega
  · obtain ⟨b1, b2, b3, b4, b5⟩ := h.box g o hx
    have hlt := (Array.getElem?_eq_some_iff.1 b1).1
    exact ⟨(hp.block g hlt b4).trans b1, b2, b3, hno g hlt b4, b5⟩
theorem All.below (D : Does obj isR) (h : All obj B X w vw vv L1 t1 O1 L2 t2 O2 av zs lv ps) (hb : Below w.heap.size w w') : All obj B X w' vw vv L1 t1 O1 L2 t2 O2 av zs lv ps :=
  ⟨D.wkeep _ _ _ _ _ _ h.iw hb.size (fun k hk => hb.block k (h.lt1 k hk)), D.wkeep _ _ _ _ _ _ h.iv hb.size (fun k hk => hb.block k (h.lt2 k hk)), fun k hk => Nat.lt_of_lt_of_le (h.lt1 k hk) hb.size, fun k hk => Nat.lt_of_lt_of_le (h.lt2 k hk) hb.size, h.own1, h.own2, h.dis,
    ownsRow_hold h.all (fun k hk => hb.block k (h.all.lt k hk).2), ownsRow_hold h.lst (fun k hk => hb.block k (h.lst.lt k hk).2), h.fa, h.fl, fun g o hx => ⟨(hb.block g (Array.getElem?_eq_some_iff.1 (h.box g o hx).1).1).trans (h.box g o hx).1, (h.box g o hx).2⟩⟩
theorem All.growA (D : Does obj isR) (h : All obj B X w vw vv L1 t1 O1 L2 t2 O2 av zs lv ps) (ho : w'.ownsRow B 5 1 av' zs'.length (zs'.map byteVal)) (hg : w.grownBy w' av.ownBlock) (hw : ∀ k, av'.ownBlock = some k → av.ownBlock = some k ∨ w.heap.size ≤ k) : All obj B X w' vw vv L1 t1 O1 L2 t2 O2 av' zs' lv ps := by
  refine ⟨D.wkeep _ _ _ _ _ _ h.iw hg.size (fun k hk => hg.block k (h.lt1 k hk) (fun e => (h.fa k e.symm).1 hk)), D.wkeep _ _ _ _ _ _ h.iv hg.size (fun k hk => hg.block k (h.lt2 k hk) (fun e => (h.fa k e.symm).2 hk)), fun k hk => Nat.lt_of_lt_of_le (h.lt1 k hk) hg.size, fun k hk => Nat.lt_of_lt_of_le (h.lt2 k hk) hg.size, h.own1, h.own2, h.dis,
    ho, ownsRow_hold h.lst (fun k hk => hg.block k (h.lst.lt k hk).2 (fun e => (h.fl k hk).2.2 e.symm)), fun k hk => ?_, fun k hk => ⟨(h.fl k hk).1, (h.fl k hk).2.1, fun e => ?_⟩, fun g o hx => ?_⟩
  · rcases hw k hk with h1 | h1
    · exact h.fa k h1
    · exact ⟨fun ho => by have := h.lt1 k ho; omega, fun ho => by have := h.lt2 k ho; omega⟩
  · rcases hw k e with h1 | h1
    · exact (h.fl k hk).2.2 h1
    · have := (h.lst.lt k hk).2
      omega
  · obtain ⟨b1, b2, b3, b4, b5, b6⟩ := h.box g o hx
    have hlt := (Array.getElem?_eq_some_iff.1 b1).1
    refine ⟨(hg.block g hlt (fun e => b5 e.symm)).trans b1, b2, b3, b4, fun e => ?_, b6⟩
    rcases hw g e with h1 | h1
    · exact b5 h1
    · omega
theorem All.growL (D : Does obj isR) (h : All obj B X w vw vv L1 t1 O1 L2 t2 O2 av zs lv ps) (ho : w'.ownsRow B 42 3 lv' ps'.length (cells3 ps')) (hg : w.grownBy w' lv.ownBlock) (hw : ∀ k, lv'.ownBlock = some k → lv.ownBlock = some k ∨ w.heap.size ≤ k) : All obj B X w' vw vv L1 t1 O1 L2 t2 O2 av zs lv' ps' := by
  refine ⟨D.wkeep _ _ _ _ _ _ h.iw hg.size (fun k hk => hg.block k (h.lt1 k hk) (fun e => (h.fl k e.symm).1 hk)), D.wkeep _ _ _ _ _ _ h.iv hg.size (fun k hk => hg.block k (h.lt2 k hk) (fun e => (h.fl k e.symm).2.1 hk)), fun k hk => Nat.lt_of_lt_of_le (h.lt1 k hk) hg.size, fun k hk => Nat.lt_of_lt_of_le (h.lt2 k hk) hg.size, h.own1, h.own2, h.dis,
    ownsRow_hold h.all (fun k hk => hg.block k (h.all.lt k hk).2 (fun e => (h.fl k e.symm).2.2 hk)), ho, h.fa, fun k hk => ?_, fun g o hx => ?_⟩
  · rcases hw k hk with h1 | h1
    · exact h.fl k h1
    · exact ⟨fun ho => by have := h.lt1 k ho; omega, fun ho => by have := h.lt2 k ho; omega, fun e => by have := (h.all.lt k e).2; omega⟩
  · obtain ⟨b1, b2, b3, b4, b5, b6⟩ := h.box g o hx
    have hlt := (Array.getElem?_eq_some_iff.1 b1).1
    refine ⟨(hg.block g hlt (fun e => b6 e.symm)).trans b1, b2, b3, b4, b5, fun e => ?_⟩
    rcases hw g e with h1 | h1
    · exact b6 h1
    · omega
theorem All.boxed (D : Does obj isR) (h : All obj B X0 w vw vv L1 t1 O1 L2 t2 O2 av zs lv ps) (hB : B ≤ w.heap.size) (cs : Array Value) (ty : TypeId) : All obj B (X1 w.heap.size (.cells cs ty (0, 0))) (w.alloc (.cells cs ty)) vw vv L1 t1 O1 L2 t2 O2 av zs lv ps := by
  have hb : Below w.heap.size w (w.alloc (.cells cs ty)) := (Below.refl _ _).alloc (Nat.le_refl _) _
  have h' := h.below D hb
  refine { h' with box := fun g o hx => ?_ }
  obtain ⟨rfl, rfl⟩ := hx
  exact ⟨heap_alloc_new w _, hB, fun ho => by have := h.lt1 _ ho; omega, fun ho => by have := h.lt2 _ ho; omega, fun e => by have := (h.all.lt _ e).2; omega, fun e => by have := (h.lst.lt _ e).2; omega⟩
theorem All.set (D : Does obj isR) {g : Nat} {cs : Array Value} {ty : TypeId} (h : All obj B (X1 g (.cells cs ty (0, 0))) w vw vv L1 t1 O1 L2 t2 O2 av zs lv ps) (i : Nat) (x : Value) : All obj B (X1 g (.cells (cs.setIfInBounds i x) ty (0, 0))) (w.setCell ⟨g, i, none⟩ x) vw vv L1 t1 O1 L2 t2 O2 av zs lv ps := by
  obtain ⟨b1, b2, b3, b4, b5, b6⟩ := h.box g _ ⟨rfl, rfl⟩
  have hk : ∀ k, k ≠ g → (w.setCell ⟨g, i, none⟩ x).heap[k]? = w.heap[k]? := fun k hk => Below.heap_setCell _ _ _ k hk
  have hs : (w.setCell ⟨g, i, none⟩ x).heap.size = w.heap.size := by simp
  refine ⟨D.wkeep _ _ _ _ _ _ h.iw (Nat.le_of_eq hs.symm) (fun k ho => hk k (fun e => b3 (e ▸ ho))), D.wkeep _ _ _ _ _ _ h.iv (Nat.le_of_eq hs.symm) (fun k ho => hk k (fun e => b4 (e ▸ ho))), fun k ho => by rw [hs]; exact h.lt1 k ho, fun k ho => by rw [hs]; exact h.lt2 k ho, h.own1, h.own2, h.dis,
    ownsRow_hold h.all (fun k e => hk k (fun e2 => b5 (e2 ▸ e))), ownsRow_hold h.lst (fun k e => hk k (fun e2 => b6 (e2 ▸ e))), h.fa, h.fl, fun g' o hx => ?_⟩
  obtain ⟨rfl, rfl⟩ := hx
  exact ⟨block_setCell b1 _, b2, b3, b4, b5, b6⟩
theorem All.plain (h : All obj B X w vw vv L1 t1 O1 L2 t2 O2 av zs lv ps) : All obj B X0 w vw vv L1 t1 O1 L2 t2 O2 av zs lv ps := { h with box := fun _ _ hx => hx.elim }
end
end Go.Proofs.Ytenaokijjancgaa.Fx
