/-
  Bytes of a call's own: written, and others behind them. The conditions stand in each.
-/
import Derived.Test.YtmbbgppmidogbaaSumsA
import Derived.Laws.AppendOwnNone
import Derived.Deep.RegionHeld3
namespace Go.Proofs.Ytmbbgppmidogbaa.Fx
open Go Go.RowKit Go.Joins
set_option linter.unusedVariables false
def rowIs (w : World) (g : Nat) (zs : List Nat) : Prop := ∃ cur, w.heap[g]? = some (.cells cur 5 (0, 0)) ∧ zs.length ≤ cur.size ∧ cur.toList.take zs.length = cells zs
theorem row_of_own {w : World} {base n : Nat} {v : Value} {zs : List Nat} (h : w.ownsRow base 5 1 v n (cells zs)) (hn : 0 < n) : ∃ g cap, v = .slice (some ⟨g, 0, none⟩) n cap ∧ base ≤ g ∧ n ≤ cap ∧ zs.length = n ∧ g < w.heap.size ∧ rowIs w g zs := by
  have hl := h.1
  rw [cells_length, Nat.mul_one] at hl
  rcases h.2 with ⟨_, h0⟩ | ⟨g, cap, cur, rfl, hb, hg, hc, hm, hs, ht⟩
  · omega
  · rw [Nat.mul_one] at hs ht
    exact ⟨g, cap, rfl, hb, hc, hl, (Array.getElem?_eq_some_iff.1 hg).1, cur, hg, by omega, by rw [hl]; exact ht⟩
theorem rowIs.cell {w : World} {g : Nat} {zs : List Nat} (h : rowIs w g zs) (j : Nat) (hj : j < zs.length) : w.cell? ⟨g, j, none⟩ = some (.int .u8 (zs.getD j 0 : Nat)) := by
  obtain ⟨cur, hg, hs, ht⟩ := h
  rw [cell_of_block hg]
  have h1 := cells_get zs j hj
  rw [← ht, List.getElem?_take, if_pos hj] at h1
  rw [← Array.getElem?_toList]
  exact h1
theorem rowIs.unfrozen {w : World} {g : Nat} {zs : List Nat} (h : rowIs w g zs) (j : Nat) : w.frozen? ⟨g, j, none⟩ = false := by
  obtain ⟨cur, hg, _⟩ := h
  exact unfrozen_of_block hg j
theorem rowIs.set {w : World} {g : Nat} {zs : List Nat} (h : rowIs w g zs) (j v : Nat) : rowIs (w.setCell ⟨g, j, none⟩ (.int .u8 (v : Int))) g (zs.set j v) := by
  obtain ⟨cur, hg, hs, ht⟩ := h
  refine ⟨_, block_setCell hg _, by rw [List.length_set, Array.size_setIfInBounds]; exact hs, ?_⟩
  rw [List.length_set, Array.toList_setIfInBounds, List.take_set, ht]
  unfold cells
  rw [List.map_set]
theorem rowIs.kept {B : Nat} {w w' : World} {g : Nat} {zs : List Nat} (h : rowIs w g zs) (hb : Below B w w') (hg : g < B) : rowIs w' g zs := by
  obtain ⟨cur, h1, h2⟩ := h
  exact ⟨cur, (hb.block g hg).trans h1, h2⟩
theorem rowIs.lt {w : World} {g : Nat} {zs : List Nat} (h : rowIs w g zs) : g < w.heap.size := by
  obtain ⟨cur, h1, _⟩ := h
  exact (Array.getElem?_eq_some_iff.1 h1).1
theorem rowIs.reads {w : World} {g n cap : Nat} {zs : List Nat} (h : rowIs w g zs) (hn : zs.length = n) (hle : n ≤ cap) : reads w (.slice (some ⟨g, 0, none⟩) n cap) zs := by
  subst hn
  exact .inr ⟨g, 0, cap, rfl, hle, h.lt, fun j hj => by rw [Nat.zero_add]; exact h.cell j hj⟩
theorem wpList_append_reads {w : World} {ops : Array Oper} {rest : List Oper} {o : Oper} {a : Act} {Q : Exit → Act → World → Prop} (hgd : o.guard = none) (s x : Operand)
    (ho : o.op = .call { callee := .builtin .append, args := #[s, x], argTypes := #[22, 22] })
    (base : Nat) (v : Value) (n : Nat) (xs : List Nat) (hs : a.eval s = v) (hown : w.ownsRow base 5 1 v n (cells xs)) (u : Value) (zs : List Nat) (hx : a.eval x = u) (hr : reads w u zs)
    (hlen : n + zs.length ≤ 140737488355328) (hbase : base ≤ w.heap.size)
    (h : ∀ v' w', w'.ownsRow base 5 1 v' (n + zs.length) (cells (xs ++ zs)) → w.grownBy w' v.ownBlock → wpList Try.prog ops Q rest (a.put o.dst v') w') : wpList Try.prog ops Q (o :: rest) a w := by
  obtain ⟨i0, hi, hz0, hz1, hz2⟩ := info_parts info8
  have happ : cells (xs ++ zs) = cells xs ++ cells zs := by
    unfold cells
    rw [List.map_append]
  rcases hr with ⟨⟨q, cap, rfl, hq⟩, rfl⟩ | ⟨b, off, cap, rfl, hle, hlt, hc⟩
  · rw [List.append_nil, List.length_nil, Nat.add_zero] at h
    cases q with
    | none =>
      obtain rfl : cap = 0 := hq rfl
      exact wpList_append_own_none hgd s x 22 ho base 5 i0 1 Try.underlying22 hi v n (cells xs) hs hown hx (h v w hown ⟨rfl, rfl, rfl, Nat.le_refl _, fun _ _ _ => rfl⟩)
    | some ad =>
      refine wpList_append_own w hgd s x 22 ho base 5 i0 (.int .u8 0) 1 1 Try.underlying22 hi hz0 hz1 hz2 rfl (by decide) v n (cells xs) hs hown ad 0 cap [] hx rfl (fun j u hj => by simp at hj) (fun u hu => by cases hu) (by unfold maxLen; simp at hlen; omega) (by simp at hlen; omega) hbase ?_
      intro v' w' h1 h2 _
      rw [List.append_nil] at h1
      exact h v' w' h1 h2
  · rw [happ] at h
    refine wpList_append_own w hgd s x 22 ho base 5 i0 (.int .u8 0) 1 1 Try.underlying22 hi hz0 hz1 hz2 rfl (by decide) v n (cells xs) hs hown ⟨b, off, none⟩ zs.length cap (cells zs) hx (by rw [cells_length, Nat.mul_one]) (fun j u hj => ?_) (fun u hu => ?_) (by unfold maxLen; omega) (by omega) hbase ?_
    · have hjl : j < zs.length := by
        rcases Nat.lt_or_ge j zs.length with h | h
        · exact h
        · rw [List.getElem?_eq_none (by rw [cells_length]; exact h)] at hj
          cases hj
      rw [cells_get zs j hjl] at hj
      obtain rfl := Option.some.inj hj
      rw [Addr.add_lit]
      exact hc j hjl
    · obtain ⟨n, _, rfl⟩ := List.mem_map.mp hu
      rfl
    · intro v' w' h1 h2 _
      exact h v' w' h1 h2
end Go.Proofs.Ytmbbgppmidogbaa.Fx
