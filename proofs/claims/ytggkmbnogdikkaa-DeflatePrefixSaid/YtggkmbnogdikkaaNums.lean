/-
  Lists of numbers and of lists of bytes that came in; a call's own row beside what others write. The conditions stand in each.
-/
import Derived.Test.YtggkmbnogdikkaaBytes
import Derived.Deep.Matrix
namespace Go.Proofs.Ytggkmbnogdikkaa.Fx
open Go Go.RowKit Go.Joins Go.ChangeShapes Go.WideShapes Go.ChangeAt
set_option linter.unusedVariables false
def numVal (n : Int) : Value := .int .i64 n
abbrev numsIn (w : World) (v : Value) (l : List Int) : Prop := listed numVal w v l
theorem cells64 : Try.prog.cellsOf 3 = 1 := by kernel_rfl
set_option maxRecDepth 100000 in
theorem open_numbers {H : Type} {enc : TypeId × Value → H} {W : World} {base : Nat} {v : Value} {d : DataW H} {p : List MemPlace} (hval : Value.okWide Try.prog W .any base 27 v)
    (h : DataW.Trod enc Try.prog W 0 (fun _ => true) true 27 v d p) : ∃ zs, numsIn W v zs ∧ ∀ x ∈ zs, -9223372036854775808 ≤ x ∧ x ≤ 9223372036854775807 := by
  obtain ⟨a1, len, cap, rfl⟩ := okWide_slice Try.underlying27 hval
  obtain ⟨fuel, hf⟩ := h
  rcases open_ints Try.underlying27 Try.underlying3 cells64 hf with ⟨hcs, hx⟩ | ⟨a, len', cap', zs, hcs, _, hl, hm, hz, hx, hcell, hwz⟩
  · simp [Value.cells] at hcs
    obtain ⟨rfl, rfl, rfl⟩ := hcs
    exact ⟨[], .inl ⟨⟨_, _, rfl, fun _ => rfl⟩, rfl⟩, fun b hb => (by cases hb)⟩
  · simp [Value.cells] at hcs
    obtain ⟨rfl, rfl, rfl⟩ := hcs
    simp only [if_true] at hz
    by_cases h0 : len = 0
    · subst h0
      exact ⟨[], .inl ⟨⟨_, _, rfl, fun h => by cases h⟩, rfl⟩, fun b hb => (by cases hb)⟩
    · obtain ⟨ab, ao, spot⟩ := a
      have hspot : spot = none := by simpa [Addr.add] using World.cell?_spot (hcell 0 (by omega))
      subst hspot
      have hlen : (zs.take len).length = len := by rw [List.length_take]; omega
      refine ⟨zs.take len, .inr ⟨ab, ao, cap, by rw [hlen], ?_, by rw [hlen]; omega, fun j z hj => ?_⟩, fun z hz2 => int_wf (hwz z (List.mem_of_mem_take hz2))⟩
      · have := World.block_lt_of_cell? W _ (hcell 0 (by omega))
        rwa [Addr.add_lit] at this
      · have hj1 : j < len := by have := (List.getElem?_eq_some_iff.mp hj).1; omega
        rw [List.getElem?_take, if_pos hj1] at hj
        have hcj := hcell j (by omega)
        rw [Addr.add_lit] at hcj
        rw [hcj]
        simp [numVal, List.getD, hj]
/-! ### A row of a call's own -/
theorem owns_kept {w w' : World} {base : Nat} {e : TypeId} {v : Value} {n : Nat} {xs : List Value} (h : w.ownsRow base e 1 v n xs) (hk : ∀ k, v.ownBlock = some k → w'.heap[k]? = w.heap[k]?) : w'.ownsRow base e 1 v n xs := by
  obtain ⟨hl, h⟩ := h
  refine ⟨hl, ?_⟩
  rcases h with h | ⟨g, cap, cur, rfl, hb, hg, hn, hm, hs, ht⟩
  · exact .inl h
  · exact .inr ⟨g, cap, cur, rfl, hb, (hk g rfl).trans hg, hn, hm, hs, ht⟩
theorem own_in {w : World} {base : Nat} {e : TypeId} {v : Value} {n : Nat} {xs : List Value} (h : w.ownsRow base e 1 v n xs) (b : Nat) (hb : inBlock v b) : v.ownBlock = some b := by
  obtain ⟨off, m, cap, rfl, hm⟩ := hb
  rcases h.2 with ⟨h, _⟩ | ⟨g, c, cur, h, _⟩
  · simp at h
  · simp only [Value.slice.injEq, Option.some.injEq, Addr.mk.injEq] at h
    obtain ⟨⟨rfl, rfl, _⟩, _⟩ := h
    rfl
end Go.Proofs.Ytggkmbnogdikkaa.Fx
