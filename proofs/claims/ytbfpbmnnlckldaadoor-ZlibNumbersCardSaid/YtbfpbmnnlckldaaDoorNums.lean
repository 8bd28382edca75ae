/-
  Lists of numbers and of lists of bytes that came in; a call's own row beside what others write. The conditions stand in each.
-/
import Derived.Test.YtbfpbmnnlckldaaDoorBytes
import Derived.Deep.Matrix
namespace Go.Proofs.YtbfpbmnnlckldaaDoor.Fx
open Go Go.RowKit Go.Joins Go.ChangeShapes Go.WideShapes Go.ChangeAt
set_option linter.unusedVariables false
def numVal (n : Int) : Value := .int .i64 n
abbrev numsIn (w : World) (v : Value) (l : List Int) : Prop := listed numVal w v l
theorem cells64 : Tryd.prog.cellsOf 3 = 1 := by kernel_rfl
set_option maxRecDepth 100000 in
theorem open_numbers {H : Type} {enc : TypeId × Value → H} {W : World} {base : Nat} {v : Value} {d : DataW H} {p : List MemPlace} (hval : Value.okWide Tryd.prog W .any base 144 v)
    (h : DataW.Trod enc Tryd.prog W 0 (fun _ => true) true 144 v d p) : ∃ zs, numsIn W v zs ∧ ∀ x ∈ zs, -9223372036854775808 ≤ x ∧ x ≤ 9223372036854775807 := by
  obtain ⟨a1, len, cap, rfl⟩ := okWide_slice Tryd.underlying144 hval
  obtain ⟨fuel, hf⟩ := h
  rcases open_ints Tryd.underlying144 Tryd.underlying3 cells64 hf with ⟨hcs, hx⟩ | ⟨a, len', cap', zs, hcs, _, hl, hm, hz, hx, hcell, hwz⟩
  · simp [Value.cells] at hcs
    obtain ⟨rfl, rfl, rfl⟩ := hcs
    exact ⟨[], .inl ⟨⟨_, _, rfl, fun _ => rfl⟩, rfl⟩, fun b hb => (by cases hb)⟩
  · simp [Value.cells] at hcs
    obtain ⟨rfl, rfl, rfl⟩ := hcs
    simp only [if_true] at hz
    by_cases h0 : len = 0
    · subst h0
      exact ⟨[], .inl ⟨⟨_, _, rfl, fun h => by cases h⟩, rfl⟩, fun b hb => (by cases hb)⟩
    · obtain ⟨ab, ao, spot⟩ := a
      have hspot : spot = none := by simpa [Addr.add] using World.cell?_spot (hcell 0 (by omega))
      subst hspot
      have hlen : (zs.take len).length = len := by rw [List.length_take]; omega
      refine ⟨zs.take len, .inr ⟨ab, ao, cap, by rw [hlen], ?_, by rw [hlen]; omega, fun j z hj => ?_⟩, fun z hz2 => int_wf (hwz z (List.mem_of_mem_take hz2))⟩
      · have := World.block_lt_of_cell? W _ (hcell 0 (by omega))
        rwa [Addr.add_lit] at this
      · have hj1 : j < len := by have := (List.getElem?_eq_some_iff.mp hj).1; omega
        rw [List.getElem?_take, if_pos hj1] at hj
        have hcj := hcell j (by omega)
        rw [Addr.add_lit] at hcj
        rw [hcj]
        simp [numVal, List.getD, hj]
/-! ### Lists of lists of bytes -/
/-- A slice's value that reads as these lists of bytes. -/
def listsIn (W : World) (v : Value) (zss : List (List Nat)) : Prop :=
  ∃ us : List Value, listed (fun u : Value => u) W v us ∧ us.length = zss.length ∧ ∀ (j : Nat) (u : Value) (zs : List Nat), us[j]? = some u → zss[j]? = some zs → bytesIn W u zs
theorem cellsOf_bytes : Tryd.prog.cellsOf 24 = 1 := by kernel_rfl
set_option maxRecDepth 100000 in
theorem open_lists {H : Type} {enc : TypeId × Value → H} {W : World} {base : Nat} {v : Value} {d : DataW H} {p : List MemPlace} (hval : Value.okWide Tryd.prog W .any base 33 v)
    (h : DataW.Trod enc Tryd.prog W 0 (fun _ => true) true 33 v d p) : ∃ zss, listsIn W v zss ∧ ∀ zs ∈ zss, ∀ x ∈ zs, x < 256 := by
  obtain ⟨a1, len, cap, rfl⟩ := okWide_slice Tryd.underlying33 hval
  obtain ⟨fuel, hf⟩ := h
  rcases Go.Deep.open_int_rows Tryd.underlying33 Tryd.underlying24 Tryd.underlying5 cellsOf_bytes cells8 hf with ⟨hcs, hx⟩ | ⟨a, len', cap', A, L, C, Z, hcs, _, hl, hm, hx, hrow⟩
  · simp [Value.cells] at hcs
    obtain ⟨rfl, rfl, rfl⟩ := hcs
    exact ⟨[], ⟨[], .inl ⟨⟨_, _, rfl, fun _ => rfl⟩, rfl⟩, rfl, fun j u zs h => by simp at h⟩, fun b hb => (by cases hb)⟩
  · simp [Value.cells] at hcs
    obtain ⟨rfl, rfl, rfl⟩ := hcs
    by_cases h0 : len = 0
    · subst h0
      exact ⟨[], ⟨[], .inl ⟨⟨_, _, rfl, fun h => by cases h⟩, rfl⟩, rfl, fun j u zs h => by simp at h⟩, fun b hb => (by cases hb)⟩
    · obtain ⟨ab, ao, spot⟩ := a
      have hspot : spot = none := by simpa [Addr.add] using World.cell?_spot (hrow 0 (by omega)).1
      subst hspot
      have each : ∀ r, r < cap → ∃ xs, bytesIn W (.slice (A r) (L r) (C r)) xs ∧ ∀ x ∈ xs, x < 256 := by
        intro r hr
        obtain ⟨_, h2, h3, h4, h5, h6, h7⟩ := hrow r hr
        cases hA : A r with
        | none =>
          have hC := h6 hA
          have hL : L r = 0 := by omega
          rw [hC, hL]
          exact ⟨[], .inl ⟨⟨_, _, rfl, fun _ => rfl⟩, rfl⟩, fun b hb => (by cases hb)⟩
        | some a' => exact bytes_cells (len' := C r) h2 (Nat.le_refl _) h4 (fun j hj => (h7 a' hA).2 j hj) h5
      obtain ⟨f, hf⟩ := Go.Deep.choose_lt each
      have hget : ∀ {β : Type} (g : Nat → β) (j : Nat) (y : β), ((List.range len).map g)[j]? = some y → j < len ∧ g j = y := by
        intro β g j y hj
        rw [List.getElem?_map] at hj
        cases hr : (List.range len)[j]? with
        | none => rw [hr] at hj; cases hj
        | some i =>
          rw [hr] at hj
          obtain ⟨h1, h2⟩ := List.getElem?_eq_some_iff.1 hr
          rw [List.getElem_range] at h2
          subst h2
          exact ⟨by simpa using h1, Option.some.inj hj⟩
      refine ⟨(List.range len).map f, ⟨(List.range len).map fun r => .slice (A r) (L r) (C r), .inr ⟨ab, ao, cap, by simp, ?_, by simpa using hl, fun j z hj => ?_⟩, by simp, fun j u zs h1 h2 => ?_⟩, fun zs hz => ?_⟩
      · have := World.block_lt_of_cell? W _ (hrow 0 (by omega)).1
        rwa [Addr.add_lit] at this
      · obtain ⟨hj1, rfl⟩ := hget _ _ _ hj
        have hcj := (hrow j (by omega)).1
        rw [Addr.add_lit] at hcj
        exact hcj
      · obtain ⟨hj1, rfl⟩ := hget _ _ _ h1
        obtain ⟨_, rfl⟩ := hget _ _ _ h2
        exact (hf j (by omega)).1
      · obtain ⟨r, hr, rfl⟩ := List.mem_map.1 hz
        exact (hf r (by have := List.mem_range.1 hr; omega)).2
/-! ### A row of a call's own -/
theorem owns_kept {w w' : World} {base : Nat} {e : TypeId} {v : Value} {n : Nat} {xs : List Value} (h : w.ownsRow base e 1 v n xs) (hk : ∀ k, v.ownBlock = some k → w'.heap[k]? = w.heap[k]?) : w'.ownsRow base e 1 v n xs := by
  obtain ⟨hl, h⟩ := h
  refine ⟨hl, ?_⟩
  rcases h with h | ⟨g, cap, cur, rfl, hb, hg, hn, hm, hs, ht⟩
  · exact .inl h
  · exact .inr ⟨g, cap, cur, rfl, hb, (hk g rfl).trans hg, hn, hm, hs, ht⟩
theorem own_in {w : World} {base : Nat} {e : TypeId} {v : Value} {n : Nat} {xs : List Value} (h : w.ownsRow base e 1 v n xs) (b : Nat) (hb : inBlock v b) : v.ownBlock = some b := by
  obtain ⟨off, m, cap, rfl, hm⟩ := hb
  rcases h.2 with ⟨h, _⟩ | ⟨g, c, cur, h, _⟩
  · simp at h
  · simp only [Value.slice.injEq, Option.some.injEq, Addr.mk.injEq] at h
    obtain ⟨⟨rfl, rfl, _⟩, _⟩ := h
    rfl
end Go.Proofs.YtbfpbmnnlckldaaDoor.Fx
