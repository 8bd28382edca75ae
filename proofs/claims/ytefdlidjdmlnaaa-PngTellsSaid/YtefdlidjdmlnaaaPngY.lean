/-
  A list of pixels that came in, opened. The condition is that it is of its type.
-/
import Derived.Deep.Slices
import Derived.Test.YtefdlidjdmlnaaaPngX
import Derived.Test.YtefdlidjdmlnaaaPngS
namespace Go.Proofs.Ytefdlidjdmlnaaa.Fx
open Go Go.RowKit Go.ChangeShapes Go.WideShapes Go.ChangeAt Go.Deep Go.Joins
set_option linter.unusedVariables false
set_option maxRecDepth 100000
theorem open_pixels {H : Type} {enc : TypeId × Value → H} {W : World} {base : Nat} {v : Value} {d : DataW H} {p : List MemPlace} (hval : Value.okWide Try.prog W .any base 33 v)
    (h : DataW.Trod enc Try.prog W 0 (fun _ => true) true 33 v d p) : ∃ (n : Nat) (px : Nat → Px), pixIn W v n px ∧ ∀ k, (px k).ok := by
  have hz : Px.ok ⟨0, 0, 0, 0⟩ := by unfold Px.ok; decide
  have hnil : ∀ k : Nat, ((fun _ => ⟨0, 0, 0, 0⟩ : Nat → Px) k).ok := fun _ => hz
  obtain ⟨a1, len, cap, rfl⟩ := okWide_slice Try.underlying33 hval
  obtain ⟨fuel, hf⟩ := h
  rcases Go.Deep.open_slice Try.underlying33 hf with ⟨hcs, hx⟩ | ⟨a, len', cap', m, n, D, Pl, hcs, _, hl, hm, hmm, hx, hrow⟩
  · simp [Value.cells] at hcs
    obtain ⟨rfl, rfl, rfl⟩ := hcs
    exact ⟨0, fun _ => ⟨0, 0, 0, 0⟩, .inl ⟨rfl, _, _, rfl⟩, hnil⟩
  · simp [Value.cells] at hcs
    obtain ⟨rfl, rfl, rfl⟩ := hcs
    by_cases h0 : len = 0
    · subst h0
      exact ⟨0, fun _ => ⟨0, 0, 0, 0⟩, .inl ⟨rfl, _, _, rfl⟩, hnil⟩
    · have hmc : m = cap := by simpa using hmm
      subst hmc
      have each : ∀ i, i < m → ∃ q : Px, q.ok ∧ W.cell? (a.add (i * 4)) = some (.int .u8 (q.a : Int)) ∧ W.cell? (a.add (i * 4 + 1)) = some (.int .u8 (q.b : Int)) ∧ W.cell? (a.add (i * 4 + 2)) = some (.int .u8 (q.c : Int)) ∧ W.cell? (a.add (i * 4 + 3)) = some (.int .u8 (q.d : Int)) := by
        intro i hi
        obtain ⟨cs', h1, h2⟩ := hrow i hi
        rw [cells44] at h1
        obtain ⟨_, hlen, hcell⟩ := World.cells?_some h1
        match cs', hlen with
        | [v0, v1, v2, v3], _ =>
          have e0 := hcell 0 (by omega)
          have e1 := hcell 1 (by omega)
          have e2 := hcell 2 (by omega)
          have e3 := hcell 3 (by omega)
          rw [add_add] at e0 e1 e2 e3
          obtain ⟨y0, y1, y2, y3, _, _, g0, g1, g2, g3⟩ := trod_array4 Try.underlying39 cells8 h2
          obtain ⟨m0, f0, _, w0⟩ := DataW.trod_int Try.underlying5 g0
          obtain ⟨m1, f1, _, w1⟩ := DataW.trod_int Try.underlying5 g1
          obtain ⟨m2, f2, _, w2⟩ := DataW.trod_int Try.underlying5 g2
          obtain ⟨m3, f3, _, w3⟩ := DataW.trod_int Try.underlying5 g3
          simp at f0 f1 f2 f3
          subst f0 f1 f2 f3
          have k0 := byte_wf w0
          have k1 := byte_wf w1
          have k2 := byte_wf w2
          have k3 := byte_wf w3
          obtain ⟨t0, rfl⟩ : ∃ t : Nat, m0 = (t : Int) := ⟨m0.toNat, by omega⟩
          obtain ⟨t1, rfl⟩ : ∃ t : Nat, m1 = (t : Int) := ⟨m1.toNat, by omega⟩
          obtain ⟨t2, rfl⟩ : ∃ t : Nat, m2 = (t : Int) := ⟨m2.toNat, by omega⟩
          obtain ⟨t3, rfl⟩ : ∃ t : Nat, m3 = (t : Int) := ⟨m3.toNat, by omega⟩
          exact ⟨⟨t0, t1, t2, t3⟩, ⟨show t0 < 256 by omega, show t1 < 256 by omega, show t2 < 256 by omega, show t3 < 256 by omega⟩, by simpa using e0, by simpa using e1, by simpa using e2, by simpa using e3⟩
      haveI : Inhabited Px := ⟨⟨0, 0, 0, 0⟩⟩
      obtain ⟨f, hf⟩ := Go.Deep.choose_lt each
      obtain ⟨ab, ao, spot⟩ := a
      have hspot : spot = none := by simpa [Addr.add] using World.cell?_spot (hf 0 (by omega)).2.1
      subst hspot
      have hlt : ab < W.heap.size := by
        have := World.block_lt_of_cell? W _ (hf 0 (by omega)).2.1
        rwa [Addr.add_lit] at this
      refine ⟨len, fun k => if k < m then f k else ⟨0, 0, 0, 0⟩, .inr ⟨ab, ao, m, rfl, hl, hlt, fun i hi => ?_⟩, fun k => ?_⟩
      · obtain ⟨_, c0, c1, c2, c3⟩ := hf i (by omega)
        rw [Addr.add_lit] at c0 c1 c2 c3
        simp only [if_pos (show i < m by omega)]
        exact ⟨c0, c1, c2, c3⟩
      · show (if k < m then f k else ⟨0, 0, 0, 0⟩ : Px).ok
        split
        · next hk => exact (hf k hk).1
        · exact hz
end Go.Proofs.Ytefdlidjdmlnaaa.Fx
