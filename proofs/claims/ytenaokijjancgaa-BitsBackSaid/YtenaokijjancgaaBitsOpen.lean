/-
  Lists of bytes, scripts of calls that came in, opened. The conditions stand in each.
-/
import Derived.OpenShut
import Derived.ProofKit
import Derived.Carry
import Derived.Deep.Slices
import Derived.Deep.Fields
import Derived.Test.YtenaokijjancgaaBitsOps
namespace Go.Proofs.Ytenaokijjancgaa.Fx
open Go Go.RowKit Go.ChangeShapes Go.WideShapes Go.ChangeAt Go.Deep
set_option linter.unusedVariables false
theorem cells8 : Try.prog.cellsOf 5 = 1 := by kernel_rfl
theorem laid : laidOutB Try.prog = true := by kernel_rfl
theorem byte_wf {n : Int} (h : (Lit.int .u8 n).wf = true) : 0 ≤ n ∧ n ≤ 255 := by
  simp [Lit.wf, IntKind.min, IntKind.max, IntKind.bits, IntKind.signed] at h
  omega
theorem word_wf {n : Int} (h : (Lit.int .u32 n).wf = true) : ∃ m : Nat, n = (m : Int) ∧ m ≤ 4294967295 := by
  simp [Lit.wf, IntKind.min, IntKind.max, IntKind.bits, IntKind.signed] at h
  exact ⟨n.toNat, by omega, by omega⟩
theorem int_wf {n : Int} (h : (Lit.int .i64 n).wf = true) : -9223372036854775808 ≤ n ∧ n ≤ 9223372036854775807 := by
  simp [Lit.wf, IntKind.min, IntKind.max, IntKind.bits, IntKind.signed] at h
  omega
theorem open_bytes {H : Type} {enc : TypeId × Value → H} {W : World} {base : Nat} {v : Value} {d : DataW H} {p : List MemPlace} (hval : Value.okWide Try.prog W .any base 28 v)
    (h : DataW.Trod enc Try.prog W 0 (fun _ => true) true 28 v d p) : ∃ zs, bytesIn W v zs ∧ ∀ x ∈ zs, x < 256 := by
  obtain ⟨a1, len, cap, rfl⟩ := okWide_slice Try.underlying28 hval
  obtain ⟨fuel, hf⟩ := h
  rcases open_ints Try.underlying28 Try.underlying5 cells8 hf with ⟨hcs, hx⟩ | ⟨a, len', cap', zs, hcs, _, hl, hm, hz, hx, hcell, hwz⟩
  · simp [Value.cells] at hcs
    obtain ⟨rfl, rfl, rfl⟩ := hcs
    exact ⟨[], .inl ⟨⟨_, _, rfl, fun _ => rfl⟩, rfl⟩, fun b hb => (by cases hb)⟩
  · simp [Value.cells] at hcs
    obtain ⟨rfl, rfl, rfl⟩ := hcs
    simp only [if_true] at hz
    by_cases h0 : len = 0
    · subst h0
      exact ⟨[], .inl ⟨⟨_, _, rfl, fun h => by cases h⟩, rfl⟩, fun b hb => (by cases hb)⟩
    · obtain ⟨ab, ao, spot⟩ := a
      have hspot : spot = none := by simpa [Addr.add] using World.cell?_spot (hcell 0 (by omega))
      subst hspot
      have hlen : ((zs.take len).map Int.toNat).length = len := by simp; omega
      have hget : ∀ (j z : Nat), ((zs.take len).map Int.toNat)[j]? = some z → j < len ∧ zs.getD j 0 = (z : Int) ∧ z < 256 := by
        intro j z hj
        have hj1 : j < len := by have := (List.getElem?_eq_some_iff.mp hj).1; omega
        have hj2 : j < zs.length := by omega
        have e : zs.getD j 0 = zs[j] := by simp [List.getD, hj2]
        have hw := byte_wf (hwz _ (List.getElem_mem hj2))
        rw [List.getElem?_map, List.getElem?_take, if_pos hj1, List.getElem?_eq_getElem hj2, Option.map_some] at hj
        obtain rfl := Option.some.inj hj
        rw [e]
        exact ⟨hj1, by omega, by omega⟩
      refine ⟨(zs.take len).map Int.toNat, .inr ⟨ab, ao, cap, by rw [hlen], ?_, by rw [hlen]; omega, fun j z hj => ?_⟩, fun z hz2 => ?_⟩
      · have := World.block_lt_of_cell? W _ (hcell 0 (by omega))
        rwa [Addr.add_lit] at this
      · obtain ⟨h1, h2, h3⟩ := hget j z hj
        have hcj := hcell j (by omega)
        rw [Addr.add_lit, h2] at hcj
        exact hcj
      · obtain ⟨j, hj, rfl⟩ := List.getElem_of_mem hz2
        exact (hget j _ (List.getElem?_eq_getElem hj)).2.2
theorem list_of {α : Type} {P : Nat → α → Prop} (n : Nat) (h : ∀ i, i < n → ∃ c, P i c) : ∃ cs : List α, cs.length = n ∧ ∀ i c, cs[i]? = some c → P i c := by
  induction n with
  | zero => exact ⟨[], rfl, fun i c hi => by simp at hi⟩
  | succ n ih =>
    obtain ⟨cs, hl, hc⟩ := ih (fun i hi => h i (by omega))
    obtain ⟨c, hn⟩ := h n (by omega)
    refine ⟨cs ++ [c], by simp [hl], fun i x hi => ?_⟩
    rcases Nat.lt_or_ge i n with h1 | h1
    · rw [List.getElem?_append_left (by omega)] at hi
      exact hc i x hi
    · have h2 := (List.getElem?_eq_some_iff.mp hi).1
      obtain rfl : i = n := by simp [hl] at h2; omega
      rw [List.getElem?_append_right (by omega), hl, Nat.sub_self] at hi
      obtain rfl := Option.some.inj hi
      exact hn
theorem cellsOp : Try.prog.cellsOf 42 = 3 := by kernel_rfl
theorem cellsI : Try.prog.cellsOf 3 = 1 := by kernel_rfl
theorem cellsU : Try.prog.cellsOf 26 = 1 := by kernel_rfl
theorem open_script {H : Type} {enc : TypeId × Value → H} {W : World} {base : Nat} {v : Value} {d : DataW H} {p : List MemPlace} (hval : Value.okWide Try.prog W .any base 37 v)
    (h : DataW.Trod enc Try.prog W 0 (fun _ => true) true 37 v d p) : ∃ cs, scriptIn W v cs ∧ ∀ c ∈ cs, c.ok := by
  obtain ⟨a1, len, cap, rfl⟩ := okWide_slice Try.underlying37 hval
  obtain ⟨fuel, hf⟩ := h
  rcases open_slice Try.underlying37 hf with ⟨hcs, hx⟩ | ⟨a, len', cap', m, n, D, Pl, hcs, _, hl, hm, hmm, hx, hi⟩
  · simp [Value.cells] at hcs
    obtain ⟨rfl, rfl, rfl⟩ := hcs
    exact ⟨[], .inl ⟨⟨_, _, rfl⟩, rfl⟩, fun b hb => (by cases hb)⟩
  · simp [Value.cells] at hcs
    obtain ⟨rfl, rfl, rfl⟩ := hcs
    simp only [if_true] at hmm
    by_cases h0 : len = 0
    · subst h0
      exact ⟨[], .inl ⟨⟨_, _, rfl⟩, rfl⟩, fun b hb => (by cases hb)⟩
    · have each : ∀ i, i < len → ∃ c : Call, c.ok ∧ W.cell? (a.add (i * 3)) = some (.int .i64 c.kind) ∧ W.cell? ((a.add (i * 3)).add 1) = some (.int .u32 (c.n : Int)) ∧ W.cell? ((a.add (i * 3)).add 2) = some (.int .i64 c.k) := by
        intro i him
        obtain ⟨cs', hc, ht'⟩ := hi i (by omega)
        rw [cellsOp] at hc
        obtain ⟨_, hcl, hat⟩ := World.cells?_some hc
        obtain ⟨ys, n', _, _, _, hyl, hfd⟩ := DataW.trod_struct Try.underlying42 ht'
        match cs', hcl with
        | [x0, x1, x2], _ =>
          have g0 := hfd 0 _ rfl
          have g1 := hfd 1 _ rfl
          have g2 := hfd 2 _ rfl
          have l0 : ys[0]? = some (ys[0]'(by rw [hyl]; decide)) := List.getElem?_eq_getElem _
          have l1 : ys[1]? = some (ys[1]'(by rw [hyl]; decide)) := List.getElem?_eq_getElem _
          have l2 : ys[2]? = some (ys[2]'(by rw [hyl]; decide)) := List.getElem?_eq_getElem _
          obtain ⟨k0, e0, _, w0⟩ := DataW.trod_int Try.underlying3 (g0.trans l0)
          obtain ⟨k1, e1, _, w1⟩ := DataW.trod_int Try.underlying26 (g1.trans l1)
          obtain ⟨k2, e2, _, w2⟩ := DataW.trod_int Try.underlying3 (g2.trans l2)
          have f0 : List.take (Try.prog.cellsOf 3) (List.drop 0 [x0, x1, x2]) = [.int .i64 k0] := e0
          have f1 : List.take (Try.prog.cellsOf 26) (List.drop 1 [x0, x1, x2]) = [.int .u32 k1] := e1
          have f2 : List.take (Try.prog.cellsOf 3) (List.drop 2 [x0, x1, x2]) = [.int .i64 k2] := e2
          clear e0 e1 e2 g0 g1 g2 hfd
          rw [cellsI] at f0 f2
          rw [cellsU] at f1
          simp at f0 f1 f2
          subst f0 f1 f2
          obtain ⟨m1, rfl, b1⟩ := word_wf w1
          refine ⟨⟨k0, m1, k2⟩, ⟨int_wf w0, b1, int_wf w2⟩, ?_, hat 1 (by omega), hat 2 (by omega)⟩
          have := hat 0 (by omega)
          simpa [Addr.add] using this
      obtain ⟨ab, ao, spot⟩ := a
      have hspot : spot = none := by
        obtain ⟨c, _, h1, _⟩ := each 0 (by omega)
        simpa [Addr.add] using World.cell?_spot h1
      subst hspot
      obtain ⟨cs, hcl, hcc⟩ := list_of len each
      refine ⟨cs, .inr ⟨ab, ao, cap, by rw [hcl], by omega, ?_, fun i c hic => ?_⟩, fun c hc => ?_⟩
      · obtain ⟨c, _, h1, _⟩ := each 0 (by omega)
        have := World.block_lt_of_cell? W _ h1
        rwa [Addr.add_lit] at this
      · obtain ⟨_, h1, h2, h3⟩ := hcc i c hic
        rw [Addr.add_lit] at h1
        rw [Addr.add_lit, Addr.add_lit] at h2 h3
        exact ⟨h1, h2, h3⟩
      · obtain ⟨j, hj, rfl⟩ := List.getElem_of_mem hc
        exact (hcc j _ (List.getElem?_eq_getElem hj)).1
end Go.Proofs.Ytenaokijjancgaa.Fx
