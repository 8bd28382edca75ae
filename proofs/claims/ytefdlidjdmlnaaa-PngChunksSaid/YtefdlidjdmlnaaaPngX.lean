/-
  An array of four bytes that came in, opened. The condition is that it is of its type.
-/
import Derived.Laws.IdiomArrays
import Derived.Lib.SmallJoins
import Derived.Test.YtefdlidjdmlnaaaNums
namespace Go.Proofs.Ytefdlidjdmlnaaa.Fx
open Go Go.RowKit Go.ChangeShapes Go.WideShapes Go.ChangeAt Go.Deep Go.Joins
set_option linter.unusedVariables false
set_option maxRecDepth 100000
theorem four_cells {cs : Array Value} (h : cs.size = 4) : ∃ a b c d, cs = #[a, b, c, d] := by
  obtain ⟨l⟩ := cs
  match l, h with
  | [a, b, c, d], _ => exact ⟨a, b, c, d, rfl⟩
theorem cells44 : Try.prog.cellsOf 39 = 4 := by kernel_rfl
theorem open_four {H : Type} {enc : TypeId × Value → H} {W : World} {base : Nat} {v : Value} {d : DataW H} {p : List MemPlace} (hval : Value.okWide Try.prog W .any base 39 v)
    (h : DataW.Trod enc Try.prog W 0 (fun _ => true) true 39 v d p) :
    ∃ t0 t1 t2 t3 : Nat, v = .agg #[.int .u8 (t0 : Int), .int .u8 (t1 : Int), .int .u8 (t2 : Int), .int .u8 (t3 : Int)] ∧ t0 ≤ 255 ∧ t1 ≤ 255 ∧ t2 ≤ 255 ∧ t3 ≤ 255 := by
  have hs := Try.underlying39
  obtain ⟨cs, rfl, hsz⟩ : ∃ cs, v = .agg cs ∧ cs.size = Try.prog.cellsOf 39 := by
    simp only [Value.okWide, hs] at hval
    obtain ⟨cs, h1, h2, _⟩ := hval
    exact ⟨cs, h1, h2⟩
  obtain ⟨c0, c1, c2, c3, rfl⟩ := four_cells (hsz.trans cells44)
  obtain ⟨fuel, hf⟩ := h
  obtain ⟨y0, y1, y2, y3, n, hx, h0, h1, h2, h3⟩ := trod_array4 (c0 := c0) (c1 := c1) (c2 := c2) (c3 := c3) hs cells8 (by simpa [Value.cells] using hf)
  obtain ⟨m0, e0, _, w0⟩ := DataW.trod_int Try.underlying5 h0
  obtain ⟨m1, e1, _, w1⟩ := DataW.trod_int Try.underlying5 h1
  obtain ⟨m2, e2, _, w2⟩ := DataW.trod_int Try.underlying5 h2
  obtain ⟨m3, e3, _, w3⟩ := DataW.trod_int Try.underlying5 h3
  simp at e0 e1 e2 e3
  subst e0 e1 e2 e3
  have k0 := byte_wf w0
  have k1 := byte_wf w1
  have k2 := byte_wf w2
  have k3 := byte_wf w3
  obtain ⟨t0, rfl⟩ : ∃ t : Nat, m0 = (t : Int) := ⟨m0.toNat, by omega⟩
  obtain ⟨t1, rfl⟩ : ∃ t : Nat, m1 = (t : Int) := ⟨m1.toNat, by omega⟩
  obtain ⟨t2, rfl⟩ : ∃ t : Nat, m2 = (t : Int) := ⟨m2.toNat, by omega⟩
  obtain ⟨t3, rfl⟩ : ∃ t : Nat, m3 = (t : Int) := ⟨m3.toNat, by omega⟩
  exact ⟨t0, t1, t2, t3, rfl, by omega, by omega, by omega, by omega⟩
end Go.Proofs.Ytefdlidjdmlnaaa.Fx
