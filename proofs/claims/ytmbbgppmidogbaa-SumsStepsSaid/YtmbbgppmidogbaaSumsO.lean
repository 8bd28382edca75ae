/-
  A list of bytes that came in, opened. The conditions stand in each.
-/
import Derived.OpenShut
import Derived.ProofKit
import Derived.Carry
import Derived.Test.YtmbbgppmidogbaaSumsL
namespace Go.Proofs.Ytmbbgppmidogbaa.Fx
open Go Go.RowKit Go.ChangeShapes Go.WideShapes Go.ChangeAt
set_option linter.unusedVariables false
theorem cells8 : Try.prog.cellsOf 5 = 1 := by kernel_rfl
theorem laid : laidOutB Try.prog = true := by kernel_rfl
theorem byte_wf {n : Int} (h : (Lit.int .u8 n).wf = true) : 0 ≤ n ∧ n ≤ 255 := by
  simp [Lit.wf, IntKind.min, IntKind.max, IntKind.bits, IntKind.signed] at h
  omega
theorem word_wf {n : Int} (h : (Lit.int .u32 n).wf = true) : ∃ m : Nat, n = (m : Int) ∧ m ≤ 4294967295 := by
  simp [Lit.wf, IntKind.min, IntKind.max, IntKind.bits, IntKind.signed] at h
  exact ⟨n.toNat, by omega, by omega⟩
theorem int_wf {n : Int} (h : (Lit.int .i64 n).wf = true) : -9223372036854775808 ≤ n ∧ n ≤ 9223372036854775807 := by
  simp [Lit.wf, IntKind.min, IntKind.max, IntKind.bits, IntKind.signed] at h
  omega
theorem open_bytes {H : Type} {enc : TypeId × Value → H} {W : World} {base : Nat} {v : Value} {d : DataW H} {p : List MemPlace} (hval : Value.okWide Try.prog W .any base 22 v)
    (h : DataW.Trod enc Try.prog W 0 (fun _ => true) true 22 v d p) :
    ∃ zs, reads W v zs ∧ bytes zs ∧ ∀ b off len cap, v = .slice (some ⟨b, off, none⟩) len cap → len ≤ cap := by
  obtain ⟨a1, len, cap, rfl⟩ := okWide_slice Try.underlying22 hval
  obtain ⟨fuel, hf⟩ := h
  rcases open_ints Try.underlying22 Try.underlying5 cells8 hf with ⟨hcs, hx⟩ | ⟨a, len', cap', zs, hcs, _, hl, hm, hz, hx, hcell, hwz⟩
  · simp [Value.cells] at hcs
    obtain ⟨rfl, rfl, rfl⟩ := hcs
    exact ⟨[], .inl ⟨⟨_, _, rfl, fun _ => rfl⟩, rfl⟩, fun b hb => (by cases hb), fun b off len cap h => by simp at h⟩
  · simp [Value.cells] at hcs
    obtain ⟨rfl, rfl, rfl⟩ := hcs
    simp only [if_true] at hz
    have hle : ∀ b off len1 cap1, Value.slice (some a) len cap = .slice (some ⟨b, off, none⟩) len1 cap1 → len1 ≤ cap1 := fun b off len1 cap1 h => by
      simp only [Value.slice.injEq] at h
      omega
    by_cases h0 : len = 0
    · subst h0
      exact ⟨[], .inl ⟨⟨_, _, rfl, fun h => by cases h⟩, rfl⟩, fun b hb => (by cases hb), hle⟩
    · obtain ⟨ab, ao, spot⟩ := a
      have hspot : spot = none := by simpa [Addr.add] using World.cell?_spot (hcell 0 (by omega))
      subst hspot
      have hlen : ((zs.take len).map Int.toNat).length = len := by simp; omega
      have hget : ∀ j, j < len → (((zs.take len).map Int.toNat).getD j 0 : Int) = zs.getD j 0 ∧ ((zs.take len).map Int.toNat).getD j 0 < 256 := by
        intro j hj
        have hj2 : j < zs.length := by omega
        have e : zs.getD j 0 = zs[j] := by simp [List.getD, hj2]
        have hw := byte_wf (hwz _ (List.getElem_mem hj2))
        have e2 : ((zs.take len).map Int.toNat).getD j 0 = (zs[j]).toNat := by simp [List.getD, hj, hj2]
        rw [e, e2]
        omega
      refine ⟨(zs.take len).map Int.toNat, .inr ⟨ab, ao, cap, by rw [hlen], by rw [hlen]; omega, ?_, fun j hj => ?_⟩, fun b hb => ?_, hle⟩
      · have := World.block_lt_of_cell? W _ (hcell 0 (by omega))
        rwa [Addr.add_lit] at this
      · rw [hlen] at hj
        have hcj := hcell j (by omega)
        rw [Addr.add_lit] at hcj
        rw [hcj, (hget j hj).1]
      · obtain ⟨j, hj, rfl⟩ := List.getElem_of_mem hb
        have hj2 : j < len := by rw [hlen] at hj; exact hj
        have := (hget j hj2).2
        rw [List.getD_eq_getElem?_getD, List.getElem?_eq_getElem hj, Option.getD_some] at this
        exact this
end Go.Proofs.Ytmbbgppmidogbaa.Fx
