/-
  Reader's Get, as landed. The conditions stand in each.
-/
import Derived.Test.YtggkmbnogdikkaaBitsCa
namespace Go.Proofs.Ytggkmbnogdikkaa.Fx
open Go Go.RowKit Go.Joins
set_option linter.unusedVariables false
theorem numAt_add (l : List Bool) (t j m : Nat) (h : t + j ≤ l.length) : numAt l t (j + m) = numAt l t j + 2 ^ j * numAt l (t + j) m := by
  unfold numAt
  rw [List.take_add, numOf_append, List.length_take, List.length_drop, Nat.min_eq_left (by omega), List.drop_drop]
theorem bitsOf_take (n k j : Nat) (h : j ≤ k) : (bitsOf n k).take j = bitsOf n j := by
  obtain ⟨d, rfl⟩ : ∃ d, k = j + d := ⟨k - j, by omega⟩
  rw [bitsOf_add, List.take_left' (bitsOf_length n j)]
theorem bitsOf_drop (n k j : Nat) (h : j ≤ k) : (bitsOf n k).drop j = bitsOf (n / 2 ^ j) (k - j) := by
  obtain ⟨d, rfl⟩ : ∃ d, k = j + d := ⟨k - j, by omega⟩
  rw [bitsOf_add, List.drop_left' (bitsOf_length n j), Nat.add_sub_cancel_left]
theorem bitsOfBytes_drop (zs : List Nat) (q : Nat) : (bitsOfBytes zs).drop (8 * q) = bitsOfBytes (zs.drop q) := by
  induction q generalizing zs with
  | zero => simp
  | succ q ih =>
    cases zs with
    | nil => simp [bitsOfBytes]
    | cons z zs =>
      have e : bitsOfBytes (z :: zs) = bitsOf z 8 ++ bitsOfBytes zs := by
        unfold bitsOfBytes
        rw [List.flatMap_cons]
      rw [e, show 8 * (q + 1) = 8 + 8 * q by omega, ← List.drop_drop, List.drop_left' (bitsOf_length z 8), ih, List.drop_succ_cons]
theorem numAt_byte (zs : List Nat) (q a m z : Nat) (hz : zs[q]? = some z) (ha : a + m ≤ 8) : numAt (bitsOfBytes zs) (8 * q + a) m = z / 2 ^ a % 2 ^ m := by
  have hq : q < zs.length := (List.getElem?_eq_some_iff.mp hz).1
  have he : zs[q] = z := (List.getElem?_eq_some_iff.mp hz).2
  have e : bitsOfBytes (zs.drop q) = bitsOf z 8 ++ bitsOfBytes (zs.drop (q + 1)) := by
    rw [List.drop_eq_getElem_cons hq, he]
    unfold bitsOfBytes
    rw [List.flatMap_cons]
  unfold numAt
  rw [← List.drop_drop, bitsOfBytes_drop, e, List.drop_append_of_le_length (by rw [bitsOf_length]; omega), bitsOf_drop _ _ _ (by omega), List.take_append_of_le_length (by rw [bitsOf_length]; omega), bitsOf_take _ _ _ (by omega), numOf_bitsOf]
theorem pow8 (m : Nat) (h : m ≤ 8) : 2 ^ m ≤ 256 := by
  have := Nat.pow_le_pow_right (n := 2) (by decide) h
  omega
theorem pow_int (m : Nat) : (2 : Int) ^ m = ((2 ^ m : Nat) : Int) := by
  rw [Int.natCast_pow]
  rfl
theorem mask8 (m : Nat) (h1 : 0 < m) (h : m ≤ 8) : ∃ b : Nat, IntKind.u8.wrap ((2 : Int) ^ m) = (b : Int) ∧ b < 256 ∧ IntKind.u8.wrap ((b : Int) - 1) = ((2 ^ m - 1 : Nat) : Int) := by
  have : m = 1 ∨ m = 2 ∨ m = 3 ∨ m = 4 ∨ m = 5 ∨ m = 6 ∨ m = 7 ∨ m = 8 := by omega
  rcases this with rfl | rfl | rfl | rfl | rfl | rfl | rfl | rfl
  · exact ⟨2, by decide, by decide, by decide⟩
  · exact ⟨4, by decide, by decide, by decide⟩
  · exact ⟨8, by decide, by decide, by decide⟩
  · exact ⟨16, by decide, by decide, by decide⟩
  · exact ⟨32, by decide, by decide, by decide⟩
  · exact ⟨64, by decide, by decide, by decide⟩
  · exact ⟨128, by decide, by decide, by decide⟩
  · exact ⟨0, by decide, by decide, by decide⟩
theorem shr_nat (z a : Nat) : (z : Int) / (2 : Int) ^ a = ((z / 2 ^ a : Nat) : Int) := by
  rw [pow_int, Int.natCast_ediv]
theorem and_mask8 (y m : Nat) (hy : y < 256) (hm : m ≤ 8) : bits .and .u8 (y : Int) ((2 ^ m - 1 : Nat) : Int) = ((y % 2 ^ m : Nat) : Int) := by
  have := pow8 m hm
  rw [u8_and_nat y _ hy (by omega), Nat.and_two_pow_sub_one_eq_mod]
/-- Lower bits and higher ones: joined by 'or'. -/
theorem or_join32 (n x j k : Nat) (hn : n < 2 ^ j) (hx : x < 2 ^ (k - j)) (hj : j ≤ k) (hk : k ≤ 32) : ∃ X : Nat, IntKind.u32.wrap ((x : Int) * (2 : Int) ^ j) = (X : Int) ∧ X ≤ 4294967295 ∧ bits .or .u32 (n : Int) (X : Int) = ((n + 2 ^ j * x : Nat) : Int) := by
  have e : 2 ^ k = 2 ^ j * 2 ^ (k - j) := by rw [← Nat.pow_add]; congr 1; omega
  have h1 : 2 ^ j * x + 2 ^ j ≤ 2 ^ k := by
    rw [e, ← Nat.mul_succ]
    exact Nat.mul_le_mul_left _ hx
  have h2 := pow_le k hk
  have h3 : 0 < 2 ^ j := Nat.pow_pos (by decide)
  refine ⟨2 ^ j * x, ?_, by omega, ?_⟩
  · rw [pow_int, IntKind.wrap_u32']
    have : (x : Int) * ((2 ^ j : Nat) : Int) = ((2 ^ j * x : Nat) : Int) := by rw [← Int.natCast_mul, Nat.mul_comm]
    rw [this]
    omega
  · rw [u32_or_nat n _ (by omega) (by omega), Nat.or_comm, nat_join j _ _ (Nat.mul_mod_right _ _) hn, Nat.add_comm]
/-- A world in which the line's place alone is another one. -/
structure Moved (w wr : World) (g' : Nat) (s : Value) (p : Nat) : Prop where
  os : wr.os = w.os
  tape : wr.tape = w.tape
  output : wr.output = w.output
  size : wr.heap.size = w.heap.size
  same : ∀ k, k ≠ g' → wr.heap[k]? = w.heap[k]?
  line : wr.heap[g']? = some (.cells #[s, .int .i64 (p : Int)] 97 (0, 0))
theorem Moved.past {w wr : World} {g' : Nat} {s : Value} {p : Nat} {O : Nat → Prop} (h : Moved w wr g' s p) (hO : O g') : Past O w wr := ⟨h.os, h.tape, h.output, Nat.le_of_eq h.size.symm, fun k _ hk => h.same k (fun e => hk (e ▸ hO))⟩
theorem Moved.start {w : World} {g' : Nat} {s : Value} {p : Nat} (h : w.heap[g']? = some (.cells #[s, .int .i64 (p : Int)] 97 (0, 0))) : Moved w w g' s p := ⟨rfl, rfl, rfl, rfl, fun _ _ => rfl, h⟩
theorem Moved.on {w wr : World} {g' : Nat} {s : Value} {p p' : Nat} (h : Moved w wr g' s p) : Moved w (wr.setCell ⟨g', 1, none⟩ (.int .i64 (p' : Int))) g' s p' := ⟨h.os, h.tape, h.output, by simpa using h.size, fun k hk => (Below.heap_setCell _ _ _ k hk).trans (h.same k hk), block_setCell h.line _⟩
theorem Moved.drew {w wr : World} {g' : Nat} {s : Value} {p : Nat} (h : Moved w wr g' s p) : Moved w wr.drew g' s p := ⟨h.os, h.tape, h.output, h.size, h.same, h.line⟩
end Go.Proofs.Ytggkmbnogdikkaa.Fx
