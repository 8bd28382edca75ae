/-
  Plain DEFLATE as bytes: what is told piece by piece, how much, how it begins. No condition but those that are said.
-/
import Derived.Test.YtbfpbmnnlckldaaDoorDeflD
namespace Go.Proofs.YtbfpbmnnlckldaaDoor.Fx
theorem bytesAt_front (l X : List Bool) (i m : Nat) (h : 8 * (i + m) ≤ l.length) : bytesAt (l ++ X) i m = bytesAt l i m := by
  induction m generalizing i with
  | zero => rfl
  | succ m ih =>
    rw [bytesAt, bytesAt, ih (i + 1) (by omega)]
    congr 1
    unfold numAt
    rw [List.drop_append_of_le_length (by omega), List.take_append_of_le_length (by rw [List.length_drop]; omega)]
/-- The bits of what is written, as far as they go out. -/
def outOf (all : List Nat) : List Bool := blocksOf all (fullOf all.length)
/-- All bytes of a stream. -/
def wholeOf (all : List Nat) : List Nat := bytesAt (endOf all) 0 ((endOf all).length / 8)
theorem fullOf_le (n : Nat) : 4096 * fullOf n ≤ n := by
  unfold fullOf
  omega
theorem fullOf_mono {n m : Nat} (h : n ≤ m) : fullOf n ≤ fullOf m := by
  unfold fullOf
  omega
theorem outOf_more (all x : List Nat) : ∃ y, outOf (all ++ x) = outOf all ++ y := by
  unfold outOf
  obtain ⟨d, hd⟩ : ∃ d, fullOf (all ++ x).length = fullOf all.length + d := ⟨fullOf (all ++ x).length - fullOf all.length, by have := fullOf_mono (n := all.length) (m := (all ++ x).length) (by simp); omega⟩
  obtain ⟨y, hy⟩ := blocksOf_more (all ++ x) (fullOf all.length) d
  rw [hd, hy, blocksOf_local all x _ (fullOf_le _)]
  exact ⟨y, rfl⟩
theorem endOf_more (all : List Nat) : ∃ y, endOf all = outOf all ++ y := by
  obtain ⟨y, hy⟩ := blockOf_more (blocksOf all (fullOf all.length)) all (4096 * fullOf all.length) all.length 1
  unfold endOf outOf aligned
  rw [hy, List.append_assoc]
  exact ⟨_, rfl⟩
/-- What goes out behind what went out. -/
theorem went_on (l y : List Bool) : bytesAt l 0 (l.length / 8) ++ bytesAt (l ++ y) (l.length / 8) ((l ++ y).length / 8 - l.length / 8) = bytesAt (l ++ y) 0 ((l ++ y).length / 8) := by
  have h := bytesAt_add (l ++ y) 0 (l.length / 8) ((l ++ y).length / 8 - l.length / 8)
  have e : l.length / 8 + ((l ++ y).length / 8 - l.length / 8) = (l ++ y).length / 8 := by
    rw [List.length_append]
    omega
  rw [e, Nat.zero_add, bytesAt_front l y 0 (l.length / 8) (by omega)] at h
  exact h.symm
/-- What was told by then, and what a piece more tells. -/
def toldOf (all : List Nat) : List Nat := bytesAt (outOf all) 0 ((outOf all).length / 8)
theorem told_more (all x : List Nat) : toldOf all ++ bytesAt (outOf (all ++ x)) ((outOf all).length / 8) ((outOf (all ++ x)).length / 8 - (outOf all).length / 8) = toldOf (all ++ x) := by
  obtain ⟨y, hy⟩ := outOf_more all x
  unfold toldOf
  rw [hy]
  exact went_on _ _
theorem told_end (all : List Nat) : toldOf all ++ bytesAt (endOf all) ((outOf all).length / 8) ((endOf all).length / 8 - (outOf all).length / 8) = wholeOf all := by
  obtain ⟨y, hy⟩ := endOf_more all
  unfold toldOf wholeOf
  rw [hy]
  exact went_on _ _
/-- What is told is the begin of the whole, whatever comes behind. -/
theorem told_begin (all x : List Nat) : ∃ y, wholeOf (all ++ x) = toldOf all ++ y := by
  rw [← told_end (all ++ x), ← told_more all x, List.append_assoc]
  exact ⟨_, rfl⟩
theorem whole_length (all : List Nat) : (wholeOf all).length ≤ all.length + 5 * max ((all.length + 4095) / 4096) 1 ∧ 0 < (wholeOf all).length := by
  obtain ⟨h1, h2⟩ := endOf_length all
  unfold wholeOf
  rw [bytesAt_length]
  have hf : fullOf all.length + 1 = max ((all.length + 4095) / 4096) 1 := by
    unfold fullOf
    omega
  refine ⟨by rw [← hf]; exact h1, ?_⟩
  have h3 : 0 < (endOf all).length := by
    rcases Nat.eq_zero_or_pos (endOf all).length with h | h
    · exfalso
      unfold endOf at h
      rw [aligned_length] at h
      unfold blockOf fixedBlock at h
      split at h
      · rw [storedBlock_length] at h
        omega
      · simp only [List.length_append, bitsOf_length] at h
        omega
    · exact h
  omega
theorem whole_bytes (all : List Nat) : ∀ z ∈ wholeOf all, z < 256 := bytesAt_bytes _ _ _
theorem whole_bits (all : List Nat) : bitsOfBytes (wholeOf all) = endOf all := by
  obtain ⟨_, h2⟩ := endOf_length all
  unfold wholeOf
  rw [bits_bytes _ _ _ (by omega), Nat.mul_zero, List.drop_zero, show 8 * ((endOf all).length / 8) = (endOf all).length by omega, List.take_length]
theorem bitsOfBytes_append (x y : List Nat) : bitsOfBytes (x ++ y) = bitsOfBytes x ++ bitsOfBytes y := by
  unfold bitsOfBytes
  rw [List.flatMap_append]
/-- Streams are alike as far as both go just where the bytes are the same. -/
theorem wholes_alike (b c : List Nat) (hb : ∀ z ∈ b, z < 256) (hc : ∀ z ∈ c, z < 256) (h : (wholeOf b).take (min (wholeOf b).length (wholeOf c).length) = (wholeOf c).take (min (wholeOf b).length (wholeOf c).length)) : b = c := by
  rcases Nat.le_total (wholeOf b).length (wholeOf c).length with hl | hl
  · rw [Nat.min_eq_left hl, List.take_length] at h
    have e : wholeOf c = wholeOf b ++ (wholeOf c).drop (wholeOf b).length := by
      have := List.take_append_drop (wholeOf b).length (wholeOf c)
      rw [← h] at this
      exact this.symm
    refine streams_unlike b c (bitsOfBytes ((wholeOf c).drop (wholeOf b).length)) hb hc ?_
    rw [← whole_bits b, ← whole_bits c, ← bitsOfBytes_append, ← e]
  · rw [Nat.min_eq_right hl, List.take_length] at h
    have e : wholeOf b = wholeOf c ++ (wholeOf b).drop (wholeOf c).length := by
      have := List.take_append_drop (wholeOf c).length (wholeOf b)
      rw [h] at this
      exact this.symm
    refine (streams_unlike c b (bitsOfBytes ((wholeOf b).drop (wholeOf c).length)) hc hb ?_).symm
    rw [← whole_bits b, ← whole_bits c, ← bitsOfBytes_append, ← e]
end Go.Proofs.YtbfpbmnnlckldaaDoor.Fx
