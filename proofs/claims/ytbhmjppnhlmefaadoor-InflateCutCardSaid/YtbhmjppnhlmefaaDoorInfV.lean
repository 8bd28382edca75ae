/-
  What is told, by bytes: with fewer, with more. No condition but those that are said.
-/
import Derived.Test.YtbhmjppnhlmefaaDoorInfU
namespace Go.Proofs.YtbhmjppnhlmefaaDoor.Fx
theorem bits_join (x y : List Nat) : bitsOfBytes (x ++ y) = bitsOfBytes x ++ bitsOfBytes y := by
  unfold bitsOfBytes
  rw [List.flatMap_append]
theorem bits_cut (zs : List Nat) (q : Nat) (hq : q ≤ zs.length) : bitsOfBytes (zs.take q) = (bitsOfBytes zs).take (8 * q) := by
  have h : bitsOfBytes zs = bitsOfBytes (zs.take q) ++ bitsOfBytes (zs.drop q) := by rw [← bits_join, List.take_append_drop]
  have hl : (bitsOfBytes (zs.take q)).length = 8 * q := by
    rw [bitsOfBytes_length, List.length_take]
    omega
  rw [h, ← hl, List.take_left]
theorem bits_eight (zs : List Nat) : (bitsOfBytes zs).length % 8 = 0 := by
  rw [bitsOfBytes_length]
  omega
theorem some_bytes {zs : List Nat} {m : Nat} {t : St} (h : Says blocksW (bitsOfBytes zs) m ⟨0, []⟩ (.ok () t)) : 1 ≤ (t.pos + 7) / 8 ∧ (t.pos + 7) / 8 ≤ zs.length ∧ t.out.length ≤ m := by
  have h1 := some_bits h (bits_eight zs)
  rw [bitsOfBytes_length] at h1
  omega
theorem cut_bytes {zs : List Nat} {m : Nat} {t : St} (h : Says blocksW (bitsOfBytes zs) m ⟨0, []⟩ (.ok () t)) (q : Nat) (hq : q < (t.pos + 7) / 8) : Says blocksW (bitsOfBytes (zs.take q)) m ⟨0, []⟩ (.err 12) := by
  have h1 := some_bytes h
  rw [bits_cut zs q (by omega)]
  exact cut_short h (bits_eight zs) (8 * q) (by omega) (by omega)
theorem more_bytes {zs : List Nat} {m : Nat} {t : St} (h : Says blocksW (bitsOfBytes zs) m ⟨0, []⟩ (.ok () t)) (n : Nat) (hn : (t.pos + 7) / 8 = n) (xs : List Nat) (m' : Nat) (hm : m ≤ m') : Says blocksW (bitsOfBytes (zs.take n ++ xs)) m' ⟨0, []⟩ (.ok () t) := by
  have h1 := some_bytes h
  refine more_same h (bits_eight zs) (bits_eight _) ?_ ?_ hm
  · rw [bitsOfBytes_length, List.length_append, List.length_take]
    omega
  · rw [bits_join, bits_cut zs n (by omega), List.take_append_of_le_length (by rw [List.length_take, bitsOfBytes_length]; omega), List.take_take]
    congr 1
    omega
theorem less_bytes {zs : List Nat} {m m' : Nat} {t : St} (h : Says blocksW (bitsOfBytes zs) m ⟨0, []⟩ (.ok () t)) (hm : m' ≤ m) (ht : m' < t.out.length) : Says blocksW (bitsOfBytes zs) m' ⟨0, []⟩ (.err 3) := less_long h (bits_eight zs) hm ht
end Go.Proofs.YtbhmjppnhlmefaaDoor.Fx
