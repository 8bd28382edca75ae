/-
  Plain DEFLATE: matches, what stands for bytes, its bits, blocks. No condition but those that are said.
-/
import Derived.Test.YtbfpbmnnlckldaaDoorBitsP
namespace Go.Proofs.YtbfpbmnnlckldaaDoor.Fx
/-! ### Matches -/
/-- How many bytes from p on are those from i on, up to 'to', 258 at most: f more places at most, n are. -/
def sameFrom (b : List Nat) (p i to : Nat) : Nat → Nat → Nat
  | 0, n => n
  | f + 1, n => if i + n < to ∧ b[p + n]? = b[i + n]? then sameFrom b p i to f (n + 1) else n
def same (b : List Nat) (p i to : Nat) : Nat := sameFrom b p i to 258 0
theorem sameFrom_spec (b : List Nat) (p i to f n : Nat) (h : i + n ≤ to ∨ n = 0) (hn : ∀ j, j < n → b[p + j]? = b[i + j]?) :
    n ≤ sameFrom b p i to f n ∧ sameFrom b p i to f n ≤ n + f ∧ (i + sameFrom b p i to f n ≤ to ∨ sameFrom b p i to f n = 0) ∧ ∀ j, j < sameFrom b p i to f n → b[p + j]? = b[i + j]? := by
  induction f generalizing n with
  | zero => exact ⟨Nat.le_refl _, Nat.le_refl _, h, hn⟩
  | succ f ih =>
    unfold sameFrom
    split
    · rename_i hc
      obtain ⟨h1, h2, h3, h4⟩ := ih (n + 1) (.inl (by omega)) (fun j hj => by
        rcases Nat.lt_or_ge j n with h' | h'
        · exact hn j h'
        · obtain rfl : j = n := by omega
          exact hc.2)
      exact ⟨by omega, by omega, h3, h4⟩
    · exact ⟨Nat.le_refl _, by omega, h, hn⟩
theorem same_spec (b : List Nat) (p i to : Nat) : same b p i to ≤ 258 ∧ (i + same b p i to ≤ to ∨ same b p i to = 0) ∧ ∀ j, j < same b p i to → b[p + j]? = b[i + j]? := by
  obtain ⟨_, h2, h3, h4⟩ := sameFrom_spec b p i to 258 0 (.inr rfl) (fun j hj => by omega)
  exact ⟨by unfold same; omega, h3, h4⟩
theorem sameFrom_local (b x : List Nat) (p i to f n : Nat) (hp : p ≤ i) (ht : to ≤ b.length) : sameFrom (b ++ x) p i to f n = sameFrom b p i to f n := by
  induction f generalizing n with
  | zero => rfl
  | succ f ih =>
    unfold sameFrom
    by_cases hi : i + n < to
    · rw [List.getElem?_append_left (show p + n < b.length by omega), List.getElem?_append_left (show i + n < b.length by omega), ih]
    · rw [if_neg (fun h => hi h.1), if_neg (fun h => hi h.1)]
/-- The match at i: of the j nearest places the one of which the most bytes are the same, the nearest of these. -/
def bestOf (b : List Nat) (i to : Nat) : Nat → Nat × Nat
  | 0 => (0, 0)
  | j + 1 => if (bestOf b i to j).1 < same b (i - 1 - j) i to then (same b (i - 1 - j) i to, i - 1 - j) else bestOf b i to j
def matchOf (b : List Nat) (i to : Nat) : Nat × Nat := bestOf b i to (min i 32768)
theorem bestOf_spec (b : List Nat) (i to j : Nat) (hj : j ≤ i) : (bestOf b i to j).1 ≤ 258 ∧ ((bestOf b i to j).1 = 0 ∨ ((bestOf b i to j).2 < i ∧ i ≤ (bestOf b i to j).2 + j ∧ (bestOf b i to j).1 = same b (bestOf b i to j).2 i to)) := by
  induction j with
  | zero => exact ⟨by simp [bestOf], .inl rfl⟩
  | succ j ih =>
    obtain ⟨h1, h2⟩ := ih (by omega)
    unfold bestOf
    split
    · exact ⟨(same_spec b (i - 1 - j) i to).1, .inr ⟨by simp only; omega, by simp only; omega, rfl⟩⟩
    · refine ⟨h1, ?_⟩
      rcases h2 with h2 | ⟨h2, h3, h4⟩
      · exact .inl h2
      · exact .inr ⟨h2, by omega, h4⟩
theorem matchOf_spec (b : List Nat) (i to : Nat) (h : 0 < (matchOf b i to).1) :
    (matchOf b i to).1 ≤ 258 ∧ (matchOf b i to).2 < i ∧ i ≤ (matchOf b i to).2 + 32768 ∧ i + (matchOf b i to).1 ≤ to ∧ ∀ j, j < (matchOf b i to).1 → b[(matchOf b i to).2 + j]? = b[i + j]? := by
  obtain ⟨h1, h2⟩ := bestOf_spec b i to (min i 32768) (Nat.min_le_left _ _)
  unfold matchOf at h ⊢
  rcases h2 with h2 | ⟨h2, h3, h4⟩
  · omega
  · obtain ⟨_, s2, s3⟩ := same_spec b (bestOf b i to (min i 32768)).2 i to
    rw [← h4] at s2 s3
    refine ⟨h1, h2, by omega, ?_, s3⟩
    rcases s2 with s2 | s2
    · exact s2
    · omega
theorem bestOf_local (b x : List Nat) (i to j : Nat) (hj : j ≤ i) (ht : to ≤ b.length) : bestOf (b ++ x) i to j = bestOf b i to j := by
  induction j with
  | zero => rfl
  | succ j ih =>
    unfold bestOf
    rw [ih (by omega)]
    have e : same (b ++ x) (i - 1 - j) i to = same b (i - 1 - j) i to := sameFrom_local b x _ i to 258 0 (by omega) ht
    rw [e]
/-! ### What stands for bytes -/
structure Tok where
  n : Nat
  back : Nat
  b : Nat
def toks (b : List Nat) (to : Nat) : Nat → Nat → List Tok
  | 0, _ => []
  | f + 1, i => if i < to then (if 3 ≤ (matchOf b i to).1 then ⟨(matchOf b i to).1, i - (matchOf b i to).2, 0⟩ :: toks b to f (i + (matchOf b i to).1) else ⟨0, 0, b.getD i 0⟩ :: toks b to f (i + 1)) else []
def tokens (b : List Nat) (a to : Nat) : List Tok := toks b to (to - a) a
theorem toks_local (b x : List Nat) (to f i : Nat) (ht : to ≤ b.length) : toks (b ++ x) to f i = toks b to f i := by
  induction f generalizing i with
  | zero => rfl
  | succ f ih =>
    unfold toks
    by_cases hi : i < to
    · have e : matchOf (b ++ x) i to = matchOf b i to := bestOf_local b x i to _ (Nat.min_le_left _ _) ht
      have e2 : (b ++ x).getD i 0 = b.getD i 0 := by
        rw [List.getD_eq_getElem?_getD, List.getD_eq_getElem?_getD, List.getElem?_append_left (by omega)]
      rw [e, e2, ih, ih]
    · rw [if_neg hi, if_neg hi]
theorem toks_more (b : List Nat) (to f g i : Nat) (h : to ≤ i + f) : toks b to (f + g) i = toks b to f i := by
  induction f generalizing i with
  | zero =>
    rw [Nat.zero_add]
    cases g with
    | zero => rfl
    | succ g =>
      unfold toks
      rw [if_neg (by omega)]
  | succ f ih =>
    rw [Nat.succ_add]
    unfold toks
    by_cases hi : i < to
    · rw [if_pos hi, if_pos hi]
      by_cases h3 : 3 ≤ (matchOf b i to).1
      · rw [if_pos h3, if_pos h3, ih _ (by omega)]
      · rw [if_neg h3, if_neg h3, ih _ (by omega)]
    · rw [if_neg hi, if_neg hi]
/-! ### Codes -/
/-- k bits of a number, the highest first. -/
def turned (n k : Nat) : List Bool := (bitsOf n k).reverse
theorem turned_length (n k : Nat) : (turned n k).length = k := by rw [turned, List.length_reverse, bitsOf_length]
def fixedSym (n : Nat) : List Bool := if n ≤ 143 then turned (48 + n) 8 else if n ≤ 255 then turned (400 + n - 144) 9 else if n ≤ 279 then turned (n - 256) 7 else turned (192 + n - 280) 8
def lens : List Nat := [3, 4, 5, 6, 7, 8, 9, 10, 11, 13, 15, 17, 19, 23, 27, 31, 35, 43, 51, 59, 67, 83, 99, 115, 131, 163, 195, 227, 258]
def lext : List Nat := [0, 0, 0, 0, 0, 0, 0, 0, 1, 1, 1, 1, 2, 2, 2, 2, 3, 3, 3, 3, 4, 4, 4, 4, 5, 5, 5, 5, 0]
def dists : List Nat := [1, 2, 3, 4, 5, 7, 9, 13, 17, 25, 33, 49, 65, 97, 129, 193, 257, 385, 513, 769, 1025, 1537, 2049, 3073, 4097, 6145, 8193, 12289, 16385, 24577]
def dext : List Nat := [0, 0, 0, 0, 1, 1, 2, 2, 3, 3, 4, 4, 5, 5, 6, 6, 7, 7, 8, 8, 9, 9, 10, 10, 11, 11, 12, 12, 13, 13]
/-- The last code whose least number is not above n: from k on, f more at most. -/
def findFrom (l : List Nat) (n : Nat) : Nat → Nat → Nat
  | 0, k => k
  | f + 1, k => if k + 1 < l.length ∧ l.getD (k + 1) 0 ≤ n then findFrom l n f (k + 1) else k
def find (l : List Nat) (n : Nat) : Nat := findFrom l n l.length 0
theorem findFrom_spec (l : List Nat) (n f k : Nat) (hk : k < l.length) (hl : l.getD k 0 ≤ n) (hf : l.length ≤ k + f + 1) :
    findFrom l n f k < l.length ∧ l.getD (findFrom l n f k) 0 ≤ n ∧ (findFrom l n f k + 1 < l.length → n < l.getD (findFrom l n f k + 1) 0) := by
  induction f generalizing k with
  | zero => exact ⟨hk, hl, fun h => by unfold findFrom at h; omega⟩
  | succ f ih =>
    unfold findFrom
    split
    · rename_i h
      exact ih (k + 1) h.1 h.2 (by omega)
    · rename_i h
      refine ⟨hk, hl, fun h1 => ?_⟩
      rcases Nat.lt_or_ge n (l.getD (k + 1) 0) with h2 | h2
      · exact h2
      · exact absurd ⟨h1, h2⟩ h
theorem find_spec (l : List Nat) (n : Nat) (h0 : 0 < l.length) (hl : l.getD 0 0 ≤ n) : find l n < l.length ∧ l.getD (find l n) 0 ≤ n ∧ (find l n + 1 < l.length → n < l.getD (find l n + 1) 0) := findFrom_spec l n l.length 0 h0 hl (by omega)
def tokBits (t : Tok) : List Bool :=
  if t.back = 0 then fixedSym t.b else
    fixedSym (257 + find lens t.n) ++ bitsOf (t.n - lens.getD (find lens t.n) 0) (lext.getD (find lens t.n) 0) ++ turned (find dists t.back) 5 ++ bitsOf (t.back - dists.getD (find dists t.back) 0) (dext.getD (find dists t.back) 0)
/-! ### Blocks -/
def fixedBlock (l : List Bool) (ts : List Tok) (last : Nat) : List Bool := l ++ bitsOf last 1 ++ bitsOf 1 2 ++ ts.flatMap tokBits ++ fixedSym 256
def storedBlock (l : List Bool) (b : List Nat) (last : Nat) : List Bool := aligned (l ++ bitsOf last 1 ++ bitsOf 0 2) ++ bitsOf b.length 16 ++ bitsOf (65535 - b.length) 16 ++ bitsOfBytes b
def blockOf (l : List Bool) (all : List Nat) (a to last : Nat) : List Bool :=
  if (storedBlock l ((all.take to).drop a) last).length < (fixedBlock l (tokens all a to) last).length then storedBlock l ((all.take to).drop a) last else fixedBlock l (tokens all a to) last
/-- The bits of the first j blocks. -/
def blocksOf (all : List Nat) : Nat → List Bool
  | 0 => []
  | j + 1 => blockOf (blocksOf all j) all (4096 * j) (4096 * (j + 1)) 0
/-- How many blocks of so many bytes have bytes behind them. -/
def fullOf (n : Nat) : Nat := (n - 1) / 4096
def endOf (all : List Nat) : List Bool := aligned (blockOf (blocksOf all (fullOf all.length)) all (4096 * fullOf all.length) all.length 1)
theorem tokens_local (b x : List Nat) (a to : Nat) (ht : to ≤ b.length) : tokens (b ++ x) a to = tokens b a to := toks_local b x to _ a ht
theorem blockOf_local (l : List Bool) (b x : List Nat) (a to last : Nat) (ht : to ≤ b.length) : blockOf l (b ++ x) a to last = blockOf l b a to last := by
  unfold blockOf
  rw [tokens_local b x a to ht, List.take_append_of_le_length ht]
theorem blocksOf_local (b x : List Nat) (j : Nat) (h : 4096 * j ≤ b.length) : blocksOf (b ++ x) j = blocksOf b j := by
  induction j with
  | zero => rfl
  | succ j ih =>
    unfold blocksOf
    rw [ih (by omega), blockOf_local _ _ _ _ _ _ h]
theorem storedBlock_more (l : List Bool) (b : List Nat) (last : Nat) : ∃ x, storedBlock l b last = l ++ x := by
  unfold storedBlock aligned
  simp only [List.append_assoc]
  exact ⟨_, rfl⟩
theorem fixedBlock_more (l : List Bool) (ts : List Tok) (last : Nat) : ∃ x, fixedBlock l ts last = l ++ x := by
  unfold fixedBlock
  simp only [List.append_assoc]
  exact ⟨_, rfl⟩
theorem blockOf_more (l : List Bool) (all : List Nat) (a to last : Nat) : ∃ x, blockOf l all a to last = l ++ x := by
  unfold blockOf
  split
  · exact storedBlock_more _ _ _
  · exact fixedBlock_more _ _ _
theorem blocksOf_more (all : List Nat) (j k : Nat) : ∃ x, blocksOf all (j + k) = blocksOf all j ++ x := by
  induction k with
  | zero => exact ⟨[], by simp⟩
  | succ k ih =>
    obtain ⟨x, hx⟩ := ih
    obtain ⟨y, hy⟩ := blockOf_more (blocksOf all (j + k)) all (4096 * (j + k)) (4096 * (j + k + 1)) 0
    exact ⟨x ++ y, by rw [← Nat.add_assoc, blocksOf, hy, hx, List.append_assoc]⟩
/-! ### How long it is -/
theorem storedBlock_length (l : List Bool) (b : List Nat) (last : Nat) : (storedBlock l b last).length = (l.length + 3 + 7) / 8 * 8 + 32 + 8 * b.length := by
  unfold storedBlock
  rw [List.length_append, List.length_append, List.length_append, aligned_length, List.length_append, List.length_append, bitsOf_length, bitsOf_length, bitsOf_length, bitsOf_length, bitsOfBytes_length]
theorem blockOf_length (l : List Bool) (all : List Nat) (a to last : Nat) (ha : a ≤ to) (ht : to ≤ all.length) : (blockOf l all a to last).length ≤ (l.length + 3 + 7) / 8 * 8 + 32 + 8 * (to - a) := by
  have hs := storedBlock_length l ((all.take to).drop a) last
  have e : ((all.take to).drop a).length = to - a := by rw [List.length_drop, List.length_take]; omega
  rw [e] at hs
  unfold blockOf
  split <;> omega
theorem blocksOf_length (all : List Nat) (j : Nat) (h : 4096 * j ≤ all.length) : ((blocksOf all j).length + 7) / 8 ≤ 4096 * j + 5 * j := by
  induction j with
  | zero => simp [blocksOf]
  | succ j ih =>
    have h1 := ih (by omega)
    have h2 := blockOf_length (blocksOf all j) all (4096 * j) (4096 * (j + 1)) 0 (by omega) h
    unfold blocksOf
    omega
theorem endOf_length (all : List Nat) : (endOf all).length / 8 ≤ all.length + 5 * (fullOf all.length + 1) ∧ (endOf all).length % 8 = 0 := by
  have hj : 4096 * fullOf all.length ≤ all.length := by unfold fullOf; omega
  have h1 := blocksOf_length all (fullOf all.length) hj
  have h2 := blockOf_length (blocksOf all (fullOf all.length)) all (4096 * fullOf all.length) all.length 1 hj (Nat.le_refl _)
  unfold endOf
  rw [aligned_length]
  refine ⟨?_, by omega⟩
  generalize (blockOf (blocksOf all (fullOf all.length)) all (4096 * fullOf all.length) all.length 1).length = B at *
  generalize (blocksOf all (fullOf all.length)).length = C at *
  generalize fullOf all.length = J at *
  omega
end Go.Proofs.YtbfpbmnnlckldaaDoor.Fx
