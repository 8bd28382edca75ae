/-
  Plain DEFLATE: matches, what stands for bytes, its bits, blocks. No condition but those that are said.
  Plain DEFLATE, read again: what was told comes back; unlike bytes have unlike streams, neither the begin of the other. No condition but those that are said.
  Plain DEFLATE as bytes: what is told piece by piece, how much, how it begins. No condition but those that are said.
  The search for matches in plain words: places of three bytes, steps down to the next place of the same three, the longest match. No condition but those that are said.
-/
import Derived.Test.YtefdlidjdmlnaaaBitsP
namespace Go.Proofs.Ytefdlidjdmlnaaa.Fx
/-! ### Matches -/
/-- How many bytes from p on are those from i on, up to 'to', 258 at most: f more places at most, n are. -/
def sameFrom (b : List Nat) (p i to : Nat) : Nat → Nat → Nat
  | 0, n => n
  | f + 1, n => if i + n < to ∧ b[p + n]? = b[i + n]? then sameFrom b p i to f (n + 1) else n
def same (b : List Nat) (p i to : Nat) : Nat := sameFrom b p i to 258 0
theorem sameFrom_spec (b : List Nat) (p i to f n : Nat) (h : i + n ≤ to ∨ n = 0) (hn : ∀ j, j < n → b[p + j]? = b[i + j]?) :
    n ≤ sameFrom b p i to f n ∧ sameFrom b p i to f n ≤ n + f ∧ (i + sameFrom b p i to f n ≤ to ∨ sameFrom b p i to f n = 0) ∧ ∀ j, j < sameFrom b p i to f n → b[p + j]? = b[i + j]? := by
  induction f generalizing n with
  | zero => exact ⟨Nat.le_refl _, Nat.le_refl _, h, hn⟩
  | succ f ih =>
    unfold sameFrom
    split
    · rename_i hc
      obtain ⟨h1, h2, h3, h4⟩ := ih (n + 1) (.inl (by omega)) (fun j hj => by
        rcases Nat.lt_or_ge j n with h' | h'
        · exact hn j h'
        · obtain rfl : j = n := by omega
          exact hc.2)
      exact ⟨by omega, by omega, h3, h4⟩
    · exact ⟨Nat.le_refl _, by omega, h, hn⟩
theorem same_spec (b : List Nat) (p i to : Nat) : same b p i to ≤ 258 ∧ (i + same b p i to ≤ to ∨ same b p i to = 0) ∧ ∀ j, j < same b p i to → b[p + j]? = b[i + j]? := by
  obtain ⟨_, h2, h3, h4⟩ := sameFrom_spec b p i to 258 0 (.inr rfl) (fun j hj => by omega)
  exact ⟨by unfold same; omega, h3, h4⟩
theorem sameFrom_local (b x : List Nat) (p i to f n : Nat) (hp : p ≤ i) (ht : to ≤ b.length) : sameFrom (b ++ x) p i to f n = sameFrom b p i to f n := by
  induction f generalizing n with
  | zero => rfl
  | succ f ih =>
    unfold sameFrom
    by_cases hi : i + n < to
    · rw [List.getElem?_append_left (show p + n < b.length by omega), List.getElem?_append_left (show i + n < b.length by omega), ih]
    · rw [if_neg (fun h => hi h.1), if_neg (fun h => hi h.1)]
/-- The match at i: of the j nearest places the one of which the most bytes are the same, the nearest of these. -/
def bestOf (b : List Nat) (i to : Nat) : Nat → Nat × Nat
  | 0 => (0, 0)
  | j + 1 => if (bestOf b i to j).1 < same b (i - 1 - j) i to then (same b (i - 1 - j) i to, i - 1 - j) else bestOf b i to j
def matchOf (b : List Nat) (i to : Nat) : Nat × Nat := bestOf b i to (min i 32768)
theorem bestOf_spec (b : List Nat) (i to j : Nat) (hj : j ≤ i) : (bestOf b i to j).1 ≤ 258 ∧ ((bestOf b i to j).1 = 0 ∨ ((bestOf b i to j).2 < i ∧ i ≤ (bestOf b i to j).2 + j ∧ (bestOf b i to j).1 = same b (bestOf b i to j).2 i to)) := by
  induction j with
  | zero => exact ⟨by simp [bestOf], .inl rfl⟩
  | succ j ih =>
    obtain ⟨h1, h2⟩ := ih (by omega)
    unfold bestOf
    split
    · exact ⟨(same_spec b (i - 1 - j) i to).1, .inr ⟨by simp only; omega, by simp only; omega, rfl⟩⟩
    · refine ⟨h1, ?_⟩
      rcases h2 with h2 | ⟨h2, h3, h4⟩
      · exact .inl h2
      · exact .inr ⟨h2, by omega, h4⟩
theorem matchOf_spec (b : List Nat) (i to : Nat) (h : 0 < (matchOf b i to).1) :
    (matchOf b i to).1 ≤ 258 ∧ (matchOf b i to).2 < i ∧ i ≤ (matchOf b i to).2 + 32768 ∧ i + (matchOf b i to).1 ≤ to ∧ ∀ j, j < (matchOf b i to).1 → b[(matchOf b i to).2 + j]? = b[i + j]? := by
  obtain ⟨h1, h2⟩ := bestOf_spec b i to (min i 32768) (Nat.min_le_left _ _)
  unfold matchOf at h ⊢
  rcases h2 with h2 | ⟨h2, h3, h4⟩
  · omega
  · obtain ⟨_, s2, s3⟩ := same_spec b (bestOf b i to (min i 32768)).2 i to
    rw [← h4] at s2 s3
    refine ⟨h1, h2, by omega, ?_, s3⟩
    rcases s2 with s2 | s2
    · exact s2
    · omega
theorem bestOf_local (b x : List Nat) (i to j : Nat) (hj : j ≤ i) (ht : to ≤ b.length) : bestOf (b ++ x) i to j = bestOf b i to j := by
  induction j with
  | zero => rfl
  | succ j ih =>
    unfold bestOf
    rw [ih (by omega)]
    have e : same (b ++ x) (i - 1 - j) i to = same b (i - 1 - j) i to := sameFrom_local b x _ i to 258 0 (by omega) ht
    rw [e]
/-! ### What stands for bytes -/
structure Tok where
  n : Nat
  back : Nat
  b : Nat
def toks (b : List Nat) (to : Nat) : Nat → Nat → List Tok
  | 0, _ => []
  | f + 1, i => if i < to then (if 3 ≤ (matchOf b i to).1 then ⟨(matchOf b i to).1, i - (matchOf b i to).2, 0⟩ :: toks b to f (i + (matchOf b i to).1) else ⟨0, 0, b.getD i 0⟩ :: toks b to f (i + 1)) else []
def tokens (b : List Nat) (a to : Nat) : List Tok := toks b to (to - a) a
theorem toks_local (b x : List Nat) (to f i : Nat) (ht : to ≤ b.length) : toks (b ++ x) to f i = toks b to f i := by
  induction f generalizing i with
  | zero => rfl
  | succ f ih =>
    unfold toks
    by_cases hi : i < to
    · have e : matchOf (b ++ x) i to = matchOf b i to := bestOf_local b x i to _ (Nat.min_le_left _ _) ht
      have e2 : (b ++ x).getD i 0 = b.getD i 0 := by
        rw [List.getD_eq_getElem?_getD, List.getD_eq_getElem?_getD, List.getElem?_append_left (by omega)]
      rw [e, e2, ih, ih]
    · rw [if_neg hi, if_neg hi]
theorem toks_more (b : List Nat) (to f g i : Nat) (h : to ≤ i + f) : toks b to (f + g) i = toks b to f i := by
  induction f generalizing i with
  | zero =>
    rw [Nat.zero_add]
    cases g with
    | zero => rfl
    | succ g =>
      unfold toks
      rw [if_neg (by omega)]
  | succ f ih =>
    rw [Nat.succ_add]
    unfold toks
    by_cases hi : i < to
    · rw [if_pos hi, if_pos hi]
      by_cases h3 : 3 ≤ (matchOf b i to).1
      · rw [if_pos h3, if_pos h3, ih _ (by omega)]
      · rw [if_neg h3, if_neg h3, ih _ (by omega)]
    · rw [if_neg hi, if_neg hi]
/-! ### Codes -/
/-- k bits of a number, the highest first. -/
def turned (n k : Nat) : List Bool := (bitsOf n k).reverse
theorem turned_length (n k : Nat) : (turned n k).length = k := by rw [turned, List.length_reverse, bitsOf_length]
def fixedSym (n : Nat) : List Bool := if n ≤ 143 then turned (48 + n) 8 else if n ≤ 255 then turned (400 + n - 144) 9 else if n ≤ 279 then turned (n - 256) 7 else turned (192 + n - 280) 8
def lens : List Nat := [3, 4, 5, 6, 7, 8, 9, 10, 11, 13, 15, 17, 19, 23, 27, 31, 35, 43, 51, 59, 67, 83, 99, 115, 131, 163, 195, 227, 258]
def lext : List Nat := [0, 0, 0, 0, 0, 0, 0, 0, 1, 1, 1, 1, 2, 2, 2, 2, 3, 3, 3, 3, 4, 4, 4, 4, 5, 5, 5, 5, 0]
def dists : List Nat := [1, 2, 3, 4, 5, 7, 9, 13, 17, 25, 33, 49, 65, 97, 129, 193, 257, 385, 513, 769, 1025, 1537, 2049, 3073, 4097, 6145, 8193, 12289, 16385, 24577]
def dext : List Nat := [0, 0, 0, 0, 1, 1, 2, 2, 3, 3, 4, 4, 5, 5, 6, 6, 7, 7, 8, 8, 9, 9, 10, 10, 11, 11, 12, 12, 13, 13]
/-- The last code whose least number is not above n: from k on, f more at most. -/
def findFrom (l : List Nat) (n : Nat) : Nat → Nat → Nat
  | 0, k => k
  | f + 1, k => if k + 1 < l.length ∧ l.getD (k + 1) 0 ≤ n then findFrom l n f (k + 1) else k
def find (l : List Nat) (n : Nat) : Nat := findFrom l n l.length 0
theorem findFrom_spec (l : List Nat) (n f k : Nat) (hk : k < l.length) (hl : l.getD k 0 ≤ n) (hf : l.length ≤ k + f + 1) :
    findFrom l n f k < l.length ∧ l.getD (findFrom l n f k) 0 ≤ n ∧ (findFrom l n f k + 1 < l.length → n < l.getD (findFrom l n f k + 1) 0) := by
  induction f generalizing k with
  | zero => exact ⟨hk, hl, fun h => by unfold findFrom at h; omega⟩
  | succ f ih =>
    unfold findFrom
    split
    · rename_i h
      exact ih (k + 1) h.1 h.2 (by omega)
    · rename_i h
      refine ⟨hk, hl, fun h1 => ?_⟩
      rcases Nat.lt_or_ge n (l.getD (k + 1) 0) with h2 | h2
      · exact h2
      · exact absurd ⟨h1, h2⟩ h
theorem find_spec (l : List Nat) (n : Nat) (h0 : 0 < l.length) (hl : l.getD 0 0 ≤ n) : find l n < l.length ∧ l.getD (find l n) 0 ≤ n ∧ (find l n + 1 < l.length → n < l.getD (find l n + 1) 0) := findFrom_spec l n l.length 0 h0 hl (by omega)
def tokBits (t : Tok) : List Bool :=
  if t.back = 0 then fixedSym t.b else
    fixedSym (257 + find lens t.n) ++ bitsOf (t.n - lens.getD (find lens t.n) 0) (lext.getD (find lens t.n) 0) ++ turned (find dists t.back) 5 ++ bitsOf (t.back - dists.getD (find dists t.back) 0) (dext.getD (find dists t.back) 0)
/-! ### Blocks -/
def fixedBlock (l : List Bool) (ts : List Tok) (last : Nat) : List Bool := l ++ bitsOf last 1 ++ bitsOf 1 2 ++ ts.flatMap tokBits ++ fixedSym 256
def storedBlock (l : List Bool) (b : List Nat) (last : Nat) : List Bool := aligned (l ++ bitsOf last 1 ++ bitsOf 0 2) ++ bitsOf b.length 16 ++ bitsOf (65535 - b.length) 16 ++ bitsOfBytes b
def blockOf (l : List Bool) (all : List Nat) (a to last : Nat) : List Bool :=
  if (storedBlock l ((all.take to).drop a) last).length < (fixedBlock l (tokens all a to) last).length then storedBlock l ((all.take to).drop a) last else fixedBlock l (tokens all a to) last
/-- The bits of the first j blocks. -/
def blocksOf (all : List Nat) : Nat → List Bool
  | 0 => []
  | j + 1 => blockOf (blocksOf all j) all (4096 * j) (4096 * (j + 1)) 0
/-- How many blocks of so many bytes have bytes behind them. -/
def fullOf (n : Nat) : Nat := (n - 1) / 4096
def endOf (all : List Nat) : List Bool := aligned (blockOf (blocksOf all (fullOf all.length)) all (4096 * fullOf all.length) all.length 1)
theorem tokens_local (b x : List Nat) (a to : Nat) (ht : to ≤ b.length) : tokens (b ++ x) a to = tokens b a to := toks_local b x to _ a ht
theorem blockOf_local (l : List Bool) (b x : List Nat) (a to last : Nat) (ht : to ≤ b.length) : blockOf l (b ++ x) a to last = blockOf l b a to last := by
  unfold blockOf
  rw [tokens_local b x a to ht, List.take_append_of_le_length ht]
theorem blocksOf_local (b x : List Nat) (j : Nat) (h : 4096 * j ≤ b.length) : blocksOf (b ++ x) j = blocksOf b j := by
  induction j with
  | zero => rfl
  | succ j ih =>
    unfold blocksOf
    rw [ih (by omega), blockOf_local _ _ _ _ _ _ h]
theorem storedBlock_more (l : List Bool) (b : List Nat) (last : Nat) : ∃ x, storedBlock l b last = l ++ x := by
  unfold storedBlock aligned
  simp only [List.append_assoc]
  exact ⟨_, rfl⟩
theorem fixedBlock_more (l : List Bool) (ts : List Tok) (last : Nat) : ∃ x, fixedBlock l ts last = l ++ x := by
  unfold fixedBlock
  simp only [List.append_assoc]
  exact ⟨_, rfl⟩
theorem blockOf_more (l : List Bool) (all : List Nat) (a to last : Nat) : ∃ x, blockOf l all a to last = l ++ x := by
  unfold blockOf
  split
  · exact storedBlock_more _ _ _
  · exact fixedBlock_more _ _ _
theorem blocksOf_more (all : List Nat) (j k : Nat) : ∃ x, blocksOf all (j + k) = blocksOf all j ++ x := by
  induction k with
  | zero => exact ⟨[], by simp⟩
  | succ k ih =>
    obtain ⟨x, hx⟩ := ih
    obtain ⟨y, hy⟩ := blockOf_more (blocksOf all (j + k)) all (4096 * (j + k)) (4096 * (j + k + 1)) 0
    exact ⟨x ++ y, by rw [← Nat.add_assoc, blocksOf, hy, hx, List.append_assoc]⟩
/-! ### How long it is -/
theorem storedBlock_length (l : List Bool) (b : List Nat) (last : Nat) : (storedBlock l b last).length = (l.length + 3 + 7) / 8 * 8 + 32 + 8 * b.length := by
  unfold storedBlock
  rw [List.length_append, List.length_append, List.length_append, aligned_length, List.length_append, List.length_append, bitsOf_length, bitsOf_length, bitsOf_length, bitsOf_length, bitsOfBytes_length]
theorem blockOf_length (l : List Bool) (all : List Nat) (a to last : Nat) (ha : a ≤ to) (ht : to ≤ all.length) : (blockOf l all a to last).length ≤ (l.length + 3 + 7) / 8 * 8 + 32 + 8 * (to - a) := by
  have hs := storedBlock_length l ((all.take to).drop a) last
  have e : ((all.take to).drop a).length = to - a := by rw [List.length_drop, List.length_take]; omega
  rw [e] at hs
  unfold blockOf
  split <;> omega
theorem blocksOf_length (all : List Nat) (j : Nat) (h : 4096 * j ≤ all.length) : ((blocksOf all j).length + 7) / 8 ≤ 4096 * j + 5 * j := by
  induction j with
  | zero => simp [blocksOf]
  | succ j ih =>
    have h1 := ih (by omega)
    have h2 := blockOf_length (blocksOf all j) all (4096 * j) (4096 * (j + 1)) 0 (by omega) h
    unfold blocksOf
    omega
theorem endOf_length (all : List Nat) : (endOf all).length / 8 ≤ all.length + 5 * (fullOf all.length + 1) ∧ (endOf all).length % 8 = 0 := by
  have hj : 4096 * fullOf all.length ≤ all.length := by unfold fullOf; omega
  have h1 := blocksOf_length all (fullOf all.length) hj
  have h2 := blockOf_length (blocksOf all (fullOf all.length)) all (4096 * fullOf all.length) all.length 1 hj (Nat.le_refl _)
  unfold endOf
  rw [aligned_length]
  refine ⟨?_, by omega⟩
  generalize (blockOf (blocksOf all (fullOf all.length)) all (4096 * fullOf all.length) all.length 1).length = B at *
  generalize (blocksOf all (fullOf all.length)).length = C at *
  generalize fullOf all.length = J at *
  omega
end Go.Proofs.Ytefdlidjdmlnaaa.Fx
namespace Go.Proofs.Ytefdlidjdmlnaaa.Fx
/-! ### Numbers, symbols -/
def getNum (k : Nat) (r : List Bool) : Option (Nat × List Bool) := if r.length < k then none else some (numOf (r.take k), r.drop k)
def getTurned (k : Nat) (r : List Bool) : Option (Nat × List Bool) := if r.length < k then none else some (numOf (r.take k).reverse, r.drop k)
theorem getNum_put (n k : Nat) (r : List Bool) (h : n < 2 ^ k) : getNum k (bitsOf n k ++ r) = some (n, r) := by
  unfold getNum
  rw [if_neg (by rw [List.length_append, bitsOf_length]; omega), List.take_left' (bitsOf_length n k), List.drop_left' (bitsOf_length n k), numOf_small n k h]
theorem bitsOf_rest (n k j : Nat) (h : j ≤ k) : (bitsOf n k).drop j = bitsOf (n / 2 ^ j) (k - j) := by
  obtain ⟨d, rfl⟩ : ∃ d, k = j + d := ⟨k - j, by omega⟩
  rw [bitsOf_add, List.drop_left' (bitsOf_length n j), Nat.add_sub_cancel_left]
theorem turned_head (n k j : Nat) (r : List Bool) (h : j ≤ k) (hn : n < 2 ^ k) : numOf ((turned n k ++ r).take j).reverse = n / 2 ^ (k - j) := by
  rw [List.take_append_of_le_length (by rw [turned_length]; exact h), turned, List.take_reverse, List.reverse_reverse, bitsOf_length, bitsOf_rest n k (k - j) (by omega), numOf_bitsOf, show k - (k - j) = j by omega, Nat.mod_eq_of_lt]
  rw [Nat.div_lt_iff_lt_mul (Nat.pow_pos (by decide)), ← Nat.pow_add, show j + (k - j) = k by omega]
  exact hn
theorem getTurned_put (n k : Nat) (r : List Bool) (h : n < 2 ^ k) : getTurned k (turned n k ++ r) = some (n, r) := by
  unfold getTurned
  rw [if_neg (by rw [List.length_append, turned_length]; omega), turned_head n k k r (Nat.le_refl _) h, List.drop_left' (turned_length n k), Nat.sub_self, Nat.pow_zero, Nat.div_one]
/-- A symbol by the fixed codes. -/
def getSym (r : List Bool) : Option (Nat × List Bool) :=
  if r.length < 7 then none else if numOf (r.take 7).reverse < 24 then some (256 + numOf (r.take 7).reverse, r.drop 7) else
  if r.length < 8 then none else if numOf (r.take 8).reverse < 192 then some (numOf (r.take 8).reverse - 48, r.drop 8) else if numOf (r.take 8).reverse < 200 then some (280 + numOf (r.take 8).reverse - 192, r.drop 8) else
  if r.length < 9 then none else some (numOf (r.take 9).reverse - 400 + 144, r.drop 9)
theorem getSym_put (n : Nat) (r : List Bool) (h : n < 288) : getSym (fixedSym n ++ r) = some (n, r) := by
  unfold fixedSym
  by_cases h1 : n ≤ 143
  · rw [if_pos h1]
    unfold getSym
    rw [turned_head (48 + n) 8 7 r (by omega) (by omega), turned_head (48 + n) 8 8 r (by omega) (by omega), if_neg (by rw [List.length_append, turned_length]; omega), if_neg (by omega), if_neg (by rw [List.length_append, turned_length]; omega), if_pos (by omega), List.drop_left' (turned_length _ _)]
    exact congrArg some (Prod.ext (by simp only; omega) rfl)
  · rw [if_neg h1]
    by_cases h2 : n ≤ 255
    · rw [if_pos h2]
      unfold getSym
      rw [turned_head (400 + n - 144) 9 7 r (by omega) (by omega), turned_head (400 + n - 144) 9 8 r (by omega) (by omega), turned_head (400 + n - 144) 9 9 r (by omega) (by omega), if_neg (by rw [List.length_append, turned_length]; omega), if_neg (by omega), if_neg (by rw [List.length_append, turned_length]; omega), if_neg (by omega), if_neg (by omega), if_neg (by rw [List.length_append, turned_length]; omega), List.drop_left' (turned_length _ _)]
      exact congrArg some (Prod.ext (by simp only; omega) rfl)
    · rw [if_neg h2]
      by_cases h3 : n ≤ 279
      · rw [if_pos h3]
        unfold getSym
        rw [turned_head (n - 256) 7 7 r (by omega) (by omega), if_neg (by rw [List.length_append, turned_length]; omega), if_pos (by omega), List.drop_left' (turned_length _ _)]
        exact congrArg some (Prod.ext (by simp only; omega) rfl)
      · rw [if_neg h3]
        unfold getSym
        rw [turned_head (192 + n - 280) 8 7 r (by omega) (by omega), turned_head (192 + n - 280) 8 8 r (by omega) (by omega), if_neg (by rw [List.length_append, turned_length]; omega), if_neg (by omega), if_neg (by rw [List.length_append, turned_length]; omega), if_neg (by omega), if_pos (by omega), List.drop_left' (turned_length _ _)]
        exact congrArg some (Prod.ext (by simp only; omega) rfl)
/-! ### Matches -/
def copies (out : List Nat) (back : Nat) : Nat → List Nat
  | 0 => out
  | n + 1 => copies (out ++ [out.getD (out.length - back) 0]) back n
theorem copies_same (all : List Nat) (n i p : Nat) (hp : p < i) (hi : i + n ≤ all.length) (h : ∀ j, j < n → all[p + j]? = all[i + j]?) : copies (all.take i) (i - p) n = all.take (i + n) := by
  induction n generalizing i p with
  | zero => rfl
  | succ n ih =>
    unfold copies
    have hl : (all.take i).length = i := by rw [List.length_take]; omega
    have h0 := h 0 (by omega)
    rw [Nat.add_zero, Nat.add_zero] at h0
    have e : all.take i ++ [(all.take i).getD ((all.take i).length - (i - p)) 0] = all.take (i + 1) := by
      rw [hl, show i - (i - p) = p by omega, List.getD_eq_getElem?_getD, List.getElem?_take, if_pos hp, List.take_add_one, h0, List.getElem?_eq_getElem (by omega)]
      rfl
    rw [e, show i - p = (i + 1) - (p + 1) by omega, ih (i + 1) (p + 1) (by omega) (by omega) (fun j hj => ?_), show i + 1 + n = i + (n + 1) by omega]
    have := h (j + 1) (by omega)
    rwa [show p + (j + 1) = p + 1 + j by omega, show i + (j + 1) = i + 1 + j by omega] at this
/-! ### Symbols up to the end -/
def coded : Nat → List Bool → List Nat → Option (List Bool × List Nat)
  | 0, _, _ => none
  | f + 1, r, out => (getSym r).bind fun x => if x.1 = 256 then some (x.2, out) else if x.1 < 256 then coded f x.2 (out ++ [x.1]) else
      (getNum (lext.getD (x.1 - 257) 0) x.2).bind fun y => (getTurned 5 y.2).bind fun z => (getNum (dext.getD z.1 0) z.2).bind fun u => coded f u.2 (copies out (dists.getD z.1 0 + u.1) (lens.getD (x.1 - 257) 0 + y.1))
theorem lens_fit (n : Nat) (h3 : 3 ≤ n) (h258 : n ≤ 258) : find lens n < 29 ∧ lens.getD (find lens n) 0 ≤ n ∧ n - lens.getD (find lens n) 0 < 2 ^ lext.getD (find lens n) 0 := by
  have hd : ∀ k, k < 29 → lens.getD (k + 1) 259 ≤ lens.getD k 0 + 2 ^ lext.getD k 0 := by decide +kernel
  obtain ⟨h1, h2, h4⟩ := find_spec lens n (by decide) (by simpa [lens] using h3)
  have hl : lens.length = 29 := rfl
  rw [hl] at h1 h4
  refine ⟨h1, h2, ?_⟩
  have h5 := hd _ h1
  have h6 : n < lens.getD (find lens n + 1) 259 := by
    rcases Nat.lt_or_ge (find lens n + 1) 29 with h | h
    · have := h4 h
      rw [List.getD_eq_getElem?_getD, List.getElem?_eq_getElem (by rw [hl]; exact h)] at this ⊢
      exact this
    · rw [List.getD_eq_getElem?_getD, List.getElem?_eq_none (by rw [hl]; exact h)]
      simp only [Option.getD_none]
      omega
  omega
theorem dists_fit (n : Nat) (h1 : 1 ≤ n) (h2 : n ≤ 32768) : find dists n < 30 ∧ dists.getD (find dists n) 0 ≤ n ∧ n - dists.getD (find dists n) 0 < 2 ^ dext.getD (find dists n) 0 := by
  have hd : ∀ k, k < 30 → dists.getD (k + 1) 32769 ≤ dists.getD k 0 + 2 ^ dext.getD k 0 := by decide +kernel
  obtain ⟨h3, h4, h5⟩ := find_spec dists n (by decide) (by simpa [dists] using h1)
  have hl : dists.length = 30 := rfl
  rw [hl] at h3 h5
  refine ⟨h3, h4, ?_⟩
  have h6 := hd _ h3
  have h7 : n < dists.getD (find dists n + 1) 32769 := by
    rcases Nat.lt_or_ge (find dists n + 1) 30 with h | h
    · have := h5 h
      rw [List.getD_eq_getElem?_getD, List.getElem?_eq_getElem (by rw [hl]; exact h)] at this ⊢
      exact this
    · rw [List.getD_eq_getElem?_getD, List.getElem?_eq_none (by rw [hl]; exact h)]
      simp only [Option.getD_none]
      omega
  omega
theorem coded_put (all : List Nat) (to f i g : Nat) (r : List Bool) (h8 : ∀ x ∈ all, x < 256) (hi : i ≤ to) (ht : to ≤ all.length) (hf : to ≤ i + f) :
    coded ((toks all to f i).length + 1 + g) ((toks all to f i).flatMap tokBits ++ (fixedSym 256 ++ r)) (all.take i) = some (r, all.take to) := by
  have hend : ∀ g, coded (g + 1) (fixedSym 256 ++ r) (all.take to) = some (r, all.take to) := fun g => by
    unfold coded
    rw [getSym_put 256 r (by decide)]
    rfl
  induction f generalizing i g with
  | zero =>
    obtain rfl : i = to := by omega
    rw [show (toks all i 0 i).length + 1 + g = g + 1 by simp [toks]; omega]
    exact hend g
  | succ f ih =>
    by_cases hlt : i < to
    · unfold toks
      rw [if_pos hlt]
      by_cases h3 : 3 ≤ (matchOf all i to).1
      · rw [if_pos h3, List.flatMap_cons, List.length_cons, show ∀ x : Nat, x + 1 + 1 + g = (x + 1 + g) + 1 by intro x; omega]
        obtain ⟨m1, m2, m3, m4, m5⟩ := matchOf_spec all i to (by omega)
        generalize (matchOf all i to).1 = n at *
        generalize (matchOf all i to).2 = p at *
        obtain ⟨l1, l2, l3⟩ := lens_fit n h3 m1
        obtain ⟨d1, d2, d3⟩ := dists_fit (i - p) (by omega) (by omega)
        have hb : tokBits ⟨n, i - p, 0⟩ = fixedSym (257 + find lens n) ++ bitsOf (n - lens.getD (find lens n) 0) (lext.getD (find lens n) 0) ++ turned (find dists (i - p)) 5 ++ bitsOf (i - p - dists.getD (find dists (i - p)) 0) (dext.getD (find dists (i - p)) 0) := by
          unfold tokBits
          rw [if_neg (show ¬ i - p = 0 by omega)]
        rw [hb]
        simp only [List.append_assoc]
        unfold coded
        rw [getSym_put _ _ (by omega), Option.bind_some, if_neg (by simp only; omega), if_neg (by simp only; omega)]
        simp only [Nat.add_sub_cancel_left]
        rw [getNum_put _ _ _ l3, Option.bind_some]
        simp only
        rw [getTurned_put _ _ _ (by omega), Option.bind_some]
        simp only
        rw [getNum_put _ _ _ d3, Option.bind_some]
        simp only
        rw [show dists.getD (find dists (i - p)) 0 + (i - p - dists.getD (find dists (i - p)) 0) = i - p by omega, show lens.getD (find lens n) 0 + (n - lens.getD (find lens n) 0) = n by omega, copies_same all n i p m2 (by omega) m5]
        exact ih (i + n) g m4 (by omega)
      · rw [if_neg h3, List.flatMap_cons, List.length_cons, show ∀ x : Nat, x + 1 + 1 + g = (x + 1 + g) + 1 by intro x; omega]
        have hx : all.getD i 0 < 256 := by
          rw [List.getD_eq_getElem?_getD, List.getElem?_eq_getElem (by omega)]
          exact h8 _ (List.getElem_mem _)
        have hb : tokBits ⟨0, 0, all.getD i 0⟩ = fixedSym (all.getD i 0) := by
          unfold tokBits
          rw [if_pos rfl]
        rw [hb, List.append_assoc]
        unfold coded
        rw [getSym_put _ _ (by omega), Option.bind_some, if_neg (by simp only; omega), if_pos (by simp only; omega)]
        have e : all.take i ++ [all.getD i 0] = all.take (i + 1) := by
          rw [List.take_add_one, List.getD_eq_getElem?_getD, List.getElem?_eq_getElem (by omega)]
          rfl
        rw [e]
        exact ih (i + 1) g (by omega) (by omega)
    · obtain rfl : i = to := by omega
      unfold toks
      rw [if_neg hlt, List.length_nil, show 0 + 1 + g = g + 1 by omega]
      exact hend g
/-! ### Blocks -/
def getBlock (pos : Nat) (r : List Bool) (out : List Nat) : Option (Nat × List Bool × List Nat) :=
  (getNum 1 r).bind fun a => (getNum 2 a.2).bind fun k =>
    if k.1 = 0 then (getNum 16 (k.2.drop ((8 - (pos + 3) % 8) % 8))).bind fun n => (getNum 16 n.2).bind fun m => some (a.1, m.2.drop (8 * n.1), out ++ bytesAt m.2 0 n.1)
    else if k.1 = 1 then (coded (k.2.length + 1) k.2 out).bind fun x => some (a.1, x.1, x.2) else none
theorem bytesAt_put (zs : List Nat) (r : List Bool) (h8 : ∀ x ∈ zs, x < 256) : bytesAt (bitsOfBytes zs ++ r) 0 zs.length = zs ∧ (bitsOfBytes zs ++ r).drop (8 * zs.length) = r := by
  refine ⟨?_, List.drop_left' (by rw [bitsOfBytes_length])⟩
  have key : ∀ (ys zs : List Nat), (∀ x ∈ zs, x < 256) → bytesAt (bitsOfBytes ys ++ (bitsOfBytes zs ++ r)) ys.length zs.length = zs := by
    intro ys zs
    induction zs generalizing ys with
    | nil => intro _; rfl
    | cons z zs ih =>
      intro h
      rw [List.length_cons, bytesAt]
      have e : bitsOfBytes (z :: zs) = bitsOf z 8 ++ bitsOfBytes zs := by
        unfold bitsOfBytes
        rw [List.flatMap_cons]
      have h1 : numAt (bitsOfBytes ys ++ (bitsOfBytes (z :: zs) ++ r)) (8 * ys.length) 8 = z := by
        unfold numAt
        rw [List.drop_left' (by rw [bitsOfBytes_length]), e, List.append_assoc, List.take_left' (bitsOf_length z 8), numOf_small z 8 (h z (List.mem_cons_self ..))]
      have h2 : bitsOfBytes ys ++ (bitsOfBytes (z :: zs) ++ r) = bitsOfBytes (ys ++ [z]) ++ (bitsOfBytes zs ++ r) := by
        rw [bitsOfBytes_snoc, e]
        simp only [List.append_assoc]
      have h3 := ih (ys ++ [z]) (fun x hx => h x (List.mem_cons_of_mem _ hx))
      rw [h1, h2]
      congr 1
      rw [List.length_append] at h3
      exact h3
  exact key [] zs h8
theorem coded_more (f g : Nat) (r : List Bool) (out : List Nat) (x : List Bool × List Nat) (h : coded f r out = some x) : coded (f + g) r out = some x := by
  induction f generalizing r out with
  | zero => simp [coded] at h
  | succ f ih =>
    rw [Nat.succ_add]
    unfold coded at h ⊢
    cases h1 : getSym r with
    | none => rw [h1] at h; simp at h
    | some s =>
      rw [h1, Option.bind_some] at h
      rw [Option.bind_some]
      by_cases h2 : s.1 = 256
      · rw [if_pos h2] at h ⊢
        exact h
      · rw [if_neg h2] at h ⊢
        by_cases h3 : s.1 < 256
        · rw [if_pos h3] at h ⊢
          exact ih _ _ h
        · rw [if_neg h3] at h ⊢
          cases h4 : getNum (lext.getD (s.1 - 257) 0) s.2 with
          | none => rw [h4] at h; simp at h
          | some y =>
            rw [h4, Option.bind_some] at h
            rw [Option.bind_some]
            cases h5 : getTurned 5 y.2 with
            | none => rw [h5] at h; simp at h
            | some z =>
              rw [h5, Option.bind_some] at h
              rw [Option.bind_some]
              cases h6 : getNum (dext.getD z.1 0) z.2 with
              | none => rw [h6] at h; simp at h
              | some u =>
                rw [h6, Option.bind_some] at h
                rw [Option.bind_some]
                exact ih _ _ h
theorem fixedSym_some (n : Nat) : 1 ≤ (fixedSym n).length := by
  unfold fixedSym
  split
  · rw [turned_length]; omega
  · split
    · rw [turned_length]; omega
    · split
      · rw [turned_length]; omega
      · rw [turned_length]; omega
theorem tokBits_some (t : Tok) : 1 ≤ (tokBits t).length := by
  unfold tokBits
  split
  · exact fixedSym_some _
  · simp only [List.length_append]
    have := fixedSym_some (257 + find lens t.n)
    omega
theorem toks_bits (ts : List Tok) : ts.length ≤ (ts.flatMap tokBits).length := by
  induction ts with
  | nil => simp
  | cons t ts ih =>
    rw [List.flatMap_cons, List.length_cons, List.length_append]
    have := tokBits_some t
    omega
theorem getBlock_fixed (l : List Bool) (all : List Nat) (a to last : Nat) (r : List Bool) (h8 : ∀ x ∈ all, x < 256) (ha : a ≤ to) (ht : to ≤ all.length) (hl : last < 2) :
    ∃ X, fixedBlock l (tokens all a to) last = l ++ X ∧ getBlock l.length (X ++ r) (all.take a) = some (last, r, all.take to) := by
  refine ⟨bitsOf last 1 ++ (bitsOf 1 2 ++ ((tokens all a to).flatMap tokBits ++ fixedSym 256)), by unfold fixedBlock; simp only [List.append_assoc], ?_⟩
  simp only [List.append_assoc]
  unfold getBlock
  rw [getNum_put last 1 _ (by omega), Option.bind_some]
  simp only
  rw [getNum_put 1 2 _ (by decide), Option.bind_some, if_neg (show ¬ (1 : Nat) = 0 by decide), if_pos rfl]
  have hlen := toks_bits (tokens all a to)
  have hc := coded_put all to (to - a) a 0 r h8 ha ht (by omega)
  rw [Nat.add_zero] at hc
  have hm := coded_more _ (((tokens all a to).flatMap tokBits ++ (fixedSym 256 ++ r)).length - (tokens all a to).length) _ _ _ hc
  have e : (toks all to (to - a) a).length + 1 + (((tokens all a to).flatMap tokBits ++ (fixedSym 256 ++ r)).length - (tokens all a to).length) = ((tokens all a to).flatMap tokBits ++ (fixedSym 256 ++ r)).length + 1 := by
    have e1 : (toks all to (to - a) a).length = (tokens all a to).length := rfl
    rw [List.length_append, e1]
    omega
  rw [e] at hm
  have hm : coded (((tokens all a to).flatMap tokBits ++ (fixedSym 256 ++ r)).length + 1) ((tokens all a to).flatMap tokBits ++ (fixedSym 256 ++ r)) (all.take a) = some (r, all.take to) := hm
  rw [hm, Option.bind_some]
theorem getBlock_stored (l : List Bool) (all : List Nat) (a to last : Nat) (r : List Bool) (h8 : ∀ x ∈ all, x < 256) (ha : a ≤ to) (ht : to ≤ all.length) (hs : to - a < 65536) (hl : last < 2) :
    ∃ X, storedBlock l ((all.take to).drop a) last = l ++ X ∧ getBlock l.length (X ++ r) (all.take a) = some (last, r, all.take to) := by
  have hz : ((all.take to).drop a).length = to - a := by rw [List.length_drop, List.length_take]; omega
  have hcat : all.take a ++ (all.take to).drop a = all.take to := by
    have := List.take_append_drop a (all.take to)
    rwa [List.take_take, Nat.min_eq_left ha] at this
  have hz8 : ∀ x ∈ (all.take to).drop a, x < 256 := fun x hx => h8 x (List.mem_of_mem_take (List.mem_of_mem_drop hx))
  generalize (all.take to).drop a = zs at *
  have hpl : (l ++ bitsOf last 1 ++ bitsOf 0 2).length = l.length + 3 := by rw [List.length_append, List.length_append, bitsOf_length, bitsOf_length]
  refine ⟨bitsOf last 1 ++ (bitsOf 0 2 ++ (List.replicate ((8 - (l.length + 3) % 8) % 8) false ++ (bitsOf zs.length 16 ++ (bitsOf (65535 - zs.length) 16 ++ bitsOfBytes zs)))), ?_, ?_⟩
  · unfold storedBlock aligned
    rw [hpl]
    simp only [List.append_assoc]
  · simp only [List.append_assoc]
    unfold getBlock
    rw [getNum_put last 1 _ (by omega), Option.bind_some]
    simp only
    rw [getNum_put 0 2 _ (by decide), Option.bind_some, if_pos rfl, List.drop_left' (by rw [List.length_replicate]), getNum_put zs.length 16 _ (by omega), Option.bind_some]
    simp only
    rw [getNum_put (65535 - zs.length) 16 _ (by omega), Option.bind_some]
    obtain ⟨b1, b2⟩ := bytesAt_put zs r hz8
    simp only
    rw [b1, b2, hcat]
theorem getBlock_put (l : List Bool) (all : List Nat) (a to last : Nat) (r : List Bool) (h8 : ∀ x ∈ all, x < 256) (ha : a ≤ to) (ht : to ≤ all.length) (hs : to - a < 65536) (hl : last < 2) :
    ∃ X, blockOf l all a to last = l ++ X ∧ getBlock l.length (X ++ r) (all.take a) = some (last, r, all.take to) := by
  unfold blockOf
  split
  · exact getBlock_stored l all a to last r h8 ha ht hs hl
  · exact getBlock_fixed l all a to last r h8 ha ht hl
/-! ### The stream -/
def inflates : Nat → Nat → List Bool → List Nat → Option (List Nat × List Bool)
  | 0, _, _, _ => none
  | f + 1, pos, r, out => (getBlock pos r out).bind fun x => if x.1 = 1 then some (x.2.2, x.2.1) else inflates f (pos + (r.length - x.2.1.length)) x.2.1 x.2.2
/-- What is told comes back, whatever stands behind it. -/
theorem inflates_put (all : List Nat) (d k g : Nat) (rest : List Bool) (h8 : ∀ x ∈ all, x < 256) (hk : k + d = fullOf all.length) :
    ∃ Y, blockOf (blocksOf all (fullOf all.length)) all (4096 * fullOf all.length) all.length 1 = blocksOf all k ++ Y ∧ inflates (d + 1 + g) (blocksOf all k).length (Y ++ rest) (all.take (4096 * k)) = some (all, rest) := by
  have hJ : 4096 * fullOf all.length ≤ all.length := by unfold fullOf; omega
  have hJ2 : all.length - 4096 * fullOf all.length < 65536 := by unfold fullOf; omega
  induction d generalizing k with
  | zero =>
    obtain rfl : k = fullOf all.length := by omega
    obtain ⟨X, hX, hg⟩ := getBlock_put (blocksOf all (fullOf all.length)) all (4096 * fullOf all.length) all.length 1 rest h8 hJ (Nat.le_refl _) hJ2 (by decide)
    refine ⟨X, hX, ?_⟩
    rw [show 0 + 1 + g = g + 1 by omega]
    unfold inflates
    rw [hg, Option.bind_some, if_pos rfl, List.take_length]
  | succ d ih =>
    obtain ⟨Y, hY, hi⟩ := ih (k + 1) (by omega)
    have hk2 : 4096 * (k + 1) ≤ all.length := by
      have : k + 1 ≤ fullOf all.length := by omega
      have := Nat.mul_le_mul_left 4096 this
      omega
    obtain ⟨X, hX, hg⟩ := getBlock_put (blocksOf all k) all (4096 * k) (4096 * (k + 1)) 0 (Y ++ rest) h8 (by omega) hk2 (by omega) (by decide)
    have hb : blocksOf all (k + 1) = blocksOf all k ++ X := hX
    refine ⟨X ++ Y, by rw [hY, hb, List.append_assoc], ?_⟩
    rw [show d + 1 + 1 + g = (d + 1 + g) + 1 by omega]
    unfold inflates
    rw [List.append_assoc, hg, Option.bind_some, if_neg (show ¬ (0 : Nat) = 1 by decide)]
    have e : (blocksOf all k).length + ((X ++ (Y ++ rest)).length - (Y ++ rest).length) = (blocksOf all (k + 1)).length := by
      rw [hb]
      simp only [List.length_append]
      omega
    simp only
    rw [e]
    exact hi
theorem inflates_end (all : List Nat) (g : Nat) (rest : List Bool) (h8 : ∀ x ∈ all, x < 256) : ∃ y, inflates (fullOf all.length + 1 + g) 0 (endOf all ++ rest) [] = some (all, y) := by
  obtain ⟨Y, hY, hi⟩ := inflates_put all (fullOf all.length) 0 g (List.replicate ((8 - (blockOf (blocksOf all (fullOf all.length)) all (4096 * fullOf all.length) all.length 1).length % 8) % 8) false ++ rest) h8 (by omega)
  refine ⟨List.replicate ((8 - (blockOf (blocksOf all (fullOf all.length)) all (4096 * fullOf all.length) all.length 1).length % 8) % 8) false ++ rest, ?_⟩
  unfold endOf aligned
  rw [List.append_assoc]
  have hY' : blockOf (blocksOf all (fullOf all.length)) all (4096 * fullOf all.length) all.length 1 = Y := by rw [hY]; rfl
  rw [← hY'] at hi
  exact hi
/-- Unlike bytes have unlike streams, neither the begin of the other. -/
theorem streams_unlike (b c : List Nat) (x : List Bool) (hb : ∀ z ∈ b, z < 256) (hc : ∀ z ∈ c, z < 256) (h : endOf b ++ x = endOf c) : b = c := by
  obtain ⟨y, h1⟩ := inflates_end b (fullOf c.length) x hb
  obtain ⟨y2, h2⟩ := inflates_end c (fullOf b.length) [] hc
  rw [List.append_nil, ← h, show fullOf c.length + 1 + fullOf b.length = fullOf b.length + 1 + fullOf c.length by omega, h1] at h2
  exact (Prod.mk.inj (Option.some.inj h2)).1
end Go.Proofs.Ytefdlidjdmlnaaa.Fx
namespace Go.Proofs.Ytefdlidjdmlnaaa.Fx
theorem bytesAt_front (l X : List Bool) (i m : Nat) (h : 8 * (i + m) ≤ l.length) : bytesAt (l ++ X) i m = bytesAt l i m := by
  induction m generalizing i with
  | zero => rfl
  | succ m ih =>
    rw [bytesAt, bytesAt, ih (i + 1) (by omega)]
    congr 1
    unfold numAt
    rw [List.drop_append_of_le_length (by omega), List.take_append_of_le_length (by rw [List.length_drop]; omega)]
/-- The bits of what is written, as far as they go out. -/
def outOf (all : List Nat) : List Bool := blocksOf all (fullOf all.length)
/-- All bytes of a stream. -/
def wholeOf (all : List Nat) : List Nat := bytesAt (endOf all) 0 ((endOf all).length / 8)
theorem fullOf_le (n : Nat) : 4096 * fullOf n ≤ n := by
  unfold fullOf
  omega
theorem fullOf_mono {n m : Nat} (h : n ≤ m) : fullOf n ≤ fullOf m := by
  unfold fullOf
  omega
theorem outOf_more (all x : List Nat) : ∃ y, outOf (all ++ x) = outOf all ++ y := by
  unfold outOf
  obtain ⟨d, hd⟩ : ∃ d, fullOf (all ++ x).length = fullOf all.length + d := ⟨fullOf (all ++ x).length - fullOf all.length, by have := fullOf_mono (n := all.length) (m := (all ++ x).length) (by simp); omega⟩
  obtain ⟨y, hy⟩ := blocksOf_more (all ++ x) (fullOf all.length) d
  rw [hd, hy, blocksOf_local all x _ (fullOf_le _)]
  exact ⟨y, rfl⟩
theorem endOf_more (all : List Nat) : ∃ y, endOf all = outOf all ++ y := by
  obtain ⟨y, hy⟩ := blockOf_more (blocksOf all (fullOf all.length)) all (4096 * fullOf all.length) all.length 1
  unfold endOf outOf aligned
  rw [hy, List.append_assoc]
  exact ⟨_, rfl⟩
/-- What goes out behind what went out. -/
theorem went_on (l y : List Bool) : bytesAt l 0 (l.length / 8) ++ bytesAt (l ++ y) (l.length / 8) ((l ++ y).length / 8 - l.length / 8) = bytesAt (l ++ y) 0 ((l ++ y).length / 8) := by
  have h := bytesAt_add (l ++ y) 0 (l.length / 8) ((l ++ y).length / 8 - l.length / 8)
  have e : l.length / 8 + ((l ++ y).length / 8 - l.length / 8) = (l ++ y).length / 8 := by
    rw [List.length_append]
    omega
  rw [e, Nat.zero_add, bytesAt_front l y 0 (l.length / 8) (by omega)] at h
  exact h.symm
/-- What was told by then, and what a piece more tells. -/
def toldOf (all : List Nat) : List Nat := bytesAt (outOf all) 0 ((outOf all).length / 8)
theorem told_more (all x : List Nat) : toldOf all ++ bytesAt (outOf (all ++ x)) ((outOf all).length / 8) ((outOf (all ++ x)).length / 8 - (outOf all).length / 8) = toldOf (all ++ x) := by
  obtain ⟨y, hy⟩ := outOf_more all x
  unfold toldOf
  rw [hy]
  exact went_on _ _
theorem told_end (all : List Nat) : toldOf all ++ bytesAt (endOf all) ((outOf all).length / 8) ((endOf all).length / 8 - (outOf all).length / 8) = wholeOf all := by
  obtain ⟨y, hy⟩ := endOf_more all
  unfold toldOf wholeOf
  rw [hy]
  exact went_on _ _
/-- What is told is the begin of the whole, whatever comes behind. -/
theorem told_begin (all x : List Nat) : ∃ y, wholeOf (all ++ x) = toldOf all ++ y := by
  rw [← told_end (all ++ x), ← told_more all x, List.append_assoc]
  exact ⟨_, rfl⟩
theorem whole_length (all : List Nat) : (wholeOf all).length ≤ all.length + 5 * max ((all.length + 4095) / 4096) 1 ∧ 0 < (wholeOf all).length := by
  obtain ⟨h1, h2⟩ := endOf_length all
  unfold wholeOf
  rw [bytesAt_length]
  have hf : fullOf all.length + 1 = max ((all.length + 4095) / 4096) 1 := by
    unfold fullOf
    omega
  refine ⟨by rw [← hf]; exact h1, ?_⟩
  have h3 : 0 < (endOf all).length := by
    rcases Nat.eq_zero_or_pos (endOf all).length with h | h
    · exfalso
      unfold endOf at h
      rw [aligned_length] at h
      unfold blockOf fixedBlock at h
      split at h
      · rw [storedBlock_length] at h
        omega
      · simp only [List.length_append, bitsOf_length] at h
        omega
    · exact h
  omega
theorem whole_bytes (all : List Nat) : ∀ z ∈ wholeOf all, z < 256 := bytesAt_bytes _ _ _
theorem whole_bits (all : List Nat) : bitsOfBytes (wholeOf all) = endOf all := by
  obtain ⟨_, h2⟩ := endOf_length all
  unfold wholeOf
  rw [bits_bytes _ _ _ (by omega), Nat.mul_zero, List.drop_zero, show 8 * ((endOf all).length / 8) = (endOf all).length by omega, List.take_length]
theorem bitsOfBytes_append (x y : List Nat) : bitsOfBytes (x ++ y) = bitsOfBytes x ++ bitsOfBytes y := by
  unfold bitsOfBytes
  rw [List.flatMap_append]
/-- Streams are alike as far as both go just where the bytes are the same. -/
theorem wholes_alike (b c : List Nat) (hb : ∀ z ∈ b, z < 256) (hc : ∀ z ∈ c, z < 256) (h : (wholeOf b).take (min (wholeOf b).length (wholeOf c).length) = (wholeOf c).take (min (wholeOf b).length (wholeOf c).length)) : b = c := by
  rcases Nat.le_total (wholeOf b).length (wholeOf c).length with hl | hl
  · rw [Nat.min_eq_left hl, List.take_length] at h
    have e : wholeOf c = wholeOf b ++ (wholeOf c).drop (wholeOf b).length := by
      have := List.take_append_drop (wholeOf b).length (wholeOf c)
      rw [← h] at this
      exact this.symm
    refine streams_unlike b c (bitsOfBytes ((wholeOf c).drop (wholeOf b).length)) hb hc ?_
    rw [← whole_bits b, ← whole_bits c, ← bitsOfBytes_append, ← e]
  · rw [Nat.min_eq_right hl, List.take_length] at h
    have e : wholeOf b = wholeOf c ++ (wholeOf b).drop (wholeOf c).length := by
      have := List.take_append_drop (wholeOf c).length (wholeOf b)
      rw [h] at this
      exact this.symm
    refine (streams_unlike c b (bitsOfBytes ((wholeOf b).drop (wholeOf c).length)) hc hb ?_).symm
    rw [← whole_bits b, ← whole_bits c, ← bitsOfBytes_append, ← e]
end Go.Proofs.Ytefdlidjdmlnaaa.Fx
namespace Go.Proofs.Ytefdlidjdmlnaaa.Fx
set_option linter.unusedVariables false
/-- The three bytes from i on as one number. -/
def three (b : List Nat) (i : Nat) : Nat := b.getD i 0 + 256 * b.getD (i + 1) 0 + 65536 * b.getD (i + 2) 0
/-- How many bytes from i on, as many as most, are those that stand d back. -/
def sm (b : List Nat) (i d : Nat) : Nat := same b (i - d) i b.length
theorem sameFrom_end (b : List Nat) (p i to f n : Nat) : sameFrom b p i to f n = n + f ∨ ¬ (i + sameFrom b p i to f n < to ∧ b[p + sameFrom b p i to f n]? = b[i + sameFrom b p i to f n]?) := by
  induction f generalizing n with
  | zero => exact .inl rfl
  | succ f ih =>
    unfold sameFrom
    split
    · rcases ih (n + 1) with h | h
      · exact .inl (by omega)
      · exact .inr h
    · rename_i hc
      exact .inr hc
/-- What a count of the same bytes comes to. -/
theorem sm_of (b : List Nat) (i d n : Nat) (hd : d ≤ i) (hi : i ≤ b.length) (hn : n ≤ 258) (hm : i + n ≤ b.length) (hs : ∀ j, j < n → b[i - d + j]? = b[i + j]?) (he : n = 258 ∨ i + n = b.length ∨ b[i - d + n]? ≠ b[i + n]?) : sm b i d = n := by
  obtain ⟨h1, h2, h3⟩ := same_spec b (i - d) i b.length
  have h4 := sameFrom_end b (i - d) i b.length 258 0
  unfold sm
  unfold same at *
  generalize sameFrom b (i - d) i b.length 258 0 = m at *
  rcases Nat.lt_trichotomy m n with h | h | h
  · exfalso
    rcases h4 with h4 | h4
    · omega
    · exact h4 ⟨by omega, hs m h⟩
  · exact h
  · exfalso
    rcases he with he | he | he
    · omega
    · rcases h2 with h2 | h2 <;> omega
    · exact he (h3 n h)
theorem sm_le (b : List Nat) (i d : Nat) (hi : i ≤ b.length) : sm b i d ≤ 258 ∧ i + sm b i d ≤ b.length := by
  obtain ⟨h1, h2, _⟩ := same_spec b (i - d) i b.length
  refine ⟨h1, ?_⟩
  unfold sm
  rcases h2 with h2 | h2 <;> omega
theorem sm_same (b : List Nat) (i d j : Nat) (hj : j < sm b i d) : b[i - d + j]? = b[i + j]? := (same_spec b (i - d) i b.length).2.2 j hj
theorem getD_eq (b : List Nat) {p q : Nat} (h : b[p]? = b[q]?) : b.getD p 0 = b.getD q 0 := by
  rw [List.getD_eq_getElem?_getD, List.getD_eq_getElem?_getD, h]
/-- Where more than n bytes are the same, the three that end at the n-th one are. -/
theorem three_of_sm (b : List Nat) (i d n : Nat) (hd : d ≤ i) (hn : 2 ≤ n) (h : n < sm b i d) : three b (i + n - 2 - d) = three b (i + n - 2) := by
  have h0 := getD_eq b (sm_same b i d (n - 2) (by omega))
  have h1 := getD_eq b (sm_same b i d (n - 1) (by omega))
  have h2 := getD_eq b (sm_same b i d n h)
  unfold three
  rw [show i + n - 2 - d = i - d + (n - 2) by omega, show i - d + (n - 2) + 1 = i - d + (n - 1) by omega, show i - d + (n - 2) + 2 = i - d + n by omega, show i + n - 2 = i + (n - 2) by omega, show i + (n - 2) + 1 = i + (n - 1) by omega, show i + (n - 2) + 2 = i + n by omega, h0, h1, h2]
theorem three_bytes (b : List Nat) (h8 : ∀ x ∈ b, x < 256) (i : Nat) : b.getD i 0 < 256 := by
  rw [List.getD_eq_getElem?_getD]
  cases h : b[i]? with
  | none => simp
  | some x =>
    obtain ⟨hi, rfl⟩ := List.getElem?_eq_some_iff.1 h
    exact h8 _ (List.getElem_mem hi)
theorem three_lt (b : List Nat) (h8 : ∀ x ∈ b, x < 256) (i : Nat) : three b i < 16777216 := by
  have h0 := three_bytes b h8 i
  have h1 := three_bytes b h8 (i + 1)
  have h2 := three_bytes b h8 (i + 2)
  unfold three
  omega
theorem three_inj (b : List Nat) (h8 : ∀ x ∈ b, x < 256) (p q : Nat) (h : three b p = three b q) : b.getD p 0 = b.getD q 0 ∧ b.getD (p + 1) 0 = b.getD (q + 1) 0 ∧ b.getD (p + 2) 0 = b.getD (q + 2) 0 := by
  have h0 := three_bytes b h8 p
  have h1 := three_bytes b h8 (p + 1)
  have h2 := three_bytes b h8 (p + 2)
  have k0 := three_bytes b h8 q
  have k1 := three_bytes b h8 (q + 1)
  have k2 := three_bytes b h8 (q + 2)
  unfold three at h
  omega
/-- Of each place with three bytes: down to the next place of the same three. -/
structure Steps (b st : List Nat) : Prop where
  len : st.length ≤ b.length - 2
  hit : ∀ (i s : Nat), st[i]? = some s → s ≠ 0 → s ≤ i → three b (i - s) = three b i
  gap : ∀ (i s p : Nat), st[i]? = some s → p < i → s = 0 ∨ i < p + s → three b p ≠ three b i
  small : ∀ (i s : Nat), st[i]? = some s → s ≤ 65536
theorem Steps.start : Steps [] [] := ⟨by simp, fun i s h => by simp at h, fun i s p h => by simp at h, fun i s h => by simp at h⟩
theorem getD_append (b x : List Nat) (i : Nat) (h : i < b.length) : (b ++ x).getD i 0 = b.getD i 0 := by
  rw [List.getD_eq_getElem?_getD, List.getD_eq_getElem?_getD, List.getElem?_append_left h]
theorem three_append (b x : List Nat) (i : Nat) (h : i + 3 ≤ b.length) : three (b ++ x) i = three b i := by
  unfold three
  rw [getD_append b x i (by omega), getD_append b x (i + 1) (by omega), getD_append b x (i + 2) (by omega)]
theorem Steps.more {b st : List Nat} (h : Steps b st) (x : List Nat) : Steps (b ++ x) st := by
  have hl := h.len
  refine ⟨by rw [List.length_append]; omega, fun i s hs h0 hi => ?_, fun i s p hs hp hc => ?_, h.small⟩
  · have := (List.getElem?_eq_some_iff.1 hs).1
    rw [three_append b x _ (by omega), three_append b x _ (by omega)]
    exact h.hit i s hs h0 hi
  · have := (List.getElem?_eq_some_iff.1 hs).1
    rw [three_append b x _ (by omega), three_append b x _ (by omega)]
    exact h.gap i s p hs hp hc
theorem three_drop (b : List Nat) (n i : Nat) : three (b.drop n) i = three b (n + i) := by
  unfold three
  simp only [List.getD_eq_getElem?_getD, List.getElem?_drop]
  simp only [Nat.add_assoc]
theorem Steps.drop {b st : List Nat} (h : Steps b st) (n : Nat) : Steps (b.drop n) (st.drop n) := by
  have hl := h.len
  refine ⟨by rw [List.length_drop, List.length_drop]; omega, fun i s hs h0 hi => ?_, fun i s p hs hp hc => ?_, fun i s hs => ?_⟩
  · rw [List.getElem?_drop] at hs
    rw [three_drop, three_drop, ← h.hit (n + i) s hs h0 (by omega), show n + i - s = n + (i - s) by omega]
  · rw [List.getElem?_drop] at hs
    rw [three_drop, three_drop]
    exact h.gap (n + i) s (n + p) hs (by omega) (by omega)
  · rw [List.getElem?_drop] at hs
    exact h.small _ _ hs
/-- The greatest place below m with these three bytes. -/
def lastOf (b : List Nat) (t : Nat) : Nat → Option Nat
  | 0 => none
  | m + 1 => if three b m = t then some m else lastOf b t m
theorem lastOf_some {b : List Nat} {t m p : Nat} (h : lastOf b t m = some p) : p < m ∧ three b p = t ∧ ∀ q, p < q → q < m → three b q ≠ t := by
  induction m with
  | zero => cases h
  | succ m ih =>
    unfold lastOf at h
    split at h
    · cases h
      rename_i h1
      exact ⟨by omega, h1, fun q h2 h3 => by omega⟩
    · rename_i h1
      obtain ⟨a, b2, c⟩ := ih h
      refine ⟨by omega, b2, fun q h2 h3 => ?_⟩
      rcases Nat.lt_or_ge q m with h4 | h4
      · exact c q h2 h4
      · obtain rfl : q = m := by omega
        exact h1
theorem lastOf_none {b : List Nat} {t m : Nat} (h : lastOf b t m = none) : ∀ q, q < m → three b q ≠ t := by
  induction m with
  | zero => intro q hq; omega
  | succ m ih =>
    unfold lastOf at h
    split at h
    · cases h
    · rename_i h1
      intro q hq
      rcases Nat.lt_or_ge q m with h4 | h4
      · exact ih h q h4
      · obtain rfl : q = m := by omega
        exact h1
theorem lastOf_append (b x : List Nat) (t m : Nat) (h : m + 2 ≤ b.length ∨ m = 0) : lastOf (b ++ x) t m = lastOf b t m := by
  induction m with
  | zero => rfl
  | succ m ih =>
    unfold lastOf
    rw [three_append b x m (by omega), ih (by omega)]
theorem lastOf_is {b : List Nat} {t m p : Nat} (hp : p < m) (ht : three b p = t) (hn : ∀ q, p < q → q < m → three b q ≠ t) : lastOf b t m = some p := by
  cases h : lastOf b t m with
  | none => exact absurd ht (lastOf_none h p hp)
  | some q =>
    obtain ⟨h1, h2, h3⟩ := lastOf_some h
    rcases Nat.lt_trichotomy p q with h4 | h4 | h4
    · exact absurd h2 (hn q h4 h1)
    · rw [h4]
    · exact absurd ht (h3 p h4 hp)
theorem lastOf_not {b : List Nat} {t m : Nat} (hn : ∀ q, q < m → three b q ≠ t) : lastOf b t m = none := by
  cases h : lastOf b t m with
  | none => rfl
  | some q => exact absurd (lastOf_some h).2.1 (hn q (lastOf_some h).1)
/-- The step of a place that is added. -/
def stepOf (b : List Nat) (i : Nat) : Nat := match lastOf b (three b i) i with
  | some p => i - p
  | none => 0
theorem Steps.snoc {b st : List Nat} (h : Steps b st) (hl : st.length + 3 ≤ b.length) (hs : b.length ≤ 65536) : Steps b (st ++ [stepOf b st.length]) := by
  have key : ∀ s, s = stepOf b st.length → (s ≠ 0 → s ≤ st.length → three b (st.length - s) = three b st.length) ∧ (∀ p, p < st.length → s = 0 ∨ st.length < p + s → three b p ≠ three b st.length) ∧ s ≤ 65536 := by
    rintro s rfl
    unfold stepOf
    cases hq : lastOf b (three b st.length) st.length with
    | none => exact ⟨fun h => absurd rfl h, fun p hp _ => lastOf_none hq p hp, by simp⟩
    | some q =>
      obtain ⟨h1, h2, h3⟩ := lastOf_some hq
      refine ⟨fun _ _ => ?_, fun p hp hc => ?_, by simp only; omega⟩
      · simp only
        rw [show st.length - (st.length - q) = q by omega]
        exact h2
      · simp only at hc
        exact h3 p (by omega) hp
  have at' : ∀ i s, (st ++ [stepOf b st.length])[i]? = some s → st[i]? = some s ∨ (i = st.length ∧ s = stepOf b st.length) := by
    intro i s hi
    rcases Nat.lt_or_ge i st.length with h1 | h1
    · rw [List.getElem?_append_left h1] at hi
      exact .inl hi
    · rw [List.getElem?_append_right h1] at hi
      have h2 := (List.getElem?_eq_some_iff.1 hi).1
      simp only [List.length_singleton] at h2
      obtain rfl : i = st.length := by omega
      simp only [Nat.sub_self, List.getElem?_cons_zero, Option.some.injEq] at hi
      exact .inr ⟨rfl, hi.symm⟩
  refine ⟨by rw [List.length_append, List.length_singleton]; omega, fun i s hi h0 h1 => ?_, fun i s p hi hp hc => ?_, fun i s hi => ?_⟩
  · rcases at' i s hi with h2 | ⟨rfl, h2⟩
    · exact h.hit i s h2 h0 h1
    · exact (key s h2).1 h0 h1
  · rcases at' i s hi with h2 | ⟨rfl, h2⟩
    · exact h.gap i s p h2 hp hc
    · exact (key s h2).2.1 p hp hc
  · rcases at' i s hi with h2 | ⟨rfl, h2⟩
    · exact h.small i s h2
    · exact (key s h2).2.2
/-! ### The search -/
/-- What is known while it goes on: the best match n, back; from which three bytes it goes, and how far back it is. -/
structure Seek (b : List Nat) (i n back fr d : Nat) : Prop where
  at_ : (n = 0 ∧ back = 0 ∧ fr = i) ∨ (3 ≤ n ∧ n < 258 ∧ i + n < b.length ∧ fr = i + n - 2 ∧ 1 ≤ back ∧ back ≤ min i 32768 ∧ sm b i back = n)
  low : ∀ k, 1 ≤ k → k < back → sm b i k < n
  done : ∀ k, 1 ≤ k → k ≤ d → k ≤ back ∨ sm b i k ≤ max n 2
  same : d ≤ min i 32768 ∧ three b (fr - d) = three b fr
/-- What the search comes to. -/
def Found (b : List Nat) (i n back : Nat) : Prop :=
  (n = 0 ∧ back = 0 ∧ ∀ k, 1 ≤ k → k ≤ min i 32768 → sm b i k ≤ 2) ∨ (3 ≤ n ∧ 1 ≤ back ∧ back ≤ min i 32768 ∧ sm b i back = n ∧ (∀ k, 1 ≤ k → k < back → sm b i k < n) ∧ ∀ k, 1 ≤ k → k ≤ min i 32768 → sm b i k ≤ n)
theorem Seek.start (b : List Nat) (i : Nat) : Seek b i 0 0 i 0 := ⟨.inl ⟨rfl, rfl, rfl⟩, fun k h1 h2 => by omega, fun k h1 h2 => by omega, ⟨by omega, rfl⟩⟩
theorem Found.short (b : List Nat) (i : Nat) (hi : i ≤ b.length) (h : b.length < i + 3) : Found b i 0 0 := .inl ⟨rfl, rfl, fun k _ _ => by have := sm_le b i k hi; omega⟩
theorem Seek.fr_le {b : List Nat} {i n back fr d : Nat} (h : Seek b i n back fr d) (hi : i + 3 ≤ b.length) : i ≤ fr ∧ fr + 3 ≤ b.length := by
  rcases h.at_ with ⟨_, _, rfl⟩ | ⟨h1, _, h2, rfl, _⟩ <;> omega
/-- The places between two of the same three bytes have no better match. -/
theorem Seek.between {b st : List Nat} {i n back fr d s : Nat} (h : Seek b i n back fr d) (hb : Steps b st) (hi : i + 3 ≤ b.length) (hs : st[fr - d]? = some s) (k : Nat) (hk : d < k) (h2 : s = 0 ∨ k < d + s) (hm : k ≤ min i 32768) : k ≤ back ∨ sm b i k ≤ max n 2 := by
  obtain ⟨h3, h4⟩ := h.same
  have h5 := h.fr_le hi
  rcases Nat.lt_or_ge (max n 2) (sm b i k) with h6 | h6
  · exfalso
    have h7 : three b (fr - k) = three b fr := by
      rcases h.at_ with ⟨rfl, rfl, rfl⟩ | ⟨a1, a2, a3, rfl, _⟩
      · have := three_of_sm b fr k 2 (by omega) (by omega) (by omega)
        simpa using this
      · exact three_of_sm b i k n (by omega) (by omega) (by omega)
    exact hb.gap (fr - d) s (fr - k) hs (by omega) (by omega) (h7.trans h4.symm)
  · exact .inr h6
theorem Seek.over {b st : List Nat} {i n back fr d s : Nat} (h : Seek b i n back fr d) (hb : Steps b st) (hi : i + 3 ≤ b.length) (hs : st[fr - d]? = some s) (hz : s = 0 ∨ min i 32768 < d + s) : Found b i n back := by
  have all : ∀ k, 1 ≤ k → k ≤ min i 32768 → k ≤ back ∨ sm b i k ≤ max n 2 := fun k h1 h2 => by
    rcases Nat.lt_or_ge d k with h3 | h3
    · exact h.between hb hi hs k h3 (by omega) h2
    · exact h.done k h1 h3
  rcases h.at_ with ⟨rfl, rfl, rfl⟩ | ⟨a1, a2, a3, a4, a5, a6, a7⟩
  · exact .inl ⟨rfl, rfl, fun k h1 h2 => by have := all k h1 h2; omega⟩
  · refine .inr ⟨a1, a5, a6, a7, h.low, fun k h1 h2 => ?_⟩
    rcases all k h1 h2 with h3 | h3
    · rcases Nat.lt_or_ge k back with h4 | h4
      · exact Nat.le_of_lt (h.low k h1 h4)
      · obtain rfl : k = back := by omega
        omega
    · omega
theorem Seek.next {b st : List Nat} {i n back fr d s : Nat} (h : Seek b i n back fr d) (hb : Steps b st) (hi : i + 3 ≤ b.length) (hs : st[fr - d]? = some s) (h0 : s ≠ 0) (hm : d + s ≤ min i 32768) : three b (fr - (d + s)) = three b fr ∧ ∀ k, 1 ≤ k → k < d + s → k ≤ back ∨ sm b i k ≤ max n 2 := by
  have h5 := h.fr_le hi
  refine ⟨?_, fun k h1 h2 => ?_⟩
  · have := hb.hit (fr - d) s hs h0 (by omega)
    rw [show fr - (d + s) = fr - d - s by omega, this]
    exact h.same.2
  · rcases Nat.lt_or_ge d k with h3 | h3
    · exact h.between hb hi hs k h3 (.inr h2) (by omega)
    · exact h.done k h1 h3
/-- A place that was asked already, or is no better. -/
theorem Seek.on {b st : List Nat} {i n back fr d s : Nat} (h : Seek b i n back fr d) (hb : Steps b st) (hi : i + 3 ≤ b.length) (hs : st[fr - d]? = some s) (h0 : s ≠ 0) (hm : d + s ≤ min i 32768) (hc : d + s ≤ back ∨ sm b i (d + s) ≤ n) : Seek b i n back fr (d + s) := by
  obtain ⟨h1, h2⟩ := h.next hb hi hs h0 hm
  refine ⟨h.at_, h.low, fun k h3 h4 => ?_, ⟨hm, h1⟩⟩
  rcases Nat.lt_or_ge k (d + s) with h5 | h5
  · exact h2 k h3 h5
  · obtain rfl : k = d + s := by omega
    omega
theorem sm_three (b : List Nat) (h8 : ∀ x ∈ b, x < 256) (i d : Nat) (hd : d ≤ i) (hi : i + 3 ≤ b.length) (h : three b (i - d) = three b i) : 3 ≤ sm b i d := by
  obtain ⟨h0, h1, h2⟩ := three_inj b h8 _ _ h
  have at' : ∀ j, j < 3 → b[i - d + j]? = b[i + j]? := by
    have el : ∀ p q, p < b.length → q < b.length → b.getD p 0 = b.getD q 0 → b[p]? = b[q]? := by
      intro p q hp hq h
      rw [List.getD_eq_getElem?_getD, List.getD_eq_getElem?_getD, List.getElem?_eq_getElem hp, List.getElem?_eq_getElem hq] at h
      rw [List.getElem?_eq_getElem hp, List.getElem?_eq_getElem hq]
      exact congrArg some h
    intro j hj
    rcases j with _ | _ | _ | j
    · exact el _ _ (by omega) (by omega) h0
    · exact el _ _ (by omega) (by omega) h1
    · exact el _ _ (by omega) (by omega) h2
    · omega
  rcases Nat.lt_or_ge (sm b i d) 3 with h3 | h3
  · exfalso
    have h4 := sameFrom_end b (i - d) i b.length 258 0
    have h5 : sm b i d = sameFrom b (i - d) i b.length 258 0 := rfl
    rw [← h5] at h4
    rcases h4 with h4 | h4
    · omega
    · exact h4 ⟨by omega, at' _ h3⟩
  · exact h3
theorem Seek.better {b st : List Nat} {i n back fr d s : Nat} (h : Seek b i n back fr d) (hb : Steps b st) (h8 : ∀ x ∈ b, x < 256) (hi : i + 3 ≤ b.length) (hs : st[fr - d]? = some s) (h0 : s ≠ 0) (hm : d + s ≤ min i 32768) (hc : n < sm b i (d + s)) :
    3 ≤ sm b i (d + s) ∧ (∀ k, 1 ≤ k → k < d + s → sm b i k < sm b i (d + s)) := by
  obtain ⟨h1, h2⟩ := h.next hb hi hs h0 hm
  have h3 : 3 ≤ sm b i (d + s) := by
    rcases h.at_ with ⟨rfl, rfl, rfl⟩ | ⟨a1, _⟩
    · exact sm_three b h8 fr (d + s) (by omega) hi h1
    · omega
  refine ⟨h3, fun k k1 k2 => ?_⟩
  rcases h2 k k1 k2 with h4 | h4
  · rcases Nat.lt_or_ge k back with h5 | h5
    · have := h.low k k1 h5
      omega
    · rcases h.at_ with ⟨rfl, rfl, rfl⟩ | ⟨a1, a2, a3, a4, a5, a6, a7⟩
      · omega
      · obtain rfl : k = back := by omega
        omega
  · omega
/-- The longest that may be. -/
theorem Seek.most {b st : List Nat} {i n back fr d s : Nat} (h : Seek b i n back fr d) (hb : Steps b st) (h8 : ∀ x ∈ b, x < 256) (hi : i + 3 ≤ b.length) (hs : st[fr - d]? = some s) (h0 : s ≠ 0) (hm : d + s ≤ min i 32768) (hc : n < sm b i (d + s)) (he : sm b i (d + s) = min 258 (b.length - i)) : Found b i (sm b i (d + s)) (d + s) := by
  obtain ⟨h1, h2⟩ := h.better hb h8 hi hs h0 hm hc
  refine .inr ⟨h1, by omega, hm, rfl, h2, fun k _ _ => ?_⟩
  have := sm_le b i k (by omega)
  omega
theorem Seek.again {b st : List Nat} {i n back fr d s : Nat} (h : Seek b i n back fr d) (hb : Steps b st) (h8 : ∀ x ∈ b, x < 256) (hi : i + 3 ≤ b.length) (hs : st[fr - d]? = some s) (h0 : s ≠ 0) (hm : d + s ≤ min i 32768) (hc : n < sm b i (d + s)) (he : sm b i (d + s) < min 258 (b.length - i)) : Seek b i (sm b i (d + s)) (d + s) (i + sm b i (d + s) - 2) 0 := by
  obtain ⟨h1, h2⟩ := h.better hb h8 hi hs h0 hm hc
  exact ⟨.inr ⟨h1, by omega, by omega, rfl, by omega, hm, rfl⟩, h2, fun k k1 k2 => by omega, ⟨by omega, rfl⟩⟩
/-! ### The document's match -/
theorem bestOf_found (b : List Nat) (i n back : Nat) (h3 : 3 ≤ n) (j : Nat) (h1 : 1 ≤ back) (h2 : back ≤ j) (hj : j ≤ i) (he : sm b i back = n) (hl : ∀ k, 1 ≤ k → k < back → sm b i k < n) (hg : ∀ k, 1 ≤ k → k ≤ j → sm b i k ≤ n) : bestOf b i b.length j = (n, i - back) := by
  induction j with
  | zero => omega
  | succ j ih =>
    have e : same b (i - 1 - j) i b.length = sm b i (j + 1) := by unfold sm; rw [show i - 1 - j = i - (j + 1) by omega]
    unfold bestOf
    rw [e]
    rcases Nat.lt_or_ge back (j + 1) with h | h
    · rw [ih (by omega) (by omega) (fun k k1 k2 => hg k k1 (by omega)), if_neg (by have := hg (j + 1) (by omega) (by omega); simp only; omega)]
    · obtain rfl : back = j + 1 := by omega
      have low : ∀ j', j' < j + 1 → (bestOf b i b.length j').1 < n := by
        intro j' hj'
        induction j' with
        | zero => simp only [bestOf]; omega
        | succ j' ih' =>
          have := hl (j' + 1) (by omega) (by omega)
          unfold bestOf
          have e' : same b (i - 1 - j') i b.length = sm b i (j' + 1) := by unfold sm; rw [show i - 1 - j' = i - (j' + 1) by omega]
          rw [e']
          split
          · exact this
          · exact ih' (by omega)
      rw [if_pos (by rw [he]; exact low j (by omega)), he, show i - 1 - j = i - (j + 1) by omega]
theorem bestOf_small (b : List Nat) (i j : Nat) (hj : j ≤ i) (hg : ∀ k, 1 ≤ k → k ≤ j → sm b i k ≤ 2) : (bestOf b i b.length j).1 ≤ 2 := by
  induction j with
  | zero => simp [bestOf]
  | succ j ih =>
    have e : same b (i - 1 - j) i b.length = sm b i (j + 1) := by unfold sm; rw [show i - 1 - j = i - (j + 1) by omega]
    unfold bestOf
    rw [e]
    split
    · exact hg (j + 1) (by omega) (by omega)
    · exact ih (by omega) (fun k k1 k2 => hg k k1 (by omega))
theorem Found.match_ {b : List Nat} {i n back : Nat} (h : Found b i n back) : (n = 0 ∧ (matchOf b i b.length).1 ≤ 2) ∨ (3 ≤ n ∧ 1 ≤ back ∧ back ≤ i ∧ matchOf b i b.length = (n, i - back)) := by
  rcases h with ⟨rfl, rfl, h⟩ | ⟨h1, h2, h3, h4, h5, h6⟩
  · exact .inl ⟨rfl, bestOf_small b i _ (Nat.min_le_left _ _) h⟩
  · exact .inr ⟨h1, h2, by omega, bestOf_found b i n back h1 _ h2 h3 (Nat.min_le_left _ _) h4 h5 h6⟩
/-! ### A window of the bytes -/
theorem sameFrom_drop (b : List Nat) (x p i to f n : Nat) : sameFrom (b.drop x) p i to f n = sameFrom b (x + p) (x + i) (x + to) f n := by
  induction f generalizing n with
  | zero => rfl
  | succ f ih =>
    unfold sameFrom
    rw [ih, List.getElem?_drop, List.getElem?_drop, ← Nat.add_assoc, ← Nat.add_assoc]
    by_cases h : i + n < to
    · have h' : x + i + n < x + to := by omega
      simp only [h, h', true_and]
    · have h' : ¬ x + i + n < x + to := by omega
      simp only [h, h', false_and]
theorem bestOf_drop (b : List Nat) (x i to j : Nat) (hj : j ≤ i) : (bestOf (b.drop x) i to j).1 = (bestOf b (x + i) (x + to) j).1 ∧ (0 < (bestOf b (x + i) (x + to) j).1 → x + (bestOf (b.drop x) i to j).2 = (bestOf b (x + i) (x + to) j).2) := by
  induction j with
  | zero => exact ⟨rfl, fun h => by simp [bestOf] at h⟩
  | succ j ih =>
    obtain ⟨h1, h2⟩ := ih (by omega)
    have e : same (b.drop x) (i - 1 - j) i to = same b (x + i - 1 - j) (x + i) (x + to) := by
      unfold same
      rw [sameFrom_drop, show x + (i - 1 - j) = x + i - 1 - j by omega]
    unfold bestOf
    rw [e, h1]
    split
    · exact ⟨rfl, fun _ => by simp only; omega⟩
    · exact ⟨h1, h2⟩
/-- As far back as a match may be the window has all bytes. -/
theorem matchOf_drop (b : List Nat) (x i to : Nat) (hx : x = 0 ∨ 32768 ≤ i) : (matchOf (b.drop x) i to).1 = (matchOf b (x + i) (x + to)).1 ∧ (0 < (matchOf b (x + i) (x + to)).1 → x + (matchOf (b.drop x) i to).2 = (matchOf b (x + i) (x + to)).2) := by
  unfold matchOf
  have e : min i 32768 = min (x + i) 32768 := by omega
  rw [e]
  exact bestOf_drop b x i to _ (by omega)
theorem toks_drop (b : List Nat) (x to f i : Nat) (hx : x = 0 ∨ 32768 ≤ i) : toks (b.drop x) to f i = toks b (x + to) f (x + i) := by
  induction f generalizing i with
  | zero => rfl
  | succ f ih =>
    unfold toks
    obtain ⟨h1, h2⟩ := matchOf_drop b x i to hx
    by_cases hi : i < to
    · rw [if_pos hi, if_pos (show x + i < x + to by omega), h1]
      by_cases h3 : 3 ≤ (matchOf b (x + i) (x + to)).1
      · rw [if_pos h3, if_pos h3, ih _ (by omega), ← h2 (by omega), show x + i + (matchOf b (x + i) (x + to)).1 = x + (i + (matchOf b (x + i) (x + to)).1) by omega, show x + i - (x + (matchOf (b.drop x) i to).2) = i - (matchOf (b.drop x) i to).2 by omega]
      · rw [if_neg h3, if_neg h3, ih _ (by omega), List.getD_eq_getElem?_getD, List.getD_eq_getElem?_getD, List.getElem?_drop, show x + i + 1 = x + (i + 1) by omega]
    · rw [if_neg hi, if_neg (by omega)]
theorem tokens_drop (b : List Nat) (x a to : Nat) (hx : x = 0 ∨ 32768 ≤ a) : tokens (b.drop x) a to = tokens b (x + a) (x + to) := by
  unfold tokens
  rw [toks_drop b x to _ a hx, show x + to - (x + a) = to - a by omega]
end Go.Proofs.Ytefdlidjdmlnaaa.Fx
