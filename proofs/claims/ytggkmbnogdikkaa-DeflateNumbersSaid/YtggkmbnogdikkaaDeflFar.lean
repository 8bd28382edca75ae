/-
  A match just as far back as may be, and one byte farther: how many bytes they take, plain. The conditions stand in each.
-/
import Derived.Test.YtggkmbnogdikkaaDeflW
namespace Go.Proofs.Ytggkmbnogdikkaa.Fx
set_option linter.unusedVariables false
/-- The ten letters. -/
def keys : List Nat := [113, 119, 101, 114, 116, 121, 117, 105, 111, 112]
/-- The ten letters, and bytes behind them that are none of them: n in all. -/
def rowOf : Nat → List Nat
  | 0 => keys
  | n + 1 => rowOf n ++ [128 + ((10 + n) * (10 + n)) % 89]
theorem rowOf_length (n : Nat) : (rowOf n).length = 10 + n := by
  induction n with
  | zero => rfl
  | succ n ih => rw [rowOf, List.length_append, ih]; simp; omega
theorem rowOf_far (n p : Nat) (h1 : 10 ≤ p) (h2 : p < 10 + n) : ∃ x, (rowOf n)[p]? = some x ∧ 128 ≤ x ∧ x < 217 := by
  induction n with
  | zero => omega
  | succ n ih =>
    rw [rowOf]
    by_cases h : p < 10 + n
    · rw [List.getElem?_append_left (by rw [rowOf_length]; exact h)]
      exact ih h
    · obtain rfl : p = 10 + n := by omega
      rw [List.getElem?_append_right (by rw [rowOf_length]; omega), rowOf_length, Nat.sub_self]
      exact ⟨_, rfl, by omega, by omega⟩
theorem rowOf_near (n p : Nat) (h : p < 10) : (rowOf n)[p]? = keys[p]? := by
  induction n with
  | zero => rfl
  | succ n ih => rw [rowOf, List.getElem?_append_left (by rw [rowOf_length]; omega), ih]
theorem rowOf_bytes (n : Nat) : ∀ x ∈ rowOf n, x < 256 := by
  induction n with
  | zero => decide
  | succ n ih =>
    intro x hx
    rw [rowOf, List.mem_append] at hx
    rcases hx with hx | hx
    · exact ih x hx
    · rw [List.mem_singleton] at hx
      omega
/-! ### Matches that are there, and ones that are not -/
theorem sameFrom_ge (b : List Nat) (p i to f n m : Nat) (hm : m ≤ f) (h : ∀ j, j < m → i + n + j < to ∧ b[p + n + j]? = b[i + n + j]?) : n + m ≤ sameFrom b p i to f n := by
  induction f generalizing n m with
  | zero => obtain rfl : m = 0 := by omega
            exact Nat.le_refl _
  | succ f ih =>
    cases m with
    | zero => exact (sameFrom_spec' b p i to (f + 1) n)
    | succ m =>
      unfold sameFrom
      have h0 := h 0 (by omega)
      rw [if_pos ⟨by omega, by simpa using h0.2⟩]
      have := ih (n + 1) m (by omega) (fun j hj => by
        have := h (j + 1) (by omega)
        refine ⟨by omega, ?_⟩
        rw [show p + (n + 1) + j = p + n + (j + 1) by omega, show i + (n + 1) + j = i + n + (j + 1) by omega]
        exact this.2)
      omega
where
  sameFrom_spec' (b : List Nat) (p i to f n : Nat) : n + 0 ≤ sameFrom b p i to f n := by
    induction f generalizing n with
    | zero => exact Nat.le_refl _
    | succ f ih =>
      unfold sameFrom
      split
      · have := ih (n + 1)
        omega
      · exact Nat.le_refl _
theorem bestOf_ge (b : List Nat) (i to j k : Nat) (h : k < j) : same b (i - 1 - k) i to ≤ (bestOf b i to j).1 := by
  induction j with
  | zero => omega
  | succ j ih =>
    unfold bestOf
    by_cases hk : k = j
    · subst hk
      split
      · exact Nat.le_refl _
      · omega
    · have := ih (by omega)
      split
      · simp only
        omega
      · exact this
/-! ### Bits -/
theorem fixedSym_low (n : Nat) (h : n ≤ 143) : (fixedSym n).length = 8 := by
  unfold fixedSym
  rw [if_pos h, turned_length]
theorem fixedSym_byte (n : Nat) (h : n < 256) : 8 ≤ (fixedSym n).length ∧ (fixedSym n).length ≤ 9 := by
  unfold fixedSym
  split
  · rw [turned_length]; omega
  · rw [if_pos (by omega), turned_length]; omega
theorem fixedSym_end : (fixedSym 256).length = 7 := by decide
theorem fixedBlock_length (l : List Bool) (ts : List Tok) (last : Nat) : (fixedBlock l ts last).length = l.length + 3 + (ts.flatMap tokBits).length + 7 := by
  unfold fixedBlock
  rw [List.length_append, List.length_append, List.length_append, List.length_append, bitsOf_length, bitsOf_length, fixedSym_end]
theorem blockOf_last (l : List Bool) (all : List Nat) (a to last last' : Nat) : (blockOf l all a to last).length = (blockOf l all a to last').length := by
  have h1 := storedBlock_length l ((all.take to).drop a) last
  have h2 := storedBlock_length l ((all.take to).drop a) last'
  have h3 := fixedBlock_length l (tokens all a to) last
  have h4 := fixedBlock_length l (tokens all a to) last'
  unfold blockOf
  split <;> split <;> omega
theorem blockOf_le (l : List Bool) (all : List Nat) (a to last : Nat) : (blockOf l all a to last).length ≤ l.length + 10 + ((tokens all a to).flatMap tokBits).length := by
  have h3 := fixedBlock_length l (tokens all a to) last
  unfold blockOf
  split <;> omega
theorem blockOf_ge (l : List Bool) (all : List Nat) (a to last n : Nat) (h1 : n ≤ 10 + ((tokens all a to).flatMap tokBits).length) (h2 : n ≤ 35 + 8 * ((all.take to).drop a).length) : l.length + n ≤ (blockOf l all a to last).length := by
  have h3 := fixedBlock_length l (tokens all a to) last
  have h4 := storedBlock_length l ((all.take to).drop a) last
  unfold blockOf
  split <;> omega
/-! ### Just as far as may be -/
theorem find_len : find lens 10 = 7 := by decide
theorem dext_le (k : Nat) : dext.getD k 0 ≤ 13 := by
  by_cases h : k < 30
  · have : ∀ k, k < 30 → dext.getD k 0 ≤ 13 := by decide
    exact this k h
  · rw [List.getD_eq_getElem?_getD, List.getElem?_eq_none (by simp [dext]; omega)]
    simp
theorem far_toks (b : List Nat) (hb : b.length = 32768) (hk : ∀ p, p < 10 → b[p]? = keys[p]?) : ((tokens (b ++ keys) 32768 32778).flatMap tokBits).length ≤ 25 := by
  have hm : 10 ≤ (matchOf (b ++ keys) 32768 32778).1 := by
    have h1 := bestOf_ge (b ++ keys) 32768 32778 32768 32767 (by omega)
    have h2 : 10 ≤ same (b ++ keys) (32768 - 1 - 32767) 32768 32778 := by
      have := sameFrom_ge (b ++ keys) 0 32768 32778 258 0 10 (by omega) (fun j hj => ⟨by omega, by
        rw [List.getElem?_append_left (by omega), List.getElem?_append_right (by omega), hb]
        rw [show 0 + 0 + j = j by omega, show 32768 + 0 + j - 32768 = j by omega]
        exact hk j hj⟩)
      simpa [same] using this
    exact Nat.le_trans h2 h1
  obtain ⟨_, m2, m3, m4, _⟩ := matchOf_spec (b ++ keys) 32768 32778 (by omega)
  have e10 : (matchOf (b ++ keys) 32768 32778).1 = 10 := by omega
  have hback : 32768 - (matchOf (b ++ keys) 32768 32778).2 ≠ 0 := by omega
  have et : tokens (b ++ keys) 32768 32778 = [⟨10, 32768 - (matchOf (b ++ keys) 32768 32778).2, 0⟩] := by
    show toks (b ++ keys) 32778 (9 + 1) 32768 = _
    rw [toks, if_pos (by decide), if_pos (by omega), e10]
    congr 1
  rw [et]
  generalize 32768 - (matchOf (b ++ keys) 32768 32778).2 = d at *
  rw [List.flatMap_cons, List.flatMap_nil, List.append_nil]
  unfold tokBits
  rw [if_neg hback]
  simp only [find_len]
  rw [List.length_append, List.length_append, List.length_append, bitsOf_length, bitsOf_length, turned_length]
  have h1 : (fixedSym (257 + 7)).length = 7 := by decide
  have h2 : lext.getD 7 0 = 0 := by decide
  have h3 := dext_le (find dists d)
  omega
theorem whole_len (all : List Nat) : (wholeOf all).length = ((blockOf (blocksOf all (fullOf all.length)) all (4096 * fullOf all.length) all.length 1).length + 7) / 8 := by
  unfold wholeOf
  rw [bytesAt_length]
  unfold endOf
  rw [aligned_length]
  omega
theorem far_yes (b : List Nat) (hb : b.length = 32768) (hk : ∀ p, p < 10 → b[p]? = keys[p]?) : (wholeOf (b ++ keys)).length ≤ (wholeOf b).length + 5 := by
  rw [whole_len, whole_len]
  have hl : (b ++ keys).length = 32778 := by rw [List.length_append, hb]; rfl
  have f1 : fullOf 32768 = 7 := by decide
  have f2 : fullOf 32778 = 8 := by decide
  rw [hl, hb, f1, f2]
  have h1 := blockOf_le (blocksOf (b ++ keys) 8) (b ++ keys) (4096 * 8) 32778 1
  have h2 := far_toks b hb hk
  rw [show 4096 * 8 = 32768 by decide] at h1 ⊢
  rw [blocksOf_local b keys 8 (by omega)] at h1 ⊢
  have h3 := blockOf_last (blocksOf b 7) b (4096 * 7) 32768 1 0
  have h4 : blocksOf b 8 = blockOf (blocksOf b 7) b (4096 * 7) 32768 0 := rfl
  rw [h4] at h1 ⊢
  omega
/-! ### One byte farther -/
theorem match_none (b : List Nat) (i to : Nat) (h : ∀ p, p < i → i ≤ p + 32768 → b[p]? ≠ b[i]?) : (matchOf b i to).1 = 0 := by
  rcases Nat.eq_zero_or_pos (matchOf b i to).1 with h0 | h0
  · exact h0
  · obtain ⟨_, m2, m3, _, m5⟩ := matchOf_spec b i to h0
    exact absurd (m5 0 h0) (h _ m2 m3)
theorem lits (b : List Nat) (to f i : Nat) (hf : to = i + f) (h : ∀ j, i ≤ j → j < to → (matchOf b j to).1 < 3) (h8 : ∀ j, i ≤ j → j < to → b.getD j 0 < 256) : 8 * f ≤ ((toks b to f i).flatMap tokBits).length ∧ ((toks b to f i).flatMap tokBits).length ≤ 9 * f := by
  induction f generalizing i with
  | zero => exact ⟨by omega, by simp [toks]⟩
  | succ f ih =>
    have h1 := ih (i + 1) (by omega) (fun j hj => h j (by omega)) (fun j hj => h8 j (by omega))
    have h2 := h i (by omega) (by omega)
    have h3 := fixedSym_byte _ (h8 i (by omega) (by omega))
    rw [toks, if_pos (by omega), if_neg (by omega), List.flatMap_cons, List.length_append]
    have h4 : tokBits ⟨0, 0, b.getD i 0⟩ = fixedSym (b.getD i 0) := by simp [tokBits]
    rw [h4]
    omega
theorem keys_apart : ∀ i, i < 10 → ∀ j, j < 10 → i ≠ j → keys[i]? ≠ keys[j]? := by decide
theorem keys_low : ∀ i, i < 10 → ∃ x, keys[i]? = some x ∧ x < 128 := by
  intro i hi
  have h : ∀ i, i < 10 → (keys.getD i 0) < 128 := by decide
  have hl : i < keys.length := hi
  refine ⟨keys[i], List.getElem?_eq_getElem hl, ?_⟩
  have := h i hi
  rw [List.getD_eq_getElem?_getD, List.getElem?_eq_getElem hl] at this
  simpa using this
theorem far_no (b : List Nat) (hb : b.length = 32769) (h8 : ∀ x ∈ b, x < 256) (hk : ∀ p, p < 10 → b[p]? = keys[p]?) (hf : ∀ p, 10 ≤ p → p < 32769 → ∃ x, b[p]? = some x ∧ 128 ≤ x) : (wholeOf b).length + 9 ≤ (wholeOf (b ++ keys)).length := by
  rw [whole_len, whole_len]
  have hl : (b ++ keys).length = 32779 := by rw [List.length_append, hb]; rfl
  have f1 : fullOf 32769 = 8 := by decide
  have f2 : fullOf 32779 = 8 := by decide
  rw [hl, hb, f1, f2, show 4096 * 8 = 32768 by decide, blocksOf_local b keys 8 (by omega)]
  have hget : ∀ j, j < 10 → (b ++ keys)[32769 + j]? = keys[j]? := by
    intro j hj
    rw [List.getElem?_append_right (by omega), hb, show 32769 + j - 32769 = j by omega]
  have hlow : ∀ p, p < 32769 → (b ++ keys)[p]? = b[p]? := fun p hp => List.getElem?_append_left (by omega)
  have hbyte : ∀ (c : List Nat), (∀ x ∈ c, x < 256) → ∀ j, c.getD j 0 < 256 := by
    intro c hc j
    rw [List.getD_eq_getElem?_getD]
    cases e : c[j]? with
    | none => simp
    | some x => exact hc x (List.mem_of_getElem? e)
  have hk8 : ∀ x ∈ b ++ keys, x < 256 := by
    intro x hx
    rw [List.mem_append] at hx
    rcases hx with hx | hx
    · exact h8 x hx
    · have : ∀ x ∈ keys, x < 256 := by decide
      exact this x hx
  have m1 : ∀ j, 32768 ≤ j → j < 32769 → (matchOf b j 32769).1 < 3 := by
    intro j h1 h2
    rcases Nat.eq_zero_or_pos (matchOf b j 32769).1 with h0 | h0
    · omega
    · have := (matchOf_spec b j 32769 h0).2.2.2.1
      omega
  have m2 : ∀ j, 32768 ≤ j → j < 32779 → (matchOf (b ++ keys) j 32779).1 < 3 := by
    intro j h1 h2
    by_cases hj : j = 32768
    · subst hj
      rcases Nat.lt_or_ge (matchOf (b ++ keys) 32768 32779).1 3 with h0 | h0
      · exact h0
      · exfalso
        obtain ⟨_, p2, _, _, p5⟩ := matchOf_spec (b ++ keys) 32768 32779 (by omega)
        generalize (matchOf (b ++ keys) 32768 32779).2 = p at *
        have e1 := p5 1 (by omega)
        rw [show 32768 + 1 = 32769 + 0 by rfl, hget 0 (by omega), hlow _ (by omega)] at e1
        by_cases hp : p + 1 < 10
        · rw [hk _ hp] at e1
          exact keys_apart (p + 1) hp 0 (by omega) (by omega) e1
        · obtain ⟨x, ex, hx⟩ := hf (p + 1) (by omega) (by omega)
          obtain ⟨y, ey, hy⟩ := keys_low 0 (by omega)
          rw [ex, ey, Option.some.injEq] at e1
          omega
    · rw [match_none _ _ _ ?_]
      · omega
      · intro p hp1 hp2 e
        obtain ⟨t, rfl⟩ : ∃ t, j = 32769 + t := ⟨j - 32769, by omega⟩
        rw [hget t (by omega)] at e
        obtain ⟨y, ey, hy⟩ := keys_low t (by omega)
        by_cases hq : p < 32769
        · rw [hlow p hq] at e
          by_cases hp : p < 10
          · rw [hk p hp] at e
            exact keys_apart p hp t (by omega) (by omega) e
          · obtain ⟨x, ex, hx⟩ := hf p (by omega) hq
            rw [ex, ey, Option.some.injEq] at e
            omega
        · obtain ⟨s, rfl⟩ : ∃ s, p = 32769 + s := ⟨p - 32769, by omega⟩
          rw [hget s (by omega)] at e
          exact keys_apart s (by omega) t (by omega) (by omega) e
  have t1 := lits b 32769 1 32768 rfl m1 (fun j _ _ => hbyte b h8 j)
  have t2 := lits (b ++ keys) 32779 11 32768 rfl m2 (fun j _ _ => hbyte _ hk8 j)
  have e1 : tokens b 32768 32769 = toks b 32769 1 32768 := rfl
  have e2 : tokens (b ++ keys) 32768 32779 = toks (b ++ keys) 32779 11 32768 := rfl
  have g1 := blockOf_le (blocksOf b 8) b 32768 32769 1
  have g2 := blockOf_ge (blocksOf b 8) (b ++ keys) 32768 32779 1 98 (by rw [e2]; omega) (by rw [List.length_drop, List.length_take, hl]; omega)
  rw [e1] at g1
  omega
/-- The two rows. -/
theorem far_first : (wholeOf (rowOf 32758 ++ keys)).length ≤ (wholeOf (rowOf 32758)).length + 5 := far_yes _ (rowOf_length 32758) (fun p hp => rowOf_near 32758 p hp)
theorem far_second : (wholeOf (rowOf 32759)).length + 9 ≤ (wholeOf (rowOf 32759 ++ keys)).length :=
  far_no _ (rowOf_length 32759) (rowOf_bytes 32759) (fun p hp => rowOf_near 32759 p hp) (fun p h1 h2 => by
    obtain ⟨x, hx, h, _⟩ := rowOf_far 32759 p h1 (by omega)
    exact ⟨x, hx, h⟩)
end Go.Proofs.Ytggkmbnogdikkaa.Fx
