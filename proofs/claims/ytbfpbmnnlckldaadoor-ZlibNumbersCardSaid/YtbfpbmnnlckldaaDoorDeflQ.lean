/-
  The search for matches in plain words: places of three bytes, steps down to the next place of the same three, the longest match. No condition but those that are said.
-/
import Derived.Test.YtbfpbmnnlckldaaDoorDeflP
namespace Go.Proofs.YtbfpbmnnlckldaaDoor.Fx
set_option linter.unusedVariables false
/-- The three bytes from i on as one number. -/
def three (b : List Nat) (i : Nat) : Nat := b.getD i 0 + 256 * b.getD (i + 1) 0 + 65536 * b.getD (i + 2) 0
/-- How many bytes from i on, as many as most, are those that stand d back. -/
def sm (b : List Nat) (i d : Nat) : Nat := same b (i - d) i b.length
theorem sameFrom_end (b : List Nat) (p i to f n : Nat) : sameFrom b p i to f n = n + f ∨ ¬ (i + sameFrom b p i to f n < to ∧ b[p + sameFrom b p i to f n]? = b[i + sameFrom b p i to f n]?) := by
  induction f generalizing n with
  | zero => exact .inl rfl
  | succ f ih =>
    unfold sameFrom
    split
    · rcases ih (n + 1) with h | h
      · exact .inl (by omega)
      · exact .inr h
    · rename_i hc
      exact .inr hc
/-- What a count of the same bytes comes to. -/
theorem sm_of (b : List Nat) (i d n : Nat) (hd : d ≤ i) (hi : i ≤ b.length) (hn : n ≤ 258) (hm : i + n ≤ b.length) (hs : ∀ j, j < n → b[i - d + j]? = b[i + j]?) (he : n = 258 ∨ i + n = b.length ∨ b[i - d + n]? ≠ b[i + n]?) : sm b i d = n := by
  obtain ⟨h1, h2, h3⟩ := same_spec b (i - d) i b.length
  have h4 := sameFrom_end b (i - d) i b.length 258 0
  unfold sm
  unfold same at *
  generalize sameFrom b (i - d) i b.length 258 0 = m at *
  rcases Nat.lt_trichotomy m n with h | h | h
  · exfalso
    rcases h4 with h4 | h4
    · omega
    · exact h4 ⟨by omega, hs m h⟩
  · exact h
  · exfalso
    rcases he with he | he | he
    · omega
    · rcases h2 with h2 | h2 <;> omega
    · exact he (h3 n h)
theorem sm_le (b : List Nat) (i d : Nat) (hi : i ≤ b.length) : sm b i d ≤ 258 ∧ i + sm b i d ≤ b.length := by
  obtain ⟨h1, h2, _⟩ := same_spec b (i - d) i b.length
  refine ⟨h1, ?_⟩
  unfold sm
  rcases h2 with h2 | h2 <;> omega
theorem sm_same (b : List Nat) (i d j : Nat) (hj : j < sm b i d) : b[i - d + j]? = b[i + j]? := (same_spec b (i - d) i b.length).2.2 j hj
theorem getD_eq (b : List Nat) {p q : Nat} (h : b[p]? = b[q]?) : b.getD p 0 = b.getD q 0 := by
  rw [List.getD_eq_getElem?_getD, List.getD_eq_getElem?_getD, h]
/-- Where more than n bytes are the same, the three that end at the n-th one are. -/
theorem three_of_sm (b : List Nat) (i d n : Nat) (hd : d ≤ i) (hn : 2 ≤ n) (h : n < sm b i d) : three b (i + n - 2 - d) = three b (i + n - 2) := by
  have h0 := getD_eq b (sm_same b i d (n - 2) (by omega))
  have h1 := getD_eq b (sm_same b i d (n - 1) (by omega))
  have h2 := getD_eq b (sm_same b i d n h)
  unfold three
  rw [show i + n - 2 - d = i - d + (n - 2) by omega, show i - d + (n - 2) + 1 = i - d + (n - 1) by omega, show i - d + (n - 2) + 2 = i - d + n by omega, show i + n - 2 = i + (n - 2) by omega, show i + (n - 2) + 1 = i + (n - 1) by omega, show i + (n - 2) + 2 = i + n by omega, h0, h1, h2]
theorem three_bytes (b : List Nat) (h8 : ∀ x ∈ b, x < 256) (i : Nat) : b.getD i 0 < 256 := by
  rw [List.getD_eq_getElem?_getD]
  cases h : b[i]? with
  | none => simp
  | some x =>
    obtain ⟨hi, rfl⟩ := List.getElem?_eq_some_iff.1 h
    exact h8 _ (List.getElem_mem hi)
theorem three_lt (b : List Nat) (h8 : ∀ x ∈ b, x < 256) (i : Nat) : three b i < 16777216 := by
  have h0 := three_bytes b h8 i
  have h1 := three_bytes b h8 (i + 1)
  have h2 := three_bytes b h8 (i + 2)
  unfold three
  omega
theorem three_inj (b : List Nat) (h8 : ∀ x ∈ b, x < 256) (p q : Nat) (h : three b p = three b q) : b.getD p 0 = b.getD q 0 ∧ b.getD (p + 1) 0 = b.getD (q + 1) 0 ∧ b.getD (p + 2) 0 = b.getD (q + 2) 0 := by
  have h0 := three_bytes b h8 p
  have h1 := three_bytes b h8 (p + 1)
  have h2 := three_bytes b h8 (p + 2)
  have k0 := three_bytes b h8 q
  have k1 := three_bytes b h8 (q + 1)
  have k2 := three_bytes b h8 (q + 2)
  unfold three at h
  omega
/-- Of each place with three bytes: down to the next place of the same three. -/
structure Steps (b st : List Nat) : Prop where
  len : st.length ≤ b.length - 2
  hit : ∀ (i s : Nat), st[i]? = some s → s ≠ 0 → s ≤ i → three b (i - s) = three b i
  gap : ∀ (i s p : Nat), st[i]? = some s → p < i → s = 0 ∨ i < p + s → three b p ≠ three b i
  small : ∀ (i s : Nat), st[i]? = some s → s ≤ 65536
theorem Steps.start : Steps [] [] := ⟨by simp, fun i s h => by simp at h, fun i s p h => by simp at h, fun i s h => by simp at h⟩
theorem getD_append (b x : List Nat) (i : Nat) (h : i < b.length) : (b ++ x).getD i 0 = b.getD i 0 := by
  rw [List.getD_eq_getElem?_getD, List.getD_eq_getElem?_getD, List.getElem?_append_left h]
theorem three_append (b x : List Nat) (i : Nat) (h : i + 3 ≤ b.length) : three (b ++ x) i = three b i := by
  unfold three
  rw [getD_append b x i (by omega), getD_append b x (i + 1) (by omega), getD_append b x (i + 2) (by omega)]
theorem Steps.more {b st : List Nat} (h : Steps b st) (x : List Nat) : Steps (b ++ x) st := by
  have hl := h.len
  refine ⟨by rw [List.length_append]; omega, fun i s hs h0 hi => ?_, fun i s p hs hp hc => ?_, h.small⟩
  · have := (List.getElem?_eq_some_iff.1 hs).1
    rw [three_append b x _ (by omega), three_append b x _ (by omega)]
    exact h.hit i s hs h0 hi
  · have := (List.getElem?_eq_some_iff.1 hs).1
    rw [three_append b x _ (by omega), three_append b x _ (by omega)]
    exact h.gap i s p hs hp hc
theorem three_drop (b : List Nat) (n i : Nat) : three (b.drop n) i = three b (n + i) := by
  unfold three
  simp only [List.getD_eq_getElem?_getD, List.getElem?_drop]
  simp only [Nat.add_assoc]
theorem Steps.drop {b st : List Nat} (h : Steps b st) (n : Nat) : Steps (b.drop n) (st.drop n) := by
  have hl := h.len
  refine ⟨by rw [List.length_drop, List.length_drop]; omega, fun i s hs h0 hi => ?_, fun i s p hs hp hc => ?_, fun i s hs => ?_⟩
  · rw [List.getElem?_drop] at hs
    rw [three_drop, three_drop, ← h.hit (n + i) s hs h0 (by omega), show n + i - s = n + (i - s) by omega]
  · rw [List.getElem?_drop] at hs
    rw [three_drop, three_drop]
    exact h.gap (n + i) s (n + p) hs (by omega) (by omega)
  · rw [List.getElem?_drop] at hs
    exact h.small _ _ hs
/-- The greatest place below m with these three bytes. -/
def lastOf (b : List Nat) (t : Nat) : Nat → Option Nat
  | 0 => none
  | m + 1 => if three b m = t then some m else lastOf b t m
theorem lastOf_some {b : List Nat} {t m p : Nat} (h : lastOf b t m = some p) : p < m ∧ three b p = t ∧ ∀ q, p < q → q < m → three b q ≠ t := by
  induction m with
  | zero => cases h
  | succ m ih =>
    unfold lastOf at h
    split at h
    · cases h
      rename_i h1
      exact ⟨by omega, h1, fun q h2 h3 => by omega⟩
    · rename_i h1
      obtain ⟨a, b2, c⟩ := ih h
      refine ⟨by omega, b2, fun q h2 h3 => ?_⟩
      rcases Nat.lt_or_ge q m with h4 | h4
      · exact c q h2 h4
      · obtain rfl : q = m := by omega
        exact h1
theorem lastOf_none {b : List Nat} {t m : Nat} (h : lastOf b t m = none) : ∀ q, q < m → three b q ≠ t := by
  induction m with
  | zero => intro q hq; omega
  | succ m ih =>
    unfold lastOf at h
    split at h
    · cases h
    · rename_i h1
      intro q hq
      rcases Nat.lt_or_ge q m with h4 | h4
      · exact ih h q h4
      · obtain rfl : q = m := by omega
        exact h1
theorem lastOf_append (b x : List Nat) (t m : Nat) (h : m + 2 ≤ b.length ∨ m = 0) : lastOf (b ++ x) t m = lastOf b t m := by
  induction m with
  | zero => rfl
  | succ m ih =>
    unfold lastOf
    rw [three_append b x m (by omega), ih (by omega)]
theorem lastOf_is {b : List Nat} {t m p : Nat} (hp : p < m) (ht : three b p = t) (hn : ∀ q, p < q → q < m → three b q ≠ t) : lastOf b t m = some p := by
  cases h : lastOf b t m with
  | none => exact absurd ht (lastOf_none h p hp)
  | some q =>
    obtain ⟨h1, h2, h3⟩ := lastOf_some h
    rcases Nat.lt_trichotomy p q with h4 | h4 | h4
    · exact absurd h2 (hn q h4 h1)
    · rw [h4]
    · exact absurd ht (h3 p h4 hp)
theorem lastOf_not {b : List Nat} {t m : Nat} (hn : ∀ q, q < m → three b q ≠ t) : lastOf b t m = none := by
  cases h : lastOf b t m with
  | none => rfl
  | some q => exact absurd (lastOf_some h).2.1 (hn q (lastOf_some h).1)
/-- The step of a place that is added. -/
def stepOf (b : List Nat) (i : Nat) : Nat := match lastOf b (three b i) i with
  | some p => i - p
  | none => 0
theorem Steps.snoc {b st : List Nat} (h : Steps b st) (hl : st.length + 3 ≤ b.length) (hs : b.length ≤ 65536) : Steps b (st ++ [stepOf b st.length]) := by
  have key : ∀ s, s = stepOf b st.length → (s ≠ 0 → s ≤ st.length → three b (st.length - s) = three b st.length) ∧ (∀ p, p < st.length → s = 0 ∨ st.length < p + s → three b p ≠ three b st.length) ∧ s ≤ 65536 := by
    rintro s rfl
    unfold stepOf
    cases hq : lastOf b (three b st.length) st.length with
    | none => exact ⟨fun h => absurd rfl h, fun p hp _ => lastOf_none hq p hp, by simp⟩
    | some q =>
      obtain ⟨h1, h2, h3⟩ := lastOf_some hq
      refine ⟨fun _ _ => ?_, fun p hp hc => ?_, by simp only; omega⟩
      · simp only
        rw [show st.length - (st.length - q) = q by omega]
        exact h2
      · simp only at hc
        exact h3 p (by omega) hp
  have at' : ∀ i s, (st ++ [stepOf b st.length])[i]? = some s → st[i]? = some s ∨ (i = st.length ∧ s = stepOf b st.length) := by
    intro i s hi
    rcases Nat.lt_or_ge i st.length with h1 | h1
    · rw [List.getElem?_append_left h1] at hi
      exact .inl hi
    · rw [List.getElem?_append_right h1] at hi
      have h2 := (List.getElem?_eq_some_iff.1 hi).1
      simp only [List.length_singleton] at h2
      obtain rfl : i = st.length := by omega
      simp only [Nat.sub_self, List.getElem?_cons_zero, Option.some.injEq] at hi
      exact .inr ⟨rfl, hi.symm⟩
  refine ⟨by rw [List.length_append, List.length_singleton]; omega, fun i s hi h0 h1 => ?_, fun i s p hi hp hc => ?_, fun i s hi => ?_⟩
  · rcases at' i s hi with h2 | ⟨rfl, h2⟩
    · exact h.hit i s h2 h0 h1
    · exact (key s h2).1 h0 h1
  · rcases at' i s hi with h2 | ⟨rfl, h2⟩
    · exact h.gap i s p h2 hp hc
    · exact (key s h2).2.1 p hp hc
  · rcases at' i s hi with h2 | ⟨rfl, h2⟩
    · exact h.small i s h2
    · exact (key s h2).2.2
/-! ### The search -/
/-- What is known while it goes on: the best match n, back; from which three bytes it goes, and how far back it is. -/
structure Seek (b : List Nat) (i n back fr d : Nat) : Prop where
  at_ : (n = 0 ∧ back = 0 ∧ fr = i) ∨ (3 ≤ n ∧ n < 258 ∧ i + n < b.length ∧ fr = i + n - 2 ∧ 1 ≤ back ∧ back ≤ min i 32768 ∧ sm b i back = n)
  low : ∀ k, 1 ≤ k → k < back → sm b i k < n
  done : ∀ k, 1 ≤ k → k ≤ d → k ≤ back ∨ sm b i k ≤ max n 2
  same : d ≤ min i 32768 ∧ three b (fr - d) = three b fr
/-- What the search comes to. -/
def Found (b : List Nat) (i n back : Nat) : Prop :=
  (n = 0 ∧ back = 0 ∧ ∀ k, 1 ≤ k → k ≤ min i 32768 → sm b i k ≤ 2) ∨ (3 ≤ n ∧ 1 ≤ back ∧ back ≤ min i 32768 ∧ sm b i back = n ∧ (∀ k, 1 ≤ k → k < back → sm b i k < n) ∧ ∀ k, 1 ≤ k → k ≤ min i 32768 → sm b i k ≤ n)
theorem Seek.start (b : List Nat) (i : Nat) : Seek b i 0 0 i 0 := ⟨.inl ⟨rfl, rfl, rfl⟩, fun k h1 h2 => by omega, fun k h1 h2 => by omega, ⟨by omega, rfl⟩⟩
theorem Found.short (b : List Nat) (i : Nat) (hi : i ≤ b.length) (h : b.length < i + 3) : Found b i 0 0 := .inl ⟨rfl, rfl, fun k _ _ => by have := sm_le b i k hi; omega⟩
theorem Seek.fr_le {b : List Nat} {i n back fr d : Nat} (h : Seek b i n back fr d) (hi : i + 3 ≤ b.length) : i ≤ fr ∧ fr + 3 ≤ b.length := by
  rcases h.at_ with ⟨_, _, rfl⟩ | ⟨h1, _, h2, rfl, _⟩ <;> omega
/-- The places between two of the same three bytes have no better match. -/
theorem Seek.between {b st : List Nat} {i n back fr d s : Nat} (h : Seek b i n back fr d) (hb : Steps b st) (hi : i + 3 ≤ b.length) (hs : st[fr - d]? = some s) (k : Nat) (hk : d < k) (h2 : s = 0 ∨ k < d + s) (hm : k ≤ min i 32768) : k ≤ back ∨ sm b i k ≤ max n 2 := by
  obtain ⟨h3, h4⟩ := h.same
  have h5 := h.fr_le hi
  rcases Nat.lt_or_ge (max n 2) (sm b i k) with h6 | h6
  · exfalso
    have h7 : three b (fr - k) = three b fr := by
      rcases h.at_ with ⟨rfl, rfl, rfl⟩ | ⟨a1, a2, a3, rfl, _⟩
      · have := three_of_sm b fr k 2 (by omega) (by omega) (by omega)
        simpa using this
      · exact three_of_sm b i k n (by omega) (by omega) (by omega)
    exact hb.gap (fr - d) s (fr - k) hs (by omega) (by omega) (h7.trans h4.symm)
  · exact .inr h6
theorem Seek.over {b st : List Nat} {i n back fr d s : Nat} (h : Seek b i n back fr d) (hb : Steps b st) (hi : i + 3 ≤ b.length) (hs : st[fr - d]? = some s) (hz : s = 0 ∨ min i 32768 < d + s) : Found b i n back := by
  have all : ∀ k, 1 ≤ k → k ≤ min i 32768 → k ≤ back ∨ sm b i k ≤ max n 2 := fun k h1 h2 => by
    rcases Nat.lt_or_ge d k with h3 | h3
    · exact h.between hb hi hs k h3 (by omega) h2
    · exact h.done k h1 h3
  rcases h.at_ with ⟨rfl, rfl, rfl⟩ | ⟨a1, a2, a3, a4, a5, a6, a7⟩
  · exact .inl ⟨rfl, rfl, fun k h1 h2 => by have := all k h1 h2; omega⟩
  · refine .inr ⟨a1, a5, a6, a7, h.low, fun k h1 h2 => ?_⟩
    rcases all k h1 h2 with h3 | h3
    · rcases Nat.lt_or_ge k back with h4 | h4
      · exact Nat.le_of_lt (h.low k h1 h4)
      · obtain rfl : k = back := by omega
        omega
    · omega
theorem Seek.next {b st : List Nat} {i n back fr d s : Nat} (h : Seek b i n back fr d) (hb : Steps b st) (hi : i + 3 ≤ b.length) (hs : st[fr - d]? = some s) (h0 : s ≠ 0) (hm : d + s ≤ min i 32768) : three b (fr - (d + s)) = three b fr ∧ ∀ k, 1 ≤ k → k < d + s → k ≤ back ∨ sm b i k ≤ max n 2 := by
  have h5 := h.fr_le hi
  refine ⟨?_, fun k h1 h2 => ?_⟩
  · have := hb.hit (fr - d) s hs h0 (by omega)
    rw [show fr - (d + s) = fr - d - s by omega, this]
    exact h.same.2
  · rcases Nat.lt_or_ge d k with h3 | h3
    · exact h.between hb hi hs k h3 (.inr h2) (by omega)
    · exact h.done k h1 h3
/-- A place that was asked already, or is no better. -/
theorem Seek.on {b st : List Nat} {i n back fr d s : Nat} (h : Seek b i n back fr d) (hb : Steps b st) (hi : i + 3 ≤ b.length) (hs : st[fr - d]? = some s) (h0 : s ≠ 0) (hm : d + s ≤ min i 32768) (hc : d + s ≤ back ∨ sm b i (d + s) ≤ n) : Seek b i n back fr (d + s) := by
  obtain ⟨h1, h2⟩ := h.next hb hi hs h0 hm
  refine ⟨h.at_, h.low, fun k h3 h4 => ?_, ⟨hm, h1⟩⟩
  rcases Nat.lt_or_ge k (d + s) with h5 | h5
  · exact h2 k h3 h5
  · obtain rfl : k = d + s := by omega
    omega
theorem sm_three (b : List Nat) (h8 : ∀ x ∈ b, x < 256) (i d : Nat) (hd : d ≤ i) (hi : i + 3 ≤ b.length) (h : three b (i - d) = three b i) : 3 ≤ sm b i d := by
  obtain ⟨h0, h1, h2⟩ := three_inj b h8 _ _ h
  have at' : ∀ j, j < 3 → b[i - d + j]? = b[i + j]? := by
    have el : ∀ p q, p < b.length → q < b.length → b.getD p 0 = b.getD q 0 → b[p]? = b[q]? := by
      intro p q hp hq h
      rw [List.getD_eq_getElem?_getD, List.getD_eq_getElem?_getD, List.getElem?_eq_getElem hp, List.getElem?_eq_getElem hq] at h
      rw [List.getElem?_eq_getElem hp, List.getElem?_eq_getElem hq]
      exact congrArg some h
    intro j hj
    rcases j with _ | _ | _ | j
    · exact el _ _ (by omega) (by omega) h0
    · exact el _ _ (by omega) (by omega) h1
    · exact el _ _ (by omega) (by omega) h2
    · omega
  rcases Nat.lt_or_ge (sm b i d) 3 with h3 | h3
  · exfalso
    have h4 := sameFrom_end b (i - d) i b.length 258 0
    have h5 : sm b i d = sameFrom b (i - d) i b.length 258 0 := rfl
    rw [← h5] at h4
    rcases h4 with h4 | h4
    · omega
    · exact h4 ⟨by omega, at' _ h3⟩
  · exact h3
theorem Seek.better {b st : List Nat} {i n back fr d s : Nat} (h : Seek b i n back fr d) (hb : Steps b st) (h8 : ∀ x ∈ b, x < 256) (hi : i + 3 ≤ b.length) (hs : st[fr - d]? = some s) (h0 : s ≠ 0) (hm : d + s ≤ min i 32768) (hc : n < sm b i (d + s)) :
    3 ≤ sm b i (d + s) ∧ (∀ k, 1 ≤ k → k < d + s → sm b i k < sm b i (d + s)) := by
  obtain ⟨h1, h2⟩ := h.next hb hi hs h0 hm
  have h3 : 3 ≤ sm b i (d + s) := by
    rcases h.at_ with ⟨rfl, rfl, rfl⟩ | ⟨a1, _⟩
    · exact sm_three b h8 fr (d + s) (by omega) hi h1
    · omega
  refine ⟨h3, fun k k1 k2 => ?_⟩
  rcases h2 k k1 k2 with h4 | h4
  · rcases Nat.lt_or_ge k back with h5 | h5
    · have := h.low k k1 h5
      omega
    · rcases h.at_ with ⟨rfl, rfl, rfl⟩ | ⟨a1, a2, a3, a4, a5, a6, a7⟩
      · omega
      · obtain rfl : k = back := by omega
        omega
  · omega
/-- The longest that may be. -/
theorem Seek.most {b st : List Nat} {i n back fr d s : Nat} (h : Seek b i n back fr d) (hb : Steps b st) (h8 : ∀ x ∈ b, x < 256) (hi : i + 3 ≤ b.length) (hs : st[fr - d]? = some s) (h0 : s ≠ 0) (hm : d + s ≤ min i 32768) (hc : n < sm b i (d + s)) (he : sm b i (d + s) = min 258 (b.length - i)) : Found b i (sm b i (d + s)) (d + s) := by
  obtain ⟨h1, h2⟩ := h.better hb h8 hi hs h0 hm hc
  refine .inr ⟨h1, by omega, hm, rfl, h2, fun k _ _ => ?_⟩
  have := sm_le b i k (by omega)
  omega
theorem Seek.again {b st : List Nat} {i n back fr d s : Nat} (h : Seek b i n back fr d) (hb : Steps b st) (h8 : ∀ x ∈ b, x < 256) (hi : i + 3 ≤ b.length) (hs : st[fr - d]? = some s) (h0 : s ≠ 0) (hm : d + s ≤ min i 32768) (hc : n < sm b i (d + s)) (he : sm b i (d + s) < min 258 (b.length - i)) : Seek b i (sm b i (d + s)) (d + s) (i + sm b i (d + s) - 2) 0 := by
  obtain ⟨h1, h2⟩ := h.better hb h8 hi hs h0 hm hc
  exact ⟨.inr ⟨h1, by omega, by omega, rfl, by omega, hm, rfl⟩, h2, fun k k1 k2 => by omega, ⟨by omega, rfl⟩⟩
/-! ### The document's match -/
theorem bestOf_found (b : List Nat) (i n back : Nat) (h3 : 3 ≤ n) (j : Nat) (h1 : 1 ≤ back) (h2 : back ≤ j) (hj : j ≤ i) (he : sm b i back = n) (hl : ∀ k, 1 ≤ k → k < back → sm b i k < n) (hg : ∀ k, 1 ≤ k → k ≤ j → sm b i k ≤ n) : bestOf b i b.length j = (n, i - back) := by
  induction j with
  | zero => omega
  | succ j ih =>
    have e : same b (i - 1 - j) i b.length = sm b i (j + 1) := by unfold sm; rw [show i - 1 - j = i - (j + 1) by omega]
    unfold bestOf
    rw [e]
    rcases Nat.lt_or_ge back (j + 1) with h | h
    · rw [ih (by omega) (by omega) (fun k k1 k2 => hg k k1 (by omega)), if_neg (by have := hg (j + 1) (by omega) (by omega); simp only; omega)]
    · obtain rfl : back = j + 1 := by omega
      have low : ∀ j', j' < j + 1 → (bestOf b i b.length j').1 < n := by
        intro j' hj'
        induction j' with
        | zero => simp only [bestOf]; omega
        | succ j' ih' =>
          have := hl (j' + 1) (by omega) (by omega)
          unfold bestOf
          have e' : same b (i - 1 - j') i b.length = sm b i (j' + 1) := by unfold sm; rw [show i - 1 - j' = i - (j' + 1) by omega]
          rw [e']
          split
          · exact this
          · exact ih' (by omega)
      rw [if_pos (by rw [he]; exact low j (by omega)), he, show i - 1 - j = i - (j + 1) by omega]
theorem bestOf_small (b : List Nat) (i j : Nat) (hj : j ≤ i) (hg : ∀ k, 1 ≤ k → k ≤ j → sm b i k ≤ 2) : (bestOf b i b.length j).1 ≤ 2 := by
  induction j with
  | zero => simp [bestOf]
  | succ j ih =>
    have e : same b (i - 1 - j) i b.length = sm b i (j + 1) := by unfold sm; rw [show i - 1 - j = i - (j + 1) by omega]
    unfold bestOf
    rw [e]
    split
    · exact hg (j + 1) (by omega) (by omega)
    · exact ih (by omega) (fun k k1 k2 => hg k k1 (by omega))
theorem Found.match_ {b : List Nat} {i n back : Nat} (h : Found b i n back) : (n = 0 ∧ (matchOf b i b.length).1 ≤ 2) ∨ (3 ≤ n ∧ 1 ≤ back ∧ back ≤ i ∧ matchOf b i b.length = (n, i - back)) := by
  rcases h with ⟨rfl, rfl, h⟩ | ⟨h1, h2, h3, h4, h5, h6⟩
  · exact .inl ⟨rfl, bestOf_small b i _ (Nat.min_le_left _ _) h⟩
  · exact .inr ⟨h1, h2, by omega, bestOf_found b i n back h1 _ h2 h3 (Nat.min_le_left _ _) h4 h5 h6⟩
/-! ### A window of the bytes -/
theorem sameFrom_drop (b : List Nat) (x p i to f n : Nat) : sameFrom (b.drop x) p i to f n = sameFrom b (x + p) (x + i) (x + to) f n := by
  induction f generalizing n with
  | zero => rfl
  | succ f ih =>
    unfold sameFrom
    rw [ih, List.getElem?_drop, List.getElem?_drop, ← Nat.add_assoc, ← Nat.add_assoc]
    by_cases h : i + n < to
    · have h' : x + i + n < x + to := by omega
      simp only [h, h', true_and]
    · have h' : ¬ x + i + n < x + to := by omega
      simp only [h, h', false_and]
theorem bestOf_drop (b : List Nat) (x i to j : Nat) (hj : j ≤ i) : (bestOf (b.drop x) i to j).1 = (bestOf b (x + i) (x + to) j).1 ∧ (0 < (bestOf b (x + i) (x + to) j).1 → x + (bestOf (b.drop x) i to j).2 = (bestOf b (x + i) (x + to) j).2) := by
  induction j with
  | zero => exact ⟨rfl, fun h => by simp [bestOf] at h⟩
  | succ j ih =>
    obtain ⟨h1, h2⟩ := ih (by omega)
    have e : same (b.drop x) (i - 1 - j) i to = same b (x + i - 1 - j) (x + i) (x + to) := by
      unfold same
      rw [sameFrom_drop, show x + (i - 1 - j) = x + i - 1 - j by omega]
    unfold bestOf
    rw [e, h1]
    split
    · exact ⟨rfl, fun _ => by simp only; omega⟩
    · exact ⟨h1, h2⟩
/-- As far back as a match may be the window has all bytes. -/
theorem matchOf_drop (b : List Nat) (x i to : Nat) (hx : x = 0 ∨ 32768 ≤ i) : (matchOf (b.drop x) i to).1 = (matchOf b (x + i) (x + to)).1 ∧ (0 < (matchOf b (x + i) (x + to)).1 → x + (matchOf (b.drop x) i to).2 = (matchOf b (x + i) (x + to)).2) := by
  unfold matchOf
  have e : min i 32768 = min (x + i) 32768 := by omega
  rw [e]
  exact bestOf_drop b x i to _ (by omega)
theorem toks_drop (b : List Nat) (x to f i : Nat) (hx : x = 0 ∨ 32768 ≤ i) : toks (b.drop x) to f i = toks b (x + to) f (x + i) := by
  induction f generalizing i with
  | zero => rfl
  | succ f ih =>
    unfold toks
    obtain ⟨h1, h2⟩ := matchOf_drop b x i to hx
    by_cases hi : i < to
    · rw [if_pos hi, if_pos (show x + i < x + to by omega), h1]
      by_cases h3 : 3 ≤ (matchOf b (x + i) (x + to)).1
      · rw [if_pos h3, if_pos h3, ih _ (by omega), ← h2 (by omega), show x + i + (matchOf b (x + i) (x + to)).1 = x + (i + (matchOf b (x + i) (x + to)).1) by omega, show x + i - (x + (matchOf (b.drop x) i to).2) = i - (matchOf (b.drop x) i to).2 by omega]
      · rw [if_neg h3, if_neg h3, ih _ (by omega), List.getD_eq_getElem?_getD, List.getD_eq_getElem?_getD, List.getElem?_drop, show x + i + 1 = x + (i + 1) by omega]
    · rw [if_neg hi, if_neg (by omega)]
theorem tokens_drop (b : List Nat) (x a to : Nat) (hx : x = 0 ∨ 32768 ≤ a) : tokens (b.drop x) a to = tokens b (x + a) (x + to) := by
  unfold tokens
  rw [toks_drop b x to _ a hx, show x + to - (x + a) = to - a by omega]
end Go.Proofs.YtbfpbmnnlckldaaDoor.Fx
