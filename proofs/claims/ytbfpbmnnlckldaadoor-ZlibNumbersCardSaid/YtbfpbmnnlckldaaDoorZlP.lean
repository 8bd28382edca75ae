/-
  Plain zlib: a stream's bytes, heads, what a stream says. No condition but those that are said.
-/
import Derived.Test.YtbfpbmnnlckldaaDoorInfR
import Derived.Test.YtbfpbmnnlckldaaDoorZlA
namespace Go.Proofs.YtbfpbmnnlckldaaDoor.Fx
open Go
set_option linter.unusedVariables false
def sumOf (zs : List Nat) : Nat := Ad.adler 1 zs
theorem sumOf_below (zs : List Nat) : sumOf zs ≤ 4294967295 := by
  have := Ad.adler_below 1 zs
  unfold sumOf
  omega
theorem sumOf_more (zs xs : List Nat) : Ad.adler (sumOf zs) xs = sumOf (zs ++ xs) := Ad.adler_append 1 zs xs
theorem sumOf_nil : sumOf [] = 1 := by decide +kernel
/-- A sum's bytes, the highest first. -/
def fourOf (s : Nat) : List Nat := [s / 16777216 % 256, s / 65536 % 256, s / 256 % 256, s % 256]
theorem fourOf_length (s : Nat) : (fourOf s).length = 4 := rfl
theorem fourOf_bytes (s : Nat) : ∀ x ∈ fourOf s, x < 256 := by
  intro x hx
  simp only [fourOf, List.mem_cons, List.not_mem_nil, or_false] at hx
  omega
/-- The stream of some bytes. -/
def streamOf (zs : List Nat) : List Nat := 120 :: 1 :: (wholeOf zs ++ fourOf (sumOf zs))
theorem streamOf_bytes (zs : List Nat) : ∀ x ∈ streamOf zs, x < 256 := by
  intro x hx
  simp only [streamOf, List.mem_cons, List.mem_append] at hx
  rcases hx with rfl | rfl | hx | hx
  · omega
  · omega
  · exact whole_bytes zs x hx
  · exact fourOf_bytes _ x hx
theorem streamOf_length (zs : List Nat) : (streamOf zs).length = (wholeOf zs).length + 6 := by
  simp [streamOf, fourOf_length]
theorem streamOf_most (zs : List Nat) : (streamOf zs).length ≤ zs.length + 5 * max ((zs.length + 4095) / 4096) 1 + 6 ∧ 7 ≤ (streamOf zs).length := by
  have := whole_length zs
  rw [streamOf_length]
  omega
def headOk (x y : Nat) : Bool := x % 16 == 8 && decide (x / 16 ≤ 7) && (256 * x + y) % 31 == 0 && y / 32 % 2 == 0
inductive Opened where
  | bytes (l : List Nat)
  | fault (k : Nat)
/-- What the bytes behind the blocks come to. -/
def sumSays (rest : List Nat) (s : Nat) (out : List Nat) : Opened :=
  if rest.length < 4 then .fault 12 else if rest.take 4 = fourOf s then if 4 < rest.length then .fault 10 else .bytes out else .fault 11
def OpenSays (zs : List Nat) (m : Nat) (r : Opened) : Prop :=
  (zs.length < 2 ∧ r = .fault 12) ∨ ∃ x y bs, zs = x :: y :: bs ∧ ((headOk x y = false ∧ r = .fault 10) ∨ (headOk x y = true ∧
    ((∃ k, Says blocksW (bitsOfBytes bs) m ⟨0, []⟩ (.err k) ∧ r = .fault k) ∨
     (∃ t, Says blocksW (bitsOfBytes bs) m ⟨0, []⟩ (.ok () t) ∧ r = sumSays (bs.drop ((t.pos + 7) / 8)) (sumOf t.out) t.out))))
theorem open_one {zs : List Nat} {m : Nat} {r r' : Opened} (h : OpenSays zs m r) (k : OpenSays zs m r') : r = r' := by
  rcases h with ⟨h1, rfl⟩ | ⟨x, y, bs, rfl, h⟩
  · rcases k with ⟨_, rfl⟩ | ⟨x, y, bs, rfl, _⟩
    · rfl
    · simp only [List.length_cons] at h1
      omega
  · rcases k with ⟨k1, _⟩ | ⟨x', y', bs', e, k⟩
    · simp only [List.length_cons] at k1
      omega
    · simp only [List.cons.injEq] at e
      obtain ⟨rfl, rfl, rfl⟩ := e
      rcases h with ⟨h1, rfl⟩ | ⟨h1, h⟩
      · rcases k with ⟨k1, rfl⟩ | ⟨k1, _⟩
        · rfl
        · rw [h1] at k1; cases k1
      · rcases k with ⟨k1, _⟩ | ⟨k1, k⟩
        · rw [h1] at k1; cases k1
        · rcases h with ⟨a, h, rfl⟩ | ⟨t, h, rfl⟩
          · rcases k with ⟨b, k, rfl⟩ | ⟨t', k, rfl⟩
            · have := Way.says_one h k
              cases this
              rfl
            · have := Way.says_one h k
              cases this
          · rcases k with ⟨b, k, rfl⟩ | ⟨t', k, rfl⟩
            · have := Way.says_one h k
              cases this
            · have := Way.says_one h k
              cases this
              rfl
theorem open_head (x y : Nat) (zs tail : List Nat) (m : Nat) (h8 : ∀ z ∈ zs, z < 256) (hm : zs.length ≤ m) : OpenSays (x :: y :: (wholeOf zs ++ tail)) m (if headOk x y then sumSays tail (sumOf zs) zs else .fault 10) := by
  refine .inr ⟨x, y, _, rfl, ?_⟩
  cases h : headOk x y with
  | false => exact .inl ⟨rfl, rfl⟩
  | true =>
    refine .inr ⟨rfl, .inr ⟨_, back_says zs tail m h8 hm, ?_⟩⟩
    simp only
    rw [(back_length zs).1, List.drop_left]
    rfl
theorem head_120 : headOk 120 1 = true := by decide
theorem open_tail (zs tail : List Nat) (m : Nat) (h8 : ∀ z ∈ zs, z < 256) (hm : zs.length ≤ m) : OpenSays (120 :: 1 :: (wholeOf zs ++ tail)) m (sumSays tail (sumOf zs) zs) := by
  have h := open_head 120 1 zs tail m h8 hm
  rwa [head_120, if_pos rfl] at h
theorem sum_right (s : Nat) (out : List Nat) : sumSays (fourOf s) s out = .bytes out := by
  unfold sumSays
  rw [if_neg (by rw [fourOf_length]; omega), if_pos (List.take_of_length_le (by rw [fourOf_length]; omega)), if_neg (by rw [fourOf_length]; omega)]
theorem sum_more (s x : Nat) (xs out : List Nat) : sumSays (fourOf s ++ x :: xs) s out = .fault 10 := by
  have h4 := fourOf_length s
  unfold sumSays
  rw [if_neg (by rw [List.length_append, h4]; omega), if_pos (by rw [← h4, List.take_left]), if_pos (by rw [List.length_append, h4, List.length_cons]; omega)]
theorem sum_wrong (s : Nat) (l out : List Nat) (hl : l.length = 4) (h : l ≠ fourOf s) : sumSays l s out = .fault 11 := by
  unfold sumSays
  rw [if_neg (by omega), if_neg (by rw [List.take_of_length_le (by omega)]; exact h)]
theorem sum_short (s : Nat) (l out : List Nat) (hl : l.length < 4) : sumSays l s out = .fault 12 := by
  unfold sumSays
  rw [if_pos hl]
theorem open_back (zs : List Nat) (m : Nat) (h8 : ∀ z ∈ zs, z < 256) (hm : zs.length ≤ m) : OpenSays (streamOf zs) m (.bytes zs) := by
  have h := open_tail zs (fourOf (sumOf zs)) m h8 hm
  rwa [sum_right] at h
theorem open_more (zs xs : List Nat) (x m : Nat) (h8 : ∀ z ∈ zs, z < 256) (hm : zs.length ≤ m) : OpenSays (streamOf zs ++ x :: xs) m (.fault 10) := by
  have h := open_tail zs (fourOf (sumOf zs) ++ x :: xs) m h8 hm
  rw [sum_more, ← List.append_assoc] at h
  exact h
theorem open_wrong (zs l : List Nat) (m : Nat) (h8 : ∀ z ∈ zs, z < 256) (hm : zs.length ≤ m) (hl : l.length = 4) (h : l ≠ fourOf (sumOf zs)) : OpenSays (120 :: 1 :: (wholeOf zs ++ l)) m (.fault 11) := by
  have h1 := open_tail zs l m h8 hm
  rwa [sum_wrong _ _ _ hl h] at h1
theorem open_less (zs : List Nat) (m : Nat) (h8 : ∀ z ∈ zs, z < 256) (hm : m < zs.length) : OpenSays (streamOf zs) m (.fault 3) :=
  .inr ⟨120, 1, _, rfl, .inr ⟨head_120, .inl ⟨3, less_bytes (back_says zs (fourOf (sumOf zs)) zs.length h8 (Nat.le_refl _)) (Nat.le_of_lt hm) hm, rfl⟩⟩⟩
theorem open_cut (zs : List Nat) (m q : Nat) (h8 : ∀ z ∈ zs, z < 256) (hm : zs.length ≤ m) (hq : q < (streamOf zs).length) : OpenSays ((streamOf zs).take q) m (.fault 12) := by
  match q, hq with
  | 0, _ => exact .inl ⟨by simp, rfl⟩
  | 1, _ => exact .inl ⟨by simp [streamOf], rfl⟩
  | q + 2, hq =>
    rw [streamOf_length] at hq
    have e : (streamOf zs).take (q + 2) = 120 :: 1 :: (wholeOf zs ++ fourOf (sumOf zs)).take q := by simp [streamOf]
    rw [e]
    obtain ⟨hp, _⟩ := back_length zs
    by_cases hk : q < (wholeOf zs).length
    · have hc := cut_bytes (back_says zs (fourOf (sumOf zs)) m h8 hm) q (by simp only; rw [hp]; exact hk)
      exact .inr ⟨120, 1, _, rfl, .inr ⟨head_120, .inl ⟨12, hc, rfl⟩⟩⟩
    · have e2 : (wholeOf zs ++ fourOf (sumOf zs)).take q = wholeOf zs ++ (fourOf (sumOf zs)).take (q - (wholeOf zs).length) := by
        rw [List.take_append, List.take_of_length_le (by omega)]
      rw [e2]
      have h := open_tail zs ((fourOf (sumOf zs)).take (q - (wholeOf zs).length)) m h8 hm
      rwa [sum_short _ _ _ (by rw [List.length_take]; omega)] at h
end Go.Proofs.YtbfpbmnnlckldaaDoor.Fx
