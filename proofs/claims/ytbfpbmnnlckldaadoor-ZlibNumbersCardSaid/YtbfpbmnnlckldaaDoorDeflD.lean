/-
  Plain DEFLATE, read again: what was told comes back; unlike bytes have unlike streams, neither the begin of the other. No condition but those that are said.
-/
import Derived.Test.YtbfpbmnnlckldaaDoorDeflP
namespace Go.Proofs.YtbfpbmnnlckldaaDoor.Fx
/-! ### Numbers, symbols -/
def getNum (k : Nat) (r : List Bool) : Option (Nat × List Bool) := if r.length < k then none else some (numOf (r.take k), r.drop k)
def getTurned (k : Nat) (r : List Bool) : Option (Nat × List Bool) := if r.length < k then none else some (numOf (r.take k).reverse, r.drop k)
theorem getNum_put (n k : Nat) (r : List Bool) (h : n < 2 ^ k) : getNum k (bitsOf n k ++ r) = some (n, r) := by
  unfold getNum
  rw [if_neg (by rw [List.length_append, bitsOf_length]; omega), List.take_left' (bitsOf_length n k), List.drop_left' (bitsOf_length n k), numOf_small n k h]
theorem bitsOf_rest (n k j : Nat) (h : j ≤ k) : (bitsOf n k).drop j = bitsOf (n / 2 ^ j) (k - j) := by
  obtain ⟨d, rfl⟩ : ∃ d, k = j + d := ⟨k - j, by omega⟩
  rw [bitsOf_add, List.drop_left' (bitsOf_length n j), Nat.add_sub_cancel_left]
theorem turned_head (n k j : Nat) (r : List Bool) (h : j ≤ k) (hn : n < 2 ^ k) : numOf ((turned n k ++ r).take j).reverse = n / 2 ^ (k - j) := by
  rw [List.take_append_of_le_length (by rw [turned_length]; exact h), turned, List.take_reverse, List.reverse_reverse, bitsOf_length, bitsOf_rest n k (k - j) (by omega), numOf_bitsOf, show k - (k - j) = j by omega, Nat.mod_eq_of_lt]
  rw [Nat.div_lt_iff_lt_mul (Nat.pow_pos (by decide)), ← Nat.pow_add, show j + (k - j) = k by omega]
  exact hn
theorem getTurned_put (n k : Nat) (r : List Bool) (h : n < 2 ^ k) : getTurned k (turned n k ++ r) = some (n, r) := by
  unfold getTurned
  rw [if_neg (by rw [List.length_append, turned_length]; omega), turned_head n k k r (Nat.le_refl _) h, List.drop_left' (turned_length n k), Nat.sub_self, Nat.pow_zero, Nat.div_one]
/-- A symbol by the fixed codes. -/
def getSym (r : List Bool) : Option (Nat × List Bool) :=
  if r.length < 7 then none else if numOf (r.take 7).reverse < 24 then some (256 + numOf (r.take 7).reverse, r.drop 7) else
  if r.length < 8 then none else if numOf (r.take 8).reverse < 192 then some (numOf (r.take 8).reverse - 48, r.drop 8) else if numOf (r.take 8).reverse < 200 then some (280 + numOf (r.take 8).reverse - 192, r.drop 8) else
  if r.length < 9 then none else some (numOf (r.take 9).reverse - 400 + 144, r.drop 9)
theorem getSym_put (n : Nat) (r : List Bool) (h : n < 288) : getSym (fixedSym n ++ r) = some (n, r) := by
  unfold fixedSym
  by_cases h1 : n ≤ 143
  · rw [if_pos h1]
    unfold getSym
    rw [turned_head (48 + n) 8 7 r (by omega) (by omega), turned_head (48 + n) 8 8 r (by omega) (by omega), if_neg (by rw [List.length_append, turned_length]; omega), if_neg (by omega), if_neg (by rw [List.length_append, turned_length]; omega), if_pos (by omega), List.drop_left' (turned_length _ _)]
    exact congrArg some (Prod.ext (by simp only; omega) rfl)
  · rw [if_neg h1]
    by_cases h2 : n ≤ 255
    · rw [if_pos h2]
      unfold getSym
      rw [turned_head (400 + n - 144) 9 7 r (by omega) (by omega), turned_head (400 + n - 144) 9 8 r (by omega) (by omega), turned_head (400 + n - 144) 9 9 r (by omega) (by omega), if_neg (by rw [List.length_append, turned_length]; omega), if_neg (by omega), if_neg (by rw [List.length_append, turned_length]; omega), if_neg (by omega), if_neg (by omega), if_neg (by rw [List.length_append, turned_length]; omega), List.drop_left' (turned_length _ _)]
      exact congrArg some (Prod.ext (by simp only; omega) rfl)
    · rw [if_neg h2]
      by_cases h3 : n ≤ 279
      · rw [if_pos h3]
        unfold getSym
        rw [turned_head (n - 256) 7 7 r (by omega) (by omega), if_neg (by rw [List.length_append, turned_length]; omega), if_pos (by omega), List.drop_left' (turned_length _ _)]
        exact congrArg some (Prod.ext (by simp only; omega) rfl)
      · rw [if_neg h3]
        unfold getSym
        rw [turned_head (192 + n - 280) 8 7 r (by omega) (by omega), turned_head (192 + n - 280) 8 8 r (by omega) (by omega), if_neg (by rw [List.length_append, turned_length]; omega), if_neg (by omega), if_neg (by rw [List.length_append, turned_length]; omega), if_neg (by omega), if_pos (by omega), List.drop_left' (turned_length _ _)]
        exact congrArg some (Prod.ext (by simp only; omega) rfl)
/-! ### Matches -/
def copies (out : List Nat) (back : Nat) : Nat → List Nat
  | 0 => out
  | n + 1 => copies (out ++ [out.getD (out.length - back) 0]) back n
theorem copies_same (all : List Nat) (n i p : Nat) (hp : p < i) (hi : i + n ≤ all.length) (h : ∀ j, j < n → all[p + j]? = all[i + j]?) : copies (all.take i) (i - p) n = all.take (i + n) := by
  induction n generalizing i p with
  | zero => rfl
  | succ n ih =>
    unfold copies
    have hl : (all.take i).length = i := by rw [List.length_take]; omega
    have h0 := h 0 (by omega)
    rw [Nat.add_zero, Nat.add_zero] at h0
    have e : all.take i ++ [(all.take i).getD ((all.take i).length - (i - p)) 0] = all.take (i + 1) := by
      rw [hl, show i - (i - p) = p by omega, List.getD_eq_getElem?_getD, List.getElem?_take, if_pos hp, List.take_add_one, h0, List.getElem?_eq_getElem (by omega)]
      rfl
    rw [e, show i - p = (i + 1) - (p + 1) by omega, ih (i + 1) (p + 1) (by omega) (by omega) (fun j hj => ?_), show i + 1 + n = i + (n + 1) by omega]
    have := h (j + 1) (by omega)
    rwa [show p + (j + 1) = p + 1 + j by omega, show i + (j + 1) = i + 1 + j by omega] at this
/-! ### Symbols up to the end -/
def coded : Nat → List Bool → List Nat → Option (List Bool × List Nat)
  | 0, _, _ => none
  | f + 1, r, out => (getSym r).bind fun x => if x.1 = 256 then some (x.2, out) else if x.1 < 256 then coded f x.2 (out ++ [x.1]) else
      (getNum (lext.getD (x.1 - 257) 0) x.2).bind fun y => (getTurned 5 y.2).bind fun z => (getNum (dext.getD z.1 0) z.2).bind fun u => coded f u.2 (copies out (dists.getD z.1 0 + u.1) (lens.getD (x.1 - 257) 0 + y.1))
theorem lens_fit (n : Nat) (h3 : 3 ≤ n) (h258 : n ≤ 258) : find lens n < 29 ∧ lens.getD (find lens n) 0 ≤ n ∧ n - lens.getD (find lens n) 0 < 2 ^ lext.getD (find lens n) 0 := by
  have hd : ∀ k, k < 29 → lens.getD (k + 1) 259 ≤ lens.getD k 0 + 2 ^ lext.getD k 0 := by decide +kernel
  obtain ⟨h1, h2, h4⟩ := find_spec lens n (by decide) (by simpa [lens] using h3)
  have hl : lens.length = 29 := rfl
  rw [hl] at h1 h4
  refine ⟨h1, h2, ?_⟩
  have h5 := hd _ h1
  have h6 : n < lens.getD (find lens n + 1) 259 := by
    rcases Nat.lt_or_ge (find lens n + 1) 29 with h | h
    · have := h4 h
      rw [List.getD_eq_getElem?_getD, List.getElem?_eq_getElem (by rw [hl]; exact h)] at this ⊢
      exact this
    · rw [List.getD_eq_getElem?_getD, List.getElem?_eq_none (by rw [hl]; exact h)]
      simp only [Option.getD_none]
      omega
  omega
theorem dists_fit (n : Nat) (h1 : 1 ≤ n) (h2 : n ≤ 32768) : find dists n < 30 ∧ dists.getD (find dists n) 0 ≤ n ∧ n - dists.getD (find dists n) 0 < 2 ^ dext.getD (find dists n) 0 := by
  have hd : ∀ k, k < 30 → dists.getD (k + 1) 32769 ≤ dists.getD k 0 + 2 ^ dext.getD k 0 := by decide +kernel
  obtain ⟨h3, h4, h5⟩ := find_spec dists n (by decide) (by simpa [dists] using h1)
  have hl : dists.length = 30 := rfl
  rw [hl] at h3 h5
  refine ⟨h3, h4, ?_⟩
  have h6 := hd _ h3
  have h7 : n < dists.getD (find dists n + 1) 32769 := by
    rcases Nat.lt_or_ge (find dists n + 1) 30 with h | h
    · have := h5 h
      rw [List.getD_eq_getElem?_getD, List.getElem?_eq_getElem (by rw [hl]; exact h)] at this ⊢
      exact this
    · rw [List.getD_eq_getElem?_getD, List.getElem?_eq_none (by rw [hl]; exact h)]
      simp only [Option.getD_none]
      omega
  omega
theorem coded_put (all : List Nat) (to f i g : Nat) (r : List Bool) (h8 : ∀ x ∈ all, x < 256) (hi : i ≤ to) (ht : to ≤ all.length) (hf : to ≤ i + f) :
    coded ((toks all to f i).length + 1 + g) ((toks all to f i).flatMap tokBits ++ (fixedSym 256 ++ r)) (all.take i) = some (r, all.take to) := by
  have hend : ∀ g, coded (g + 1) (fixedSym 256 ++ r) (all.take to) = some (r, all.take to) := fun g => by
    unfold coded
    rw [getSym_put 256 r (by decide)]
    rfl
  induction f generalizing i g with
  | zero =>
    obtain rfl : i = to := by omega
    rw [show (toks all i 0 i).length + 1 + g = g + 1 by simp [toks]; omega]
    exact hend g
  | succ f ih =>
    by_cases hlt : i < to
    · unfold toks
      rw [if_pos hlt]
      by_cases h3 : 3 ≤ (matchOf all i to).1
      · rw [if_pos h3, List.flatMap_cons, List.length_cons, show ∀ x : Nat, x + 1 + 1 + g = (x + 1 + g) + 1 by intro x; omega]
        obtain ⟨m1, m2, m3, m4, m5⟩ := matchOf_spec all i to (by omega)
        generalize (matchOf all i to).1 = n at *
        generalize (matchOf all i to).2 = p at *
        obtain ⟨l1, l2, l3⟩ := lens_fit n h3 m1
        obtain ⟨d1, d2, d3⟩ := dists_fit (i - p) (by omega) (by omega)
        have hb : tokBits ⟨n, i - p, 0⟩ = fixedSym (257 + find lens n) ++ bitsOf (n - lens.getD (find lens n) 0) (lext.getD (find lens n) 0) ++ turned (find dists (i - p)) 5 ++ bitsOf (i - p - dists.getD (find dists (i - p)) 0) (dext.getD (find dists (i - p)) 0) := by
          unfold tokBits
          rw [if_neg (show ¬ i - p = 0 by omega)]
        rw [hb]
        simp only [List.append_assoc]
        unfold coded
        rw [getSym_put _ _ (by omega), Option.bind_some, if_neg (by simp only; omega), if_neg (by simp only; omega)]
        simp only [Nat.add_sub_cancel_left]
        rw [getNum_put _ _ _ l3, Option.bind_some]
        simp only
        rw [getTurned_put _ _ _ (by omega), Option.bind_some]
        simp only
        rw [getNum_put _ _ _ d3, Option.bind_some]
        simp only
        rw [show dists.getD (find dists (i - p)) 0 + (i - p - dists.getD (find dists (i - p)) 0) = i - p by omega, show lens.getD (find lens n) 0 + (n - lens.getD (find lens n) 0) = n by omega, copies_same all n i p m2 (by omega) m5]
        exact ih (i + n) g m4 (by omega)
      · rw [if_neg h3, List.flatMap_cons, List.length_cons, show ∀ x : Nat, x + 1 + 1 + g = (x + 1 + g) + 1 by intro x; omega]
        have hx : all.getD i 0 < 256 := by
          rw [List.getD_eq_getElem?_getD, List.getElem?_eq_getElem (by omega)]
          exact h8 _ (List.getElem_mem _)
        have hb : tokBits ⟨0, 0, all.getD i 0⟩ = fixedSym (all.getD i 0) := by
          unfold tokBits
          rw [if_pos rfl]
        rw [hb, List.append_assoc]
        unfold coded
        rw [getSym_put _ _ (by omega), Option.bind_some, if_neg (by simp only; omega), if_pos (by simp only; omega)]
        have e : all.take i ++ [all.getD i 0] = all.take (i + 1) := by
          rw [List.take_add_one, List.getD_eq_getElem?_getD, List.getElem?_eq_getElem (by omega)]
          rfl
        rw [e]
        exact ih (i + 1) g (by omega) (by omega)
    · obtain rfl : i = to := by omega
      unfold toks
      rw [if_neg hlt, List.length_nil, show 0 + 1 + g = g + 1 by omega]
      exact hend g
/-! ### Blocks -/
def getBlock (pos : Nat) (r : List Bool) (out : List Nat) : Option (Nat × List Bool × List Nat) :=
  (getNum 1 r).bind fun a => (getNum 2 a.2).bind fun k =>
    if k.1 = 0 then (getNum 16 (k.2.drop ((8 - (pos + 3) % 8) % 8))).bind fun n => (getNum 16 n.2).bind fun m => some (a.1, m.2.drop (8 * n.1), out ++ bytesAt m.2 0 n.1)
    else if k.1 = 1 then (coded (k.2.length + 1) k.2 out).bind fun x => some (a.1, x.1, x.2) else none
theorem bytesAt_put (zs : List Nat) (r : List Bool) (h8 : ∀ x ∈ zs, x < 256) : bytesAt (bitsOfBytes zs ++ r) 0 zs.length = zs ∧ (bitsOfBytes zs ++ r).drop (8 * zs.length) = r := by
  refine ⟨?_, List.drop_left' (by rw [bitsOfBytes_length])⟩
  have key : ∀ (ys zs : List Nat), (∀ x ∈ zs, x < 256) → bytesAt (bitsOfBytes ys ++ (bitsOfBytes zs ++ r)) ys.length zs.length = zs := by
    intro ys zs
    induction zs generalizing ys with
    | nil => intro _; rfl
    | cons z zs ih =>
      intro h
      rw [List.length_cons, bytesAt]
      have e : bitsOfBytes (z :: zs) = bitsOf z 8 ++ bitsOfBytes zs := by
        unfold bitsOfBytes
        rw [List.flatMap_cons]
      have h1 : numAt (bitsOfBytes ys ++ (bitsOfBytes (z :: zs) ++ r)) (8 * ys.length) 8 = z := by
        unfold numAt
        rw [List.drop_left' (by rw [bitsOfBytes_length]), e, List.append_assoc, List.take_left' (bitsOf_length z 8), numOf_small z 8 (h z (List.mem_cons_self ..))]
      have h2 : bitsOfBytes ys ++ (bitsOfBytes (z :: zs) ++ r) = bitsOfBytes (ys ++ [z]) ++ (bitsOfBytes zs ++ r) := by
        rw [bitsOfBytes_snoc, e]
        simp only [List.append_assoc]
      have h3 := ih (ys ++ [z]) (fun x hx => h x (List.mem_cons_of_mem _ hx))
      rw [h1, h2]
      congr 1
      rw [List.length_append] at h3
      exact h3
  exact key [] zs h8
theorem coded_more (f g : Nat) (r : List Bool) (out : List Nat) (x : List Bool × List Nat) (h : coded f r out = some x) : coded (f + g) r out = some x := by
  induction f generalizing r out with
  | zero => simp [coded] at h
  | succ f ih =>
    rw [Nat.succ_add]
    unfold coded at h ⊢
    cases h1 : getSym r with
    | none => rw [h1] at h; simp at h
    | some s =>
      rw [h1, Option.bind_some] at h
      rw [Option.bind_some]
      by_cases h2 : s.1 = 256
      · rw [if_pos h2] at h ⊢
        exact h
      · rw [if_neg h2] at h ⊢
        by_cases h3 : s.1 < 256
        · rw [if_pos h3] at h ⊢
          exact ih _ _ h
        · rw [if_neg h3] at h ⊢
          cases h4 : getNum (lext.getD (s.1 - 257) 0) s.2 with
          | none => rw [h4] at h; simp at h
          | some y =>
            rw [h4, Option.bind_some] at h
            rw [Option.bind_some]
            cases h5 : getTurned 5 y.2 with
            | none => rw [h5] at h; simp at h
            | some z =>
              rw [h5, Option.bind_some] at h
              rw [Option.bind_some]
              cases h6 : getNum (dext.getD z.1 0) z.2 with
              | none => rw [h6] at h; simp at h
              | some u =>
                rw [h6, Option.bind_some] at h
                rw [Option.bind_some]
                exact ih _ _ h
theorem fixedSym_some (n : Nat) : 1 ≤ (fixedSym n).length := by
  unfold fixedSym
  split
  · rw [turned_length]; omega
  · split
    · rw [turned_length]; omega
    · split
      · rw [turned_length]; omega
      · rw [turned_length]; omega
theorem tokBits_some (t : Tok) : 1 ≤ (tokBits t).length := by
  unfold tokBits
  split
  · exact fixedSym_some _
  · simp only [List.length_append]
    have := fixedSym_some (257 + find lens t.n)
    omega
theorem toks_bits (ts : List Tok) : ts.length ≤ (ts.flatMap tokBits).length := by
  induction ts with
  | nil => simp
  | cons t ts ih =>
    rw [List.flatMap_cons, List.length_cons, List.length_append]
    have := tokBits_some t
    omega
theorem getBlock_fixed (l : List Bool) (all : List Nat) (a to last : Nat) (r : List Bool) (h8 : ∀ x ∈ all, x < 256) (ha : a ≤ to) (ht : to ≤ all.length) (hl : last < 2) :
    ∃ X, fixedBlock l (tokens all a to) last = l ++ X ∧ getBlock l.length (X ++ r) (all.take a) = some (last, r, all.take to) := by
  refine ⟨bitsOf last 1 ++ (bitsOf 1 2 ++ ((tokens all a to).flatMap tokBits ++ fixedSym 256)), by unfold fixedBlock; simp only [List.append_assoc], ?_⟩
  simp only [List.append_assoc]
  unfold getBlock
  rw [getNum_put last 1 _ (by omega), Option.bind_some]
  simp only
  rw [getNum_put 1 2 _ (by decide), Option.bind_some, if_neg (show ¬ (1 : Nat) = 0 by decide), if_pos rfl]
  have hlen := toks_bits (tokens all a to)
  have hc := coded_put all to (to - a) a 0 r h8 ha ht (by omega)
  rw [Nat.add_zero] at hc
  have hm := coded_more _ (((tokens all a to).flatMap tokBits ++ (fixedSym 256 ++ r)).length - (tokens all a to).length) _ _ _ hc
  have e : (toks all to (to - a) a).length + 1 + (((tokens all a to).flatMap tokBits ++ (fixedSym 256 ++ r)).length - (tokens all a to).length) = ((tokens all a to).flatMap tokBits ++ (fixedSym 256 ++ r)).length + 1 := by
    have e1 : (toks all to (to - a) a).length = (tokens all a to).length := rfl
    rw [List.length_append, e1]
    omega
  rw [e] at hm
  have hm : coded (((tokens all a to).flatMap tokBits ++ (fixedSym 256 ++ r)).length + 1) ((tokens all a to).flatMap tokBits ++ (fixedSym 256 ++ r)) (all.take a) = some (r, all.take to) := hm
  rw [hm, Option.bind_some]
theorem getBlock_stored (l : List Bool) (all : List Nat) (a to last : Nat) (r : List Bool) (h8 : ∀ x ∈ all, x < 256) (ha : a ≤ to) (ht : to ≤ all.length) (hs : to - a < 65536) (hl : last < 2) :
    ∃ X, storedBlock l ((all.take to).drop a) last = l ++ X ∧ getBlock l.length (X ++ r) (all.take a) = some (last, r, all.take to) := by
  have hz : ((all.take to).drop a).length = to - a := by rw [List.length_drop, List.length_take]; omega
  have hcat : all.take a ++ (all.take to).drop a = all.take to := by
    have := List.take_append_drop a (all.take to)
    rwa [List.take_take, Nat.min_eq_left ha] at this
  have hz8 : ∀ x ∈ (all.take to).drop a, x < 256 := fun x hx => h8 x (List.mem_of_mem_take (List.mem_of_mem_drop hx))
  generalize (all.take to).drop a = zs at *
  have hpl : (l ++ bitsOf last 1 ++ bitsOf 0 2).length = l.length + 3 := by rw [List.length_append, List.length_append, bitsOf_length, bitsOf_length]
  refine ⟨bitsOf last 1 ++ (bitsOf 0 2 ++ (List.replicate ((8 - (l.length + 3) % 8) % 8) false ++ (bitsOf zs.length 16 ++ (bitsOf (65535 - zs.length) 16 ++ bitsOfBytes zs)))), ?_, ?_⟩
  · unfold storedBlock aligned
    rw [hpl]
    simp only [List.append_assoc]
  · simp only [List.append_assoc]
    unfold getBlock
    rw [getNum_put last 1 _ (by omega), Option.bind_some]
    simp only
    rw [getNum_put 0 2 _ (by decide), Option.bind_some, if_pos rfl, List.drop_left' (by rw [List.length_replicate]), getNum_put zs.length 16 _ (by omega), Option.bind_some]
    simp only
    rw [getNum_put (65535 - zs.length) 16 _ (by omega), Option.bind_some]
    obtain ⟨b1, b2⟩ := bytesAt_put zs r hz8
    simp only
    rw [b1, b2, hcat]
theorem getBlock_put (l : List Bool) (all : List Nat) (a to last : Nat) (r : List Bool) (h8 : ∀ x ∈ all, x < 256) (ha : a ≤ to) (ht : to ≤ all.length) (hs : to - a < 65536) (hl : last < 2) :
    ∃ X, blockOf l all a to last = l ++ X ∧ getBlock l.length (X ++ r) (all.take a) = some (last, r, all.take to) := by
  unfold blockOf
  split
  · exact getBlock_stored l all a to last r h8 ha ht hs hl
  · exact getBlock_fixed l all a to last r h8 ha ht hl
/-! ### The stream -/
def inflates : Nat → Nat → List Bool → List Nat → Option (List Nat × List Bool)
  | 0, _, _, _ => none
  | f + 1, pos, r, out => (getBlock pos r out).bind fun x => if x.1 = 1 then some (x.2.2, x.2.1) else inflates f (pos + (r.length - x.2.1.length)) x.2.1 x.2.2
/-- What is told comes back, whatever stands behind it. -/
theorem inflates_put (all : List Nat) (d k g : Nat) (rest : List Bool) (h8 : ∀ x ∈ all, x < 256) (hk : k + d = fullOf all.length) :
    ∃ Y, blockOf (blocksOf all (fullOf all.length)) all (4096 * fullOf all.length) all.length 1 = blocksOf all k ++ Y ∧ inflates (d + 1 + g) (blocksOf all k).length (Y ++ rest) (all.take (4096 * k)) = some (all, rest) := by
  have hJ : 4096 * fullOf all.length ≤ all.length := by unfold fullOf; omega
  have hJ2 : all.length - 4096 * fullOf all.length < 65536 := by unfold fullOf; omega
  induction d generalizing k with
  | zero =>
    obtain rfl : k = fullOf all.length := by omega
    obtain ⟨X, hX, hg⟩ := getBlock_put (blocksOf all (fullOf all.length)) all (4096 * fullOf all.length) all.length 1 rest h8 hJ (Nat.le_refl _) hJ2 (by decide)
    refine ⟨X, hX, ?_⟩
    rw [show 0 + 1 + g = g + 1 by omega]
    unfold inflates
    rw [hg, Option.bind_some, if_pos rfl, List.take_length]
  | succ d ih =>
    obtain ⟨Y, hY, hi⟩ := ih (k + 1) (by omega)
    have hk2 : 4096 * (k + 1) ≤ all.length := by
      have : k + 1 ≤ fullOf all.length := by omega
      have := Nat.mul_le_mul_left 4096 this
      omega
    obtain ⟨X, hX, hg⟩ := getBlock_put (blocksOf all k) all (4096 * k) (4096 * (k + 1)) 0 (Y ++ rest) h8 (by omega) hk2 (by omega) (by decide)
    have hb : blocksOf all (k + 1) = blocksOf all k ++ X := hX
    refine ⟨X ++ Y, by rw [hY, hb, List.append_assoc], ?_⟩
    rw [show d + 1 + 1 + g = (d + 1 + g) + 1 by omega]
    unfold inflates
    rw [List.append_assoc, hg, Option.bind_some, if_neg (show ¬ (0 : Nat) = 1 by decide)]
    have e : (blocksOf all k).length + ((X ++ (Y ++ rest)).length - (Y ++ rest).length) = (blocksOf all (k + 1)).length := by
      rw [hb]
      simp only [List.length_append]
      omega
    simp only
    rw [e]
    exact hi
theorem inflates_end (all : List Nat) (g : Nat) (rest : List Bool) (h8 : ∀ x ∈ all, x < 256) : ∃ y, inflates (fullOf all.length + 1 + g) 0 (endOf all ++ rest) [] = some (all, y) := by
  obtain ⟨Y, hY, hi⟩ := inflates_put all (fullOf all.length) 0 g (List.replicate ((8 - (blockOf (blocksOf all (fullOf all.length)) all (4096 * fullOf all.length) all.length 1).length % 8) % 8) false ++ rest) h8 (by omega)
  refine ⟨List.replicate ((8 - (blockOf (blocksOf all (fullOf all.length)) all (4096 * fullOf all.length) all.length 1).length % 8) % 8) false ++ rest, ?_⟩
  unfold endOf aligned
  rw [List.append_assoc]
  have hY' : blockOf (blocksOf all (fullOf all.length)) all (4096 * fullOf all.length) all.length 1 = Y := by rw [hY]; rfl
  rw [← hY'] at hi
  exact hi
/-- Unlike bytes have unlike streams, neither the begin of the other. -/
theorem streams_unlike (b c : List Nat) (x : List Bool) (hb : ∀ z ∈ b, z < 256) (hc : ∀ z ∈ c, z < 256) (h : endOf b ++ x = endOf c) : b = c := by
  obtain ⟨y, h1⟩ := inflates_end b (fullOf c.length) x hb
  obtain ⟨y2, h2⟩ := inflates_end c (fullOf b.length) [] hc
  rw [List.append_nil, ← h, show fullOf c.length + 1 + fullOf b.length = fullOf b.length + 1 + fullOf c.length by omega, h1] at h2
  exact (Prod.mk.inj (Option.some.inj h2)).1
end Go.Proofs.YtbfpbmnnlckldaaDoor.Fx
