/-
  Plain numbers: Mix, what undoes it, and what a draw is mixed of. No condition but that numbers are below 2^64, where it is said.
-/
namespace Go.Proofs.Ytaeehpenikmabaa.Fx

/-- The first step of Mix, the second one, and Mix. -/
def mixA (x : Nat) : Nat := (x ^^^ x / 1073741824) * 13787848793156543929 % 18446744073709551616
def mixB (x : Nat) : Nat := (x ^^^ x / 134217728) * 10723151780598845931 % 18446744073709551616
def mixC (x : Nat) : Nat := x ^^^ x / 2147483648
def mix (x : Nat) : Nat := mixC (mixB (mixA x))
/-- The steps that undo these. -/
def unA (x : Nat) : Nat := x ^^^ x / 1073741824 ^^^ x / 1152921504606846976
def unB (x : Nat) : Nat := x ^^^ x / 134217728 ^^^ x / 18014398509481984
def unC (x : Nat) : Nat := x ^^^ x / 2147483648 ^^^ x / 4611686018427387904
def unM (x : Nat) : Nat := x * 3573116690164977347 % 18446744073709551616
def unN (x : Nat) : Nat := x * 10871156337175269513 % 18446744073709551616
def unmix (x : Nat) : Nat := unA (unN (unB (unM (unC x))))
def next (x n : Nat) : Nat := mix ((x + n + 11400714819323198485) % 18446744073709551616)
def mixed (l : List Nat) : Nat := l.foldl next 0
/-- A number of 64 bits that may be below 0, modulo 2^64. -/
def whole (n : Int) : Nat := (n % 18446744073709551616).toNat
def lastOf (seed : Nat) (l : List Int) : Nat := l.foldl (fun x n => next x (whole n)) (next 0 seed)
def draw (seed : Nat) (p s d : Int) : Nat := lastOf seed [p, s, d] / 4294967296

theorem xor_below {a b : Nat} (ha : a < 18446744073709551616) (hb : b < 18446744073709551616) : a ^^^ b < 18446744073709551616 := by
  have h : a ^^^ b < 2 ^ 64 := Nat.xor_lt_two_pow (by omega) (by omega)
  omega
theorem div_below {a : Nat} (s : Nat) (ha : a < 18446744073709551616) : a / s < 18446744073709551616 := Nat.lt_of_le_of_lt (Nat.div_le_self _ _) ha
theorem mixA_below (x : Nat) : mixA x < 18446744073709551616 := Nat.mod_lt _ (by decide)
theorem mixB_below (x : Nat) : mixB x < 18446744073709551616 := Nat.mod_lt _ (by decide)
theorem mixC_below {x : Nat} (h : x < 18446744073709551616) : mixC x < 18446744073709551616 := xor_below h (div_below _ h)
theorem mix_below (x : Nat) : mix x < 18446744073709551616 := mixC_below (mixB_below _)
theorem unM_below (x : Nat) : unM x < 18446744073709551616 := Nat.mod_lt _ (by decide)
theorem unN_below (x : Nat) : unN x < 18446744073709551616 := Nat.mod_lt _ (by decide)
theorem unA_below {x : Nat} (h : x < 18446744073709551616) : unA x < 18446744073709551616 := xor_below (xor_below h (div_below _ h)) (div_below _ h)
theorem unB_below {x : Nat} (h : x < 18446744073709551616) : unB x < 18446744073709551616 := xor_below (xor_below h (div_below _ h)) (div_below _ h)
theorem unC_below {x : Nat} (h : x < 18446744073709551616) : unC x < 18446744073709551616 := xor_below (xor_below h (div_below _ h)) (div_below _ h)
theorem unmix_below (x : Nat) : unmix x < 18446744073709551616 := unA_below (unN_below _)
theorem next_below (x n : Nat) : next x n < 18446744073709551616 := mix_below _
theorem whole_below (n : Int) : whole n < 18446744073709551616 := by
  unfold whole
  omega
theorem lastOf_below (seed : Nat) (l : List Int) : lastOf seed l < 18446744073709551616 := by
  unfold lastOf
  have h := next_below 0 seed
  generalize next 0 seed = x at *
  induction l generalizing x with
  | nil => exact h
  | cons n l ih => exact ih _ (next_below _ _)
theorem draw_below (seed : Nat) (p s d : Int) : draw seed p s d < 4294967296 := by
  have := lastOf_below seed [p, s, d]
  unfold draw
  omega

/-! ### What undoes -/
theorem bit_far {x i k : Nat} (h : x < 18446744073709551616) (hk : 64 ≤ k) : x.testBit (k + i) = false := by
  have h1 : 2 ^ 64 ≤ 2 ^ (k + i) := Nat.pow_le_pow_right (by decide) (by omega)
  have h2 : x < 2 ^ 64 := by omega
  exact Nat.testBit_lt_two_pow (Nat.lt_of_lt_of_le h2 h1)
theorem undo (x s : Nat) (h : x < 18446744073709551616) (hs : 22 ≤ s) :
    (x ^^^ x >>> s) ^^^ (x ^^^ x >>> s) >>> s ^^^ (x ^^^ x >>> s) >>> (2 * s) = x := by
  apply Nat.eq_of_testBit_eq
  intro i
  simp only [Nat.testBit_xor, Nat.testBit_shiftRight]
  have e1 : s + (s + i) = 2 * s + i := by omega
  have e2 : s + (2 * s + i) = 3 * s + i := by omega
  rw [e1, e2, bit_far h (by omega : 64 ≤ 3 * s)]
  generalize x.testBit i = a
  generalize x.testBit (s + i) = b
  generalize x.testBit (2 * s + i) = c
  cases a <;> cases b <;> cases c <;> rfl
theorem redo (x s : Nat) (h : x < 18446744073709551616) (hs : 22 ≤ s) :
    (x ^^^ x >>> s ^^^ x >>> (2 * s)) ^^^ (x ^^^ x >>> s ^^^ x >>> (2 * s)) >>> s = x := by
  apply Nat.eq_of_testBit_eq
  intro i
  simp only [Nat.testBit_xor, Nat.testBit_shiftRight]
  have e1 : s + (s + i) = 2 * s + i := by omega
  have e2 : 2 * s + (s + i) = 3 * s + i := by omega
  rw [e1, e2, bit_far h (by omega : 64 ≤ 3 * s)]
  generalize x.testBit i = a
  generalize x.testBit (s + i) = b
  generalize x.testBit (2 * s + i) = c
  cases a <;> cases b <;> cases c <;> rfl
theorem shr (x : Nat) : x / 1073741824 = x >>> 30 ∧ x / 1152921504606846976 = x >>> (2 * 30) ∧ x / 134217728 = x >>> 27 ∧ x / 18014398509481984 = x >>> (2 * 27) ∧ x / 2147483648 = x >>> 31 ∧ x / 4611686018427387904 = x >>> (2 * 31) := by
  refine ⟨?_, ?_, ?_, ?_, ?_, ?_⟩ <;> rw [Nat.shiftRight_eq_div_pow]
theorem times_back (y c k : Nat) (h : y < 18446744073709551616) (hc : c * k % 18446744073709551616 = 1) : (y * c % 18446744073709551616) * k % 18446744073709551616 = y := by
  rw [Nat.mod_mul_mod, Nat.mul_assoc, Nat.mul_mod, hc, Nat.mul_one, Nat.mod_mod, Nat.mod_eq_of_lt h]
theorem unC_mixC {x : Nat} (h : x < 18446744073709551616) : unC (mixC x) = x := by
  unfold unC mixC
  simp only [(shr _).2.2.2.2.1, (shr _).2.2.2.2.2]
  exact undo x 31 h (by decide)
theorem mixC_unC {x : Nat} (h : x < 18446744073709551616) : mixC (unC x) = x := by
  unfold unC mixC
  simp only [(shr _).2.2.2.2.1, (shr _).2.2.2.2.2]
  exact redo x 31 h (by decide)
theorem un_mixB {x : Nat} (h : x < 18446744073709551616) : unB (unM (mixB x)) = x := by
  unfold unM mixB
  rw [times_back _ _ _ (xor_below h (div_below _ h)) (by decide)]
  unfold unB
  simp only [(shr _).2.2.1, (shr _).2.2.2.1]
  exact undo x 27 h (by decide)
theorem mixB_un {x : Nat} (h : x < 18446744073709551616) : mixB (unB (unM x)) = x := by
  have e : unB (unM x) ^^^ unB (unM x) / 134217728 = unM x := by
    unfold unB
    simp only [(shr _).2.2.1, (shr _).2.2.2.1]
    exact redo (unM x) 27 (unM_below _) (by decide)
  unfold mixB
  rw [e]
  exact times_back _ _ _ h (by decide)
theorem un_mixA {x : Nat} (h : x < 18446744073709551616) : unA (unN (mixA x)) = x := by
  unfold unN mixA
  rw [times_back _ _ _ (xor_below h (div_below _ h)) (by decide)]
  unfold unA
  simp only [(shr _).1, (shr _).2.1]
  exact undo x 30 h (by decide)
theorem mixA_un {x : Nat} (h : x < 18446744073709551616) : mixA (unA (unN x)) = x := by
  have e : unA (unN x) ^^^ unA (unN x) / 1073741824 = unN x := by
    unfold unA
    simp only [(shr _).1, (shr _).2.1]
    exact redo (unN x) 30 (unN_below _) (by decide)
  unfold mixA
  rw [e]
  exact times_back _ _ _ h (by decide)
/-- Mix can be undone, both ways. -/
theorem unmix_mix {x : Nat} (h : x < 18446744073709551616) : unmix (mix x) = x := by
  unfold unmix mix
  rw [unC_mixC (mixB_below _), un_mixB (mixA_below _), un_mixA h]
theorem mix_unmix {x : Nat} (h : x < 18446744073709551616) : mix (unmix x) = x := by
  unfold unmix mix
  rw [mixA_un (unB_below (unM_below _)), mixB_un (unC_below h), mixC_unC h]
theorem mix_once {x y : Nat} (hx : x < 18446744073709551616) (hy : y < 18446744073709551616) (h : mix x = mix y) : x = y := by
  rw [← unmix_mix hx, ← unmix_mix hy, h]
theorem next_left {x y n : Nat} (hx : x < 18446744073709551616) (hy : y < 18446744073709551616) (h : next x n = next y n) : x = y := by
  unfold next at h
  have := mix_once (by omega) (by omega) h
  omega
theorem next_right {x n m : Nat} (hn : n < 18446744073709551616) (hm : m < 18446744073709551616) (h : next x n = next x m) : n = m := by
  unfold next at h
  have := mix_once (by omega) (by omega) h
  omega
theorem whole_once {a b : Int} (ha : -9223372036854775808 ≤ a) (ka : a ≤ 9223372036854775807) (hb : -9223372036854775808 ≤ b) (kb : b ≤ 9223372036854775807) (h : whole a = whole b) : a = b := by
  unfold whole at h
  omega
theorem last_three (x : Nat) (p s d : Int) : lastOf x [p, s, d] = next (next (next (next 0 x) (whole p)) (whole s)) (whole d) := by
  unfold lastOf
  rw [List.foldl_cons, List.foldl_cons, List.foldl_cons, List.foldl_nil]
theorem mixed_four (x a b c : Nat) : mixed [x, a, b, c] = next (next (next (next 0 x) a) b) c := by
  unfold mixed
  rw [List.foldl_cons, List.foldl_cons, List.foldl_cons, List.foldl_cons, List.foldl_nil]
theorem last_seed {a b : Nat} {p s d : Int} (ha : a < 18446744073709551616) (hb : b < 18446744073709551616) (h : lastOf a [p, s, d] = lastOf b [p, s, d]) : a = b := by
  rw [last_three, last_three] at h
  have h1 := next_left (next_below _ _) (next_below _ _) h
  have h2 := next_left (next_below _ _) (next_below _ _) h1
  have h3 := next_left (next_below _ _) (next_below _ _) h2
  exact next_right ha hb h3
theorem last_pixel {x : Nat} {p q s d : Int} (h : lastOf x [p, s, d] = lastOf x [q, s, d]) : whole p = whole q := by
  rw [last_three, last_three] at h
  have h1 := next_left (next_below _ _) (next_below _ _) h
  have h2 := next_left (next_below _ _) (next_below _ _) h1
  exact next_right (whole_below _) (whole_below _) h2
theorem last_sample {x : Nat} {p q s d : Int} (h : lastOf x [s, p, d] = lastOf x [s, q, d]) : whole p = whole q := by
  rw [last_three, last_three] at h
  have h1 := next_left (next_below _ _) (next_below _ _) h
  exact next_right (whole_below _) (whole_below _) h1
theorem last_dim {x : Nat} {p q s d : Int} (h : lastOf x [s, d, p] = lastOf x [s, d, q]) : whole p = whole q := by
  rw [last_three, last_three] at h
  exact next_right (whole_below _) (whole_below _) h

/-! ### Examples -/
theorem mix_examples : mix 0 = 0 ∧ mix 1 = 6238072747940578789 := by decide +kernel
theorem draw_example : draw 1 2 3 4 = 862728789 := by decide +kernel
/-- The draws of a picture: how many are in the lower half, and their sum, in one number: that of a pixel up to a sample, and of the pixels up to one. -/
def one (p s : Nat) : Nat := (1 - draw 7 p s 0 / 2147483648) * 18446744073709551616 + draw 7 p s 0 / 1024
def row (p : Nat) : Nat → Nat
  | 0 => 0
  | s + 1 => row p s + one p s
def rows : Nat → Nat
  | 0 => 0
  | p + 1 => rows p + row p 16
theorem rows_all : rows 64 = 9592306918331137219578 := by decide +kernel
end Go.Proofs.Ytaeehpenikmabaa.Fx
