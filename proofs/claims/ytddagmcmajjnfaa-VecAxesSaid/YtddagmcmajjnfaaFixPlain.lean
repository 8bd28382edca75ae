/-
  Plain numbers: what the calls of package fix are, as functions on whole numbers, and what follows. No condition; nothing of the program is named here.
-/
namespace Go.Proofs.Ytddagmcmajjnfaa.Fx

/-- Brought in. -/
def bring (n : Int) : Int := if n < -9223372036854775808 then -9223372036854775808 else if 9223372036854775807 < n then 9223372036854775807 else n
def isI (n : Int) : Prop := -9223372036854775808 ≤ n ∧ n ≤ 9223372036854775807
theorem bring_in {n : Int} (h : isI n) : bring n = n := by
  unfold isI at h
  unfold bring
  rw [if_neg (by omega), if_neg (by omega)]
theorem bring_low {n : Int} (h : n < -9223372036854775808) : bring n = -9223372036854775808 := by
  unfold bring
  rw [if_pos h]
theorem bring_high {n : Int} (h : 9223372036854775807 < n) : bring n = 9223372036854775807 := by
  unfold bring
  rw [if_neg (by omega), if_pos h]
theorem bring_is (n : Int) : isI (bring n) := by
  unfold isI bring
  split
  · omega
  · split <;> omega
theorem bring_mono {m n : Int} (h : m ≤ n) : bring m ≤ bring n := by
  unfold bring
  split
  · split
    · omega
    · split <;> omega
  · split
    · split
      · omega
      · split <;> omega
    · split
      · omega
      · split <;> omega
/-- What bring does, case by case, for omega. -/
theorem bring_cases (n : Int) : (n < -9223372036854775808 ∧ bring n = -9223372036854775808) ∨ (9223372036854775807 < n ∧ bring n = 9223372036854775807) ∨ (-9223372036854775808 ≤ n ∧ n ≤ 9223372036854775807 ∧ bring n = n) := by
  unfold bring
  split
  · exact .inl ⟨by omega, rfl⟩
  · split
    · exact .inr (.inl ⟨by omega, rfl⟩)
    · exact .inr (.inr ⟨by omega, by omega, rfl⟩)

def add (a b : Int) : Int := bring (a + b)
def sub (a b : Int) : Int := bring (a - b)
def neg (a : Int) : Int := bring (-a)
def whole (n : Int) : Int := bring (n * 4294967296)
def floor (x : Int) : Int := x / 4294967296
def mul (a b : Int) : Int := bring (a * b / 4294967296)
def last (a : Int) : Int := if a < 0 then -9223372036854775808 else 9223372036854775807
def div (a b : Int) : Int := if b = 0 then (if a = 0 then 0 else last a) else bring ((a * 4294967296).fdiv b)
theorem add_is (a b : Int) : isI (add a b) := bring_is _
theorem sub_is (a b : Int) : isI (sub a b) := bring_is _
theorem neg_is (a : Int) : isI (neg a) := bring_is _
theorem whole_is (n : Int) : isI (whole n) := bring_is _
theorem mul_is (a b : Int) : isI (mul a b) := bring_is _
theorem last_is (a : Int) : isI (last a) := by
  unfold isI last
  split <;> omega
theorem div_is (a b : Int) : isI (div a b) := by
  unfold div
  split
  · split
    · unfold isI; omega
    · exact last_is a
  · exact bring_is _
theorem floor_is {x : Int} (h : isI x) : isI (floor x) := by
  unfold isI at *
  unfold floor
  omega

/-! ### Signs and sizes: a size divided by a size, and a sign -/
def unlike (a b : Int) : Bool := decide ((a < 0) ≠ (b < 0))
/-- A size of two limbs, with or without a rest, and a sign, as a number. -/
def signed (below : Bool) (hi lo : Nat) (rest : Bool) : Int :=
  if below = false then (if hi ≠ 0 ∨ 9223372036854775808 ≤ lo then 9223372036854775807 else (lo : Int))
  else if hi ≠ 0 ∨ 9223372036854775808 ≤ lo then -9223372036854775808 else if rest = true then -((lo : Int) + 1) else -(lo : Int)
theorem signed_up (Q hi lo : Nat) (rest : Bool) (hh : hi = Q / 18446744073709551616) (hl : lo = Q % 18446744073709551616) : signed false hi lo rest = bring (Q : Int) := by
  subst hh hl
  unfold signed
  rw [if_pos rfl]
  have hc := bring_cases (Q : Int)
  by_cases h : 9223372036854775808 ≤ Q
  · rw [if_pos (by omega)]
    omega
  · rw [if_neg (by omega)]
    omega
theorem signed_down (Q hi lo : Nat) (rest : Bool) (hh : hi = Q / 18446744073709551616) (hl : lo = Q % 18446744073709551616) : signed true hi lo rest = bring (-((Q : Int) + if rest = true then 1 else 0)) := by
  subst hh hl
  unfold signed
  rw [if_neg (by decide)]
  cases rest
  · have hc := bring_cases (-((Q : Int) + 0))
    simp only [Bool.false_eq_true, if_false]
    by_cases h : 9223372036854775808 ≤ Q
    · rw [if_pos (by omega)]
      omega
    · rw [if_neg (by omega)]
      omega
  · have hc := bring_cases (-((Q : Int) + 1))
    simp only [if_true]
    by_cases h : 9223372036854775808 ≤ Q
    · rw [if_pos (by omega)]
      omega
    · rw [if_neg (by omega)]
      omega
/-- A quotient of sizes, with the sign, is the quotient of the numbers divided down. -/
theorem ediv_neg_down (N D : Nat) (hD : 0 < D) : (-(N : Int)) / (D : Int) = -(((N / D : Nat) : Int) + if N % D ≠ 0 then 1 else 0) := by
  have h := Nat.div_add_mod N D
  have hm := Nat.mod_lt N hD
  have e : ∀ q r : Int, (N : Int) = (D : Int) * q + r → 0 ≤ r → r < D → (-(N : Int)) / (D : Int) = -(q + if r ≠ 0 then 1 else 0) := by
    intro q r h1 h2 h3
    have hD' : (0 : Int) < D := by omega
    by_cases hr : r = 0
    · subst hr
      simp only [ne_eq, not_true_eq_false, if_false, Int.add_zero]
      have : -(N : Int) = -q * D := by rw [h1, Int.add_zero, Int.neg_mul, Int.mul_comm]
      rw [this, Int.mul_ediv_cancel _ (by omega)]
    · rw [if_pos hr]
      have : -(N : Int) = (D - r) + D * (-(q + 1)) := by rw [h1, Int.mul_neg, Int.mul_add]; omega
      rw [this, Int.add_mul_ediv_left _ _ (by omega), Int.ediv_eq_zero_of_lt (by omega) (by omega)]
      omega
  have := e (N / D : Nat) (N % D : Nat) (by rw [← Int.natCast_mul, ← Int.natCast_add, h]) (by omega) (by omega)
  rw [this]
  congr 2
  by_cases h0 : N % D = 0
  · rw [h0]; rfl
  · rw [if_pos h0, if_pos (by omega)]
theorem mul_sizes (a b : Int) (hi lo : Nat) (rest : Bool) (below : Bool) (hs : below = unlike a b)
    (hh : hi = a.natAbs * b.natAbs / 4294967296 / 18446744073709551616) (hl : lo = a.natAbs * b.natAbs / 4294967296 % 18446744073709551616)
    (hr : rest = decide (a.natAbs * b.natAbs % 4294967296 ≠ 0)) : signed below hi lo rest = mul a b := by
  unfold mul
  by_cases hn : (a < 0) ≠ (b < 0)
  · have hb : below = true := by rw [hs]; unfold unlike; simpa using hn
    subst hb
    rw [signed_down _ _ _ _ hh hl]
    have e : a * b = -((a.natAbs * b.natAbs : Nat) : Int) := by
      rw [Int.natCast_mul]
      by_cases ha : a < 0
      · have hb : 0 ≤ b := by
          by_cases hb : b < 0
          · exact absurd (by simp [ha, hb]) hn
          · omega
        rw [Int.ofNat_natAbs_of_nonpos (by omega), Int.natAbs_of_nonneg hb, Int.neg_mul, Int.neg_neg]
      · have hb : b < 0 := by
          by_cases hb : b < 0
          · exact hb
          · exact absurd (by simp [ha, hb]) hn
        rw [Int.natAbs_of_nonneg (by omega), Int.ofNat_natAbs_of_nonpos (by omega), Int.mul_neg, Int.neg_neg]
    rw [e, show (4294967296 : Int) = ((4294967296 : Nat) : Int) from rfl, ediv_neg_down _ _ (by decide)]
    subst hr
    simp
  · have hb : below = false := by rw [hs]; unfold unlike; simpa using hn
    subst hb
    rw [signed_up _ _ _ _ hh hl]
    have e : a * b = ((a.natAbs * b.natAbs : Nat) : Int) := by
      rw [Int.natCast_mul]
      by_cases ha : a < 0
      · have hb : b < 0 := by
          by_cases hb : b < 0
          · exact hb
          · exact absurd (by simp [ha, hb]) hn
        rw [Int.ofNat_natAbs_of_nonpos (by omega), Int.ofNat_natAbs_of_nonpos (by omega), Int.neg_mul, Int.mul_neg, Int.neg_neg]
      · have hb : 0 ≤ b := by
          by_cases hb : b < 0
          · exact absurd (by simp [ha, hb]) hn
          · omega
        rw [Int.natAbs_of_nonneg (by omega), Int.natAbs_of_nonneg hb]
    rw [e]
    rfl
theorem div_sizes (a b : Int) (hb0 : b ≠ 0) (hi lo : Nat) (rest : Bool) (below : Bool) (hs : below = unlike a b)
    (hh : hi = a.natAbs * 4294967296 / b.natAbs / 18446744073709551616) (hl : lo = a.natAbs * 4294967296 / b.natAbs % 18446744073709551616)
    (hr : rest = decide (a.natAbs * 4294967296 % b.natAbs ≠ 0)) : signed below hi lo rest = div a b := by
  unfold div
  rw [if_neg hb0]
  have hD : 0 < b.natAbs := by omega
  have key : (a * 4294967296).fdiv b = if b < 0 then (-(a * 4294967296)) / (b.natAbs : Int) else (a * 4294967296) / (b.natAbs : Int) := by
    split
    · rw [Int.ofNat_natAbs_of_nonpos (by omega), ← Int.neg_fdiv_neg, Int.fdiv_eq_ediv_of_nonneg _ (by omega)]
    · rw [Int.natAbs_of_nonneg (by omega), Int.fdiv_eq_ediv_of_nonneg _ (by omega)]
  rw [key]
  have en : a < 0 → a * 4294967296 = -((a.natAbs * 4294967296 : Nat) : Int) := fun h => by omega
  have ep : ¬ a < 0 → a * 4294967296 = ((a.natAbs * 4294967296 : Nat) : Int) := fun h => by omega
  by_cases hn : (a < 0) ≠ (b < 0)
  · have hb : below = true := by rw [hs]; unfold unlike; simpa using hn
    subst hb
    rw [signed_down _ _ _ _ hh hl]
    have e : (if b < 0 then (-(a * 4294967296)) / (b.natAbs : Int) else (a * 4294967296) / (b.natAbs : Int)) = (-((a.natAbs * 4294967296 : Nat) : Int)) / (b.natAbs : Int) := by
      by_cases ha : a < 0
      · have hb : ¬ b < 0 := fun hb => absurd (by simp [ha, hb]) hn
        rw [if_neg hb, en ha]
      · have hb : b < 0 := by
          by_cases hb : b < 0
          · exact hb
          · exact absurd (by simp [ha, hb]) hn
        rw [if_pos hb, ep ha]
    rw [e, ediv_neg_down _ _ hD]
    subst hr
    simp
  · have hb : below = false := by rw [hs]; unfold unlike; simpa using hn
    subst hb
    rw [signed_up _ _ _ _ hh hl]
    have e : (if b < 0 then (-(a * 4294967296)) / (b.natAbs : Int) else (a * 4294967296) / (b.natAbs : Int)) = ((a.natAbs * 4294967296 : Nat) : Int) / (b.natAbs : Int) := by
      by_cases ha : a < 0
      · have hb : b < 0 := by
          by_cases hb : b < 0
          · exact hb
          · exact absurd (by simp [ha, hb]) hn
        rw [if_pos hb, en ha, Int.neg_neg]
      · have hb : ¬ b < 0 := fun hb => absurd (by simp [ha, hb]) hn
        rw [if_neg hb, ep ha]
    rw [e, ← Int.natCast_ediv]

/-! ### Roots -/
/-- The greatest r not above k with r times r at most n. -/
def rootUp (n : Nat) : Nat → Nat
  | 0 => 0
  | k + 1 => if (k + 1) * (k + 1) ≤ n then k + 1 else rootUp n k
def root (n : Nat) : Nat := rootUp n n
theorem rootUp_le (n k : Nat) : rootUp n k * rootUp n k ≤ n := by
  induction k with
  | zero => simp [rootUp]
  | succ k ih =>
    unfold rootUp
    split
    · assumption
    · exact ih
theorem rootUp_most (n k j : Nat) (hj : j ≤ k) (h : j * j ≤ n) : j ≤ rootUp n k := by
  induction k with
  | zero => omega
  | succ k ih =>
    unfold rootUp
    split
    · omega
    · rename_i hk
      apply ih
      have : j ≠ k + 1 := by
        rintro rfl
        exact hk h
      omega
theorem root_le (n : Nat) : root n * root n ≤ n := rootUp_le n n
theorem root_most (n j : Nat) (h : j * j ≤ n) : j ≤ root n := by
  apply rootUp_most n n j _ h
  by_cases h0 : j = 0
  · omega
  · exact Nat.le_trans (Nat.le_mul_of_pos_left j (by omega)) h
theorem root_next (n : Nat) : n < (root n + 1) * (root n + 1) := by
  apply Nat.lt_of_not_le
  intro h
  have := root_most n _ h
  omega
theorem root_eq (n r : Nat) (h1 : r * r ≤ n) (h2 : n < (r + 1) * (r + 1)) : root n = r := by
  have a := root_most n r h1
  have b : ¬ r + 1 ≤ root n := by
    intro h
    have := Nat.mul_le_mul h h
    have := root_le n
    omega
  omega
theorem root_mono {m n : Nat} (h : m ≤ n) : root m ≤ root n := root_most n _ (Nat.le_trans (root_le m) h)
def sqrt (a : Int) : Int := if a < 1 then 0 else (root (a.toNat * 4294967296) : Int)
theorem sqrt_bound {a : Int} (h : isI a) : 0 ≤ sqrt a ∧ sqrt a < 281474976710656 := by
  unfold isI at h
  unfold sqrt
  split
  · omega
  · constructor
    · omega
    · have hr := root_le (a.toNat * 4294967296)
      have : root (a.toNat * 4294967296) < 281474976710656 := by
        apply Nat.lt_of_not_le
        intro hh
        have := Nat.mul_le_mul hh hh
        omega
      omega
theorem sqrt_is {a : Int} (h : isI a) : isI (sqrt a) := by
  have := sqrt_bound h
  unfold isI
  omega

/-! ### Sines -/
def fold1 (r : Int) : Int := if 13493037704 < r then r - 26986075409 else r
def fold2 (r : Int) : Int := if 6746518852 < r then 13493037704 - r else if r < -6746518852 then -13493037704 - r else r
def fold (a : Int) : Int := fold2 (fold1 (a % 26986075409))
theorem fold_bd (a : Int) : -6746518852 ≤ fold a ∧ fold a ≤ 6746518852 := by
  unfold fold fold2 fold1
  have h1 := Int.emod_nonneg a (b := 26986075409) (by decide)
  have h2 := Int.emod_lt_of_pos a (b := 26986075409) (by decide)
  split <;> split <;> (try split) <;> omega
def sq (r : Int) : Int := mul r r
def s1 (q : Int) : Int := 4294967296 - q / 72
def s2 (q s : Int) : Int := 4294967296 - mul q s / 42
def s3 (q s : Int) : Int := 4294967296 - mul q s / 20
def s4 (q s : Int) : Int := 4294967296 - mul q s / 6
def clamp (x : Int) : Int := if 4294967296 < x then 4294967296 else if x < -4294967296 then -4294967296 else x
def series (q : Int) : Int := s4 q (s3 q (s2 q (s1 q)))
def sinr (r : Int) : Int := clamp (mul r (series (sq r)))
def sin (a : Int) : Int := sinr (fold a)
def cos (a : Int) : Int := sin (add a 6746518852)
theorem clamp_bd (x : Int) : -4294967296 ≤ clamp x ∧ clamp x ≤ 4294967296 := by
  unfold clamp
  split
  · omega
  · split <;> omega
theorem sin_bd (a : Int) : -4294967296 ≤ sin a ∧ sin a ≤ 4294967296 := clamp_bd _
theorem sin_is (a : Int) : isI (sin a) := by
  have := sin_bd a
  unfold isI
  omega
/-- q times a part of one is from 0 to q. -/
theorem mul_part {q s : Int} (hq0 : 0 ≤ q) (hq : q ≤ 10597417040) (hs0 : 0 ≤ s) (hs : s ≤ 4294967296) : 0 ≤ mul q s ∧ mul q s ≤ q := by
  have h0 : 0 ≤ q * s := Int.mul_nonneg hq0 hs0
  have h1 : q * s ≤ q * 4294967296 := Int.mul_le_mul_of_nonneg_left hs hq0
  unfold mul
  rw [bring_in (by unfold isI; omega)]
  omega
theorem sq_bd {r : Int} (h1 : -6746518852 ≤ r) (h2 : r ≤ 6746518852) : 0 ≤ sq r ∧ sq r ≤ 10597417040 := by
  have e : r * r = ((r.natAbs * r.natAbs : Nat) : Int) := (Int.natAbs_mul_self (a := r)).symm
  have h : r.natAbs * r.natAbs ≤ 6746518852 * 6746518852 := Nat.mul_le_mul (by omega) (by omega)
  unfold sq mul
  rw [e, bring_in (by unfold isI; omega)]
  omega
theorem s1_bd {q : Int} (h0 : 0 ≤ q) (h : q ≤ 10597417040) : 0 ≤ s1 q ∧ s1 q ≤ 4294967296 := by
  unfold s1
  omega
theorem s2_bd {q s : Int} (h0 : 0 ≤ q) (h : q ≤ 10597417040) (hs : 0 ≤ s ∧ s ≤ 4294967296) : 0 ≤ s2 q s ∧ s2 q s ≤ 4294967296 := by
  have := mul_part h0 h hs.1 hs.2
  unfold s2
  omega
theorem s3_bd {q s : Int} (h0 : 0 ≤ q) (h : q ≤ 10597417040) (hs : 0 ≤ s ∧ s ≤ 4294967296) : 0 ≤ s3 q s ∧ s3 q s ≤ 4294967296 := by
  have := mul_part h0 h hs.1 hs.2
  unfold s3
  omega
theorem s4_bd {q s : Int} (h0 : 0 ≤ q) (h : q ≤ 10597417040) (hs : 0 ≤ s ∧ s ≤ 4294967296) : 0 ≤ s4 q s ∧ s4 q s ≤ 4294967296 := by
  have := mul_part h0 h hs.1 hs.2
  unfold s4
  omega
end Go.Proofs.Ytddagmcmajjnfaa.Fx
