/-
  The school method of dividing two limbs by one, in halves: plain numbers. The conditions stand in each.
-/
namespace Go.Proofs.Ytddagmcmajjnfaa.Fx
/-- At the head of a round: q is not below the half of the quotient that is looked for, r is what is left beside it. -/
def Inv (u v y1 y0 q r : Nat) : Prop := q * y1 + r = u ∧ (u * 4294967296 + v) / (y1 * 4294967296 + y0) ≤ q ∧ r < 4294967296 ∧ q ≤ 4294967297
def Pre (u v y1 y0 : Nat) : Prop := 2147483648 ≤ y1 ∧ y1 < 4294967296 ∧ y0 < 4294967296 ∧ v < 4294967296 ∧ u < y1 * 4294967296 + y0
theorem mulD (q y1 y0 : Nat) : q * (y1 * 4294967296 + y0) = q * y1 * 4294967296 + q * y0 := by rw [Nat.mul_add, Nat.mul_assoc]
theorem inv_start {u v y1 y0 : Nat} (h : Pre u v y1 y0) : Inv u v y1 y0 (u / y1) (u % y1) := by
  obtain ⟨h1, h2, h3, h4, h5⟩ := h
  refine ⟨by rw [Nat.mul_comm]; exact Nat.div_add_mod u y1, ?_, ?_, ?_⟩
  · rw [Nat.le_div_iff_mul_le (by omega)]
    have := Nat.div_mul_le_self (u * 4294967296 + v) (y1 * 4294967296 + y0)
    rw [mulD] at this
    omega
  · have := Nat.mod_lt u (show y1 > 0 by omega)
    omega
  · have : u / y1 < 4294967298 := by
      rw [Nat.div_lt_iff_lt_mul (by omega)]
      omega
    omega
theorem inv_done {u v y1 y0 q r : Nat} (h : Pre u v y1 y0) (i : Inv u v y1 y0 q r) (hq : q * y0 ≤ 4294967296 * r + v) : q = (u * 4294967296 + v) / (y1 * 4294967296 + y0) := by
  obtain ⟨h1, h2, h3, h4, h5⟩ := h
  obtain ⟨i1, i2, i3, i4⟩ := i
  apply Nat.le_antisymm _ i2
  rw [Nat.le_div_iff_mul_le (by omega), mulD]
  omega
theorem inv_less {u v y1 y0 q r : Nat} (h : Pre u v y1 y0) (i : Inv u v y1 y0 q r) (hq : 4294967296 ≤ q ∨ 4294967296 * r + v < q * y0) : (u * 4294967296 + v) / (y1 * 4294967296 + y0) < q := by
  obtain ⟨h1, h2, h3, h4, h5⟩ := h
  obtain ⟨i1, i2, i3, i4⟩ := i
  rw [Nat.div_lt_iff_lt_mul (by omega)]
  rcases hq with hq | hq
  · have := Nat.mul_le_mul_right (y1 * 4294967296 + y0) hq
    omega
  · rw [mulD]
    omega
theorem inv_round {u v y1 y0 q r : Nat} (h : Pre u v y1 y0) (i : Inv u v y1 y0 q r) (hq : 4294967296 ≤ q ∨ 4294967296 * r + v < q * y0) (hr : r + y1 < 4294967296) : Inv u v y1 y0 (q - 1) (r + y1) := by
  have hl := inv_less h i hq
  obtain ⟨h1, h2, h3, h4, h5⟩ := h
  obtain ⟨i1, i2, i3, i4⟩ := i
  obtain ⟨k, rfl⟩ : ∃ k, q = k + 1 := ⟨q - 1, by have := Nat.lt_of_le_of_lt (Nat.zero_le _) hl; omega⟩
  rw [Nat.add_mul] at i1
  refine ⟨by simp only [Nat.add_sub_cancel]; omega, by omega, by omega, by omega⟩
theorem inv_break {u v y1 y0 q r : Nat} (h : Pre u v y1 y0) (i : Inv u v y1 y0 q r) (hq : 4294967296 ≤ q ∨ 4294967296 * r + v < q * y0) (hr : 4294967296 ≤ r + y1) : q - 1 = (u * 4294967296 + v) / (y1 * 4294967296 + y0) := by
  have hl := inv_less h i hq
  obtain ⟨h1, h2, h3, h4, h5⟩ := h
  obtain ⟨i1, i2, i3, i4⟩ := i
  obtain ⟨k, rfl⟩ : ∃ k, q = k + 1 := ⟨q - 1, by have := Nat.lt_of_le_of_lt (Nat.zero_le _) hl; omega⟩
  simp only [Nat.add_sub_cancel]
  rw [Nat.add_mul] at i1
  apply Nat.le_antisymm
  · rw [Nat.le_div_iff_mul_le (by omega), mulD]
    have hk : k * y0 ≤ 4294967296 * 4294967295 := Nat.mul_le_mul (by omega) (by omega)
    omega
  · omega
theorem inv_pos {u v y1 y0 q r : Nat} (h : Pre u v y1 y0) (i : Inv u v y1 y0 q r) (hq : 4294967296 ≤ q ∨ 4294967296 * r + v < q * y0) : 1 ≤ q := by
  exact Nat.lt_of_le_of_lt (Nat.zero_le _) (inv_less h i hq)
theorem inv_fits {u v y1 y0 q : Nat} (h : Pre u v y1 y0) (hq : q < 4294967296) : q * y0 ≤ 18446744073709551615 := by
  have : q * y0 ≤ 4294967295 * 4294967295 := Nat.mul_le_mul (by omega) (by have := h.2.2.1; omega)
  omega
/-- What the step leaves: the rest, in numbers of 64 bits. -/
theorem quo_half {u v y1 y0 t : Nat} (h : Pre u v y1 y0) (ht : t = (u * 4294967296 + v) / (y1 * 4294967296 + y0)) :
    t < 4294967296 ∧ t * (y1 * 4294967296 + y0) + (u * 4294967296 + v) % (y1 * 4294967296 + y0) = u * 4294967296 + v ∧ (u * 4294967296 + v) % (y1 * 4294967296 + y0) < y1 * 4294967296 + y0 := by
  obtain ⟨h1, h2, h3, h4, h5⟩ := h
  refine ⟨?_, ?_, Nat.mod_lt _ (by omega)⟩
  · rw [ht, Nat.div_lt_iff_lt_mul (by omega)]
    omega
  · rw [ht, Nat.mul_comm]
    exact Nat.div_add_mod _ _
theorem wrap_rest {u v d t r : Nat} (h : t * d + r = u * 4294967296 + v) (hr : r < 18446744073709551616) :
    ((u * 4294967296 % 18446744073709551616 + v) % 18446744073709551616 + 18446744073709551616 - t * d % 18446744073709551616) % 18446744073709551616 = r := by
  generalize t * d = p at *
  omega
theorem quo_all {hi lo y s U L L1 L0 t1 u2 t0 r : Nat} (hU : U * 18446744073709551616 + L = (hi * 18446744073709551616 + lo) * 2 ^ s) (hL : L = L1 * 4294967296 + L0)
    (h1 : t1 * (y * 2 ^ s) + u2 = U * 4294967296 + L1) (h0 : t0 * (y * 2 ^ s) + r = u2 * 4294967296 + L0) (hr : r < y * 2 ^ s) :
    t1 * 4294967296 + t0 = (hi * 18446744073709551616 + lo) / y ∧ r / 2 ^ s = (hi * 18446744073709551616 + lo) % y := by
  have hs : 0 < 2 ^ s := Nat.two_pow_pos s
  have e : (hi * 18446744073709551616 + lo) * 2 ^ s = (t1 * 4294967296 + t0) * (y * 2 ^ s) + r := by
    rw [Nat.add_mul (t1 * 4294967296) t0, Nat.mul_right_comm t1, ← hU, hL]
    generalize t1 * (y * 2 ^ s) = a at *
    generalize t0 * (y * 2 ^ s) = b at *
    omega
  have hd : (hi * 18446744073709551616 + lo) * 2 ^ s / (y * 2 ^ s) = t1 * 4294967296 + t0 := by
    rw [e, Nat.mul_comm (t1 * 4294967296 + t0), Nat.mul_add_div (by omega), Nat.div_eq_of_lt hr, Nat.add_zero]
  have hm : (hi * 18446744073709551616 + lo) * 2 ^ s % (y * 2 ^ s) = r := by
    rw [e, Nat.mul_comm (t1 * 4294967296 + t0), Nat.mul_add_mod, Nat.mod_eq_of_lt hr]
  rw [Nat.mul_div_mul_right _ _ hs] at hd
  rw [Nat.mul_mod_mul_right] at hm
  exact ⟨hd.symm, by rw [← hm, Nat.mul_div_cancel _ hs]⟩
theorem shift_two {hi lo y s : Nat} (_hl : lo < 18446744073709551616) (_hh : hi < y) (_hy : y * 2 ^ s < 18446744073709551616) (hs : s ≤ 63) :
    (hi * 2 ^ s ||| lo / 2 ^ (64 - s)) * 18446744073709551616 + lo * 2 ^ s % 18446744073709551616 = (hi * 18446744073709551616 + lo) * 2 ^ s ∧ (hi * 2 ^ s ||| lo / 2 ^ (64 - s)) < y * 2 ^ s := by
  have hp : 0 < 2 ^ s := Nat.two_pow_pos s
  have e64 : (2 ^ (64 - s)) * 2 ^ s = 18446744073709551616 := by
    rw [← Nat.pow_add, show 64 - s + s = 64 from by omega]
  have hd : lo * 2 ^ s / 18446744073709551616 = lo / 2 ^ (64 - s) := by
    rw [← e64, Nat.mul_div_mul_right _ _ hp]
  have hb : lo / 2 ^ (64 - s) < 2 ^ s := by
    rw [Nat.div_lt_iff_lt_mul (Nat.two_pow_pos _), Nat.mul_comm, e64]
    exact _hl
  have ho : hi * 2 ^ s ||| lo / 2 ^ (64 - s) = hi * 2 ^ s + lo / 2 ^ (64 - s) := by
    rw [← Nat.shiftLeft_eq, ← Nat.shiftLeft_add_eq_or_of_lt hb]
  rw [ho]
  constructor
  · rw [Nat.add_mul (hi * 18446744073709551616), ← hd, Nat.mul_right_comm]
    generalize hi * 2 ^ s = a
    generalize lo * 2 ^ s = b
    omega
  · have h1 : (hi + 1) * 2 ^ s ≤ y * 2 ^ s := Nat.mul_le_mul_right _ (by omega)
    rw [Nat.add_mul, Nat.one_mul] at h1
    omega
end Go.Proofs.Ytddagmcmajjnfaa.Fx
