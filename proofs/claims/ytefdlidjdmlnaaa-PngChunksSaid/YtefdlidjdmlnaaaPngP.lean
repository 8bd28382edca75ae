/-
  Plain Adam7 order: seven passes, each pixel once; the first ones are those of a coarser picture. No condition but those that are said.
-/
namespace Go.Proofs.Ytefdlidjdmlnaaa.Fx
/-- The places from s on, by steps of a, below n. -/
def lane (n s a : Nat) : List Nat := (List.range ((n + a - 1 - s) / a)).map fun i => s + a * i
def laneLen (n s a : Nat) : Nat := (n + a - 1 - s) / a
theorem lane_length (n s a : Nat) : (lane n s a).length = laneLen n s a := by simp [lane, laneLen]
theorem mem_lane {n s a x : Nat} (hs : s < a) : x ∈ lane n s a ↔ x < n ∧ x % a = s := by
  have ha : 0 < a := by omega
  unfold lane
  simp only [List.mem_map, List.mem_range]
  constructor
  · rintro ⟨i, hi, rfl⟩
    have h1 : (i + 1) * a ≤ n + a - 1 - s := (Nat.le_div_iff_mul_le ha).1 hi
    have h2 : (i + 1) * a = a * i + a := by rw [Nat.add_mul, Nat.mul_comm, Nat.one_mul]
    refine ⟨by omega, ?_⟩
    rw [Nat.add_mul_mod_self_left, Nat.mod_eq_of_lt hs]
  · rintro ⟨hx, hm⟩
    have h1 := Nat.div_add_mod x a
    refine ⟨x / a, ?_, by omega⟩
    have h2 : (x / a + 1) * a ≤ n + a - 1 - s := by
      rw [Nat.add_mul, Nat.one_mul, Nat.mul_comm]
      omega
    exact (Nat.le_div_iff_mul_le ha).2 h2
theorem lane_apart (n s a : Nat) (ha : 0 < a) : (lane n s a).Pairwise (· ≠ ·) := by
  unfold lane
  rw [List.pairwise_map]
  refine List.Pairwise.imp (R := (· < ·)) ?_ List.pairwise_lt_range
  intro x y hxy h
  have h2 : a * x = a * y := by omega
  have := Nat.eq_of_mul_eq_mul_left ha h2
  omega
/-- A pass: the first column and row, the steps. -/
structure Pass where
  x : Nat
  y : Nat
  a : Nat
  b : Nat
deriving DecidableEq
def passes : List Pass := [⟨0, 0, 8, 8⟩, ⟨4, 0, 8, 8⟩, ⟨0, 4, 4, 8⟩, ⟨2, 0, 4, 4⟩, ⟨0, 2, 2, 4⟩, ⟨1, 0, 2, 2⟩, ⟨0, 1, 1, 2⟩]
def passPixels (w h : Nat) (p : Pass) : List Nat := (lane h p.y p.b).flatMap fun y => (lane w p.x p.a).map fun x => y * w + x
def orderOf (w h : Nat) : List Nat := passes.flatMap (passPixels w h)
theorem passes_ok : ∀ p ∈ passes, p.x < p.a ∧ p.y < p.b := by
  intro p hp
  simp only [passes, List.mem_cons, List.not_mem_nil, or_false] at hp
  rcases hp with rfl | rfl | rfl | rfl | rfl | rfl | rfl <;> decide
theorem pass_length (w h : Nat) (p : Pass) : (passPixels w h p).length = laneLen h p.y p.b * laneLen w p.x p.a := by
  unfold passPixels
  rw [List.length_flatMap]
  simp only [List.length_map, lane_length]
  have : ∀ (l : List Nat) (c : Nat), (l.map fun _ => c).sum = l.length * c := by
    intro l c
    induction l with
    | nil => simp
    | cons x l ih => rw [List.map_cons, List.sum_cons, ih, List.length_cons, Nat.add_mul, Nat.one_mul, Nat.add_comm]
  rw [this, lane_length]
theorem mem_pass {w h k : Nat} {p : Pass} (hp : p.x < p.a ∧ p.y < p.b) (hk : k ∈ passPixels w h p) : ∃ x y, x < w ∧ y < h ∧ k = y * w + x ∧ x % p.a = p.x ∧ y % p.b = p.y := by
  unfold passPixels at hk
  obtain ⟨y, hy, hk⟩ := List.mem_flatMap.1 hk
  obtain ⟨x, hx, rfl⟩ := List.mem_map.1 hk
  have h1 := (mem_lane hp.2).1 hy
  have h2 := (mem_lane hp.1).1 hx
  exact ⟨x, y, h2.1, h1.1, rfl, h2.2, h1.2⟩
theorem place_col {w x y : Nat} (hx : x < w) : (y * w + x) % w = x := by
  rw [Nat.add_comm, Nat.add_mul_mod_self_right, Nat.mod_eq_of_lt hx]
theorem place_row {w x y : Nat} (hx : x < w) : (y * w + x) / w = y := by
  rw [Nat.add_comm, Nat.add_mul_div_right _ _ (by omega), Nat.div_eq_of_lt hx, Nat.zero_add]
theorem place_one {w x y x' y' : Nat} (hx : x < w) (hx' : x' < w) (h : y * w + x = y' * w + x') : x = x' ∧ y = y' := by
  have h1 := place_col (y := y) hx
  have h2 := place_row (y := y) hx
  rw [h, place_col hx'] at h1
  rw [h, place_row hx'] at h2
  exact ⟨h1.symm, h2.symm⟩
theorem place_below {w h x y : Nat} (hx : x < w) (hy : y < h) : y * w + x < w * h := by
  have h1 : (y + 1) * w ≤ h * w := Nat.mul_le_mul_right w hy
  rw [Nat.add_mul, Nat.one_mul, Nat.mul_comm h w] at h1
  omega
theorem order_mem {w h k : Nat} (hk : k ∈ orderOf w h) : ∃ x y, x < w ∧ y < h ∧ k = y * w + x := by
  obtain ⟨p, hp, hk⟩ := List.mem_flatMap.1 hk
  obtain ⟨x, y, h1, h2, h3, _⟩ := mem_pass (passes_ok p hp) hk
  exact ⟨x, y, h1, h2, h3⟩
theorem order_below {w h k : Nat} (hk : k ∈ orderOf w h) : k < w * h := by
  obtain ⟨x, y, h1, h2, rfl⟩ := order_mem hk
  exact place_below h1 h2
theorem pass_apart {w h : Nat} {p : Pass} (hp : p.x < p.a ∧ p.y < p.b) : (passPixels w h p).Pairwise (· ≠ ·) := by
  unfold passPixels
  rw [List.pairwise_flatMap]
  refine ⟨fun y hy => ?_, ?_⟩
  · rw [List.pairwise_map]
    exact (lane_apart w p.x p.a (by omega)).imp (fun h e => h (by omega))
  · refine (List.Pairwise.and_mem.1 (lane_apart h p.y p.b (by omega))).imp ?_
    rintro y y' ⟨_, _, hne⟩ k hk k' hk' e
    obtain ⟨x, hx, rfl⟩ := List.mem_map.1 hk
    obtain ⟨x', hx', rfl⟩ := List.mem_map.1 hk'
    have h1 := (mem_lane hp.1).1 hx
    have h2 := (mem_lane hp.1).1 hx'
    exact hne (place_one h1.1 h2.1 e).2
/-- No pixel is of two passes. -/
theorem passes_apart : passes.Pairwise (fun p q => ∀ x y, ¬ (x % p.a = p.x ∧ y % p.b = p.y ∧ x % q.a = q.x ∧ y % q.b = q.y)) := by
  simp only [passes, List.pairwise_cons, List.mem_cons, List.not_mem_nil, or_false, forall_eq_or_imp, forall_eq, List.Pairwise.nil, and_true, false_implies, implies_true]
  refine ⟨⟨?_, ?_, ?_, ?_, ?_, ?_⟩, ⟨?_, ?_, ?_, ?_, ?_⟩, ⟨?_, ?_, ?_, ?_⟩, ⟨?_, ?_, ?_⟩, ⟨?_, ?_⟩, ?_⟩ <;> (intro x y; omega)
theorem order_apart (w h : Nat) : (orderOf w h).Pairwise (· ≠ ·) := by
  unfold orderOf
  rw [List.pairwise_flatMap]
  refine ⟨fun p hp => pass_apart (passes_ok p hp), ?_⟩
  refine (List.Pairwise.and_mem.1 passes_apart).imp ?_
  rintro p q ⟨hp, hq, hn⟩ k hk k' hk' rfl
  obtain ⟨x, y, h1, h2, rfl, h3, h4⟩ := mem_pass (passes_ok p hp) hk
  obtain ⟨x', y', h5, h6, e, h7, h8⟩ := mem_pass (passes_ok q hq) hk'
  obtain ⟨rfl, rfl⟩ := place_one h1 h5 e
  exact hn x y ⟨h3, h4, h7, h8⟩
/-- How many pixels the first passes have: those of a coarser picture. -/
theorem first_lengths (w h : Nat) : ((passes.take 1).flatMap (passPixels w h)).length = laneLen w 0 8 * laneLen h 0 8 ∧ ((passes.take 3).flatMap (passPixels w h)).length = laneLen w 0 4 * laneLen h 0 4 ∧ ((passes.take 5).flatMap (passPixels w h)).length = laneLen w 0 2 * laneLen h 0 2 ∧ (orderOf w h).length = w * h := by
  have w84 : laneLen w 0 8 + laneLen w 4 8 = laneLen w 0 4 := by unfold laneLen; omega
  have w42 : laneLen w 0 4 + laneLen w 2 4 = laneLen w 0 2 := by unfold laneLen; omega
  have w21 : laneLen w 0 2 + laneLen w 1 2 = w := by unfold laneLen; omega
  have w11 : laneLen w 0 1 = w := by unfold laneLen; omega
  have h84 : laneLen h 0 8 + laneLen h 4 8 = laneLen h 0 4 := by unfold laneLen; omega
  have h42 : laneLen h 0 4 + laneLen h 2 4 = laneLen h 0 2 := by unfold laneLen; omega
  have h21 : laneLen h 0 2 + laneLen h 1 2 = h := by unfold laneLen; omega
  have e1 : ((passes.take 1).flatMap (passPixels w h)).length = laneLen h 0 8 * laneLen w 0 8 := by
    simp only [passes, List.take_succ_cons, List.take_zero, List.flatMap_cons, List.flatMap_nil, List.append_nil, pass_length]
  have e3 : ((passes.take 3).flatMap (passPixels w h)).length = laneLen h 0 8 * laneLen w 0 8 + (laneLen h 0 8 * laneLen w 4 8 + laneLen h 4 8 * laneLen w 0 4) := by
    simp only [passes, List.take_succ_cons, List.take_zero, List.flatMap_cons, List.flatMap_nil, List.append_nil, List.length_append, pass_length]
  have e5 : ((passes.take 5).flatMap (passPixels w h)).length = laneLen h 0 8 * laneLen w 0 8 + (laneLen h 0 8 * laneLen w 4 8 + (laneLen h 4 8 * laneLen w 0 4 + (laneLen h 0 4 * laneLen w 2 4 + laneLen h 2 4 * laneLen w 0 2))) := by
    simp only [passes, List.take_succ_cons, List.take_zero, List.flatMap_cons, List.flatMap_nil, List.append_nil, List.length_append, pass_length]
  have e7 : (orderOf w h).length = laneLen h 0 8 * laneLen w 0 8 + (laneLen h 0 8 * laneLen w 4 8 + (laneLen h 4 8 * laneLen w 0 4 + (laneLen h 0 4 * laneLen w 2 4 + (laneLen h 2 4 * laneLen w 0 2 + (laneLen h 0 2 * laneLen w 1 2 + laneLen h 1 2 * laneLen w 0 1))))) := by
    simp only [orderOf, passes, List.flatMap_cons, List.flatMap_nil, List.append_nil, List.length_append, pass_length]
  rw [e1, e3, e5, e7, w11]
  generalize laneLen w 0 8 = a at *
  generalize laneLen w 4 8 = b at *
  generalize laneLen w 0 4 = c at *
  generalize laneLen w 2 4 = d at *
  generalize laneLen w 0 2 = e at *
  generalize laneLen w 1 2 = f at *
  generalize laneLen h 0 8 = a' at *
  generalize laneLen h 4 8 = b' at *
  generalize laneLen h 0 4 = c' at *
  generalize laneLen h 2 4 = d' at *
  generalize laneLen h 0 2 = e' at *
  generalize laneLen h 1 2 = f' at *
  subst w84 h84
  subst w42 h42
  subst w21 h21
  refine ⟨Nat.mul_comm _ _, ?_, ?_, ?_⟩ <;> grind
theorem order_length (w h : Nat) : (orderOf w h).length = w * h := (first_lengths w h).2.2.2
theorem order_first (w h n : Nat) : ∃ r, orderOf w h = (passes.take n).flatMap (passPixels w h) ++ r := by
  refine ⟨(passes.drop n).flatMap (passPixels w h), ?_⟩
  unfold orderOf
  rw [← List.flatMap_append, List.take_append_drop]
theorem first_even {w h n i k s : Nat} (hn : ∀ p ∈ passes.take n, p.a % s = 0 ∧ p.b % s = 0 ∧ p.x % s = 0 ∧ p.y % s = 0) (hi : i < ((passes.take n).flatMap (passPixels w h)).length) (hk : (orderOf w h)[i]? = some k) : k % w % s = 0 ∧ k / w % s = 0 := by
  obtain ⟨r, hr⟩ := order_first w h n
  rw [hr, List.getElem?_append_left hi] at hk
  obtain ⟨p, hp, hk⟩ := List.mem_flatMap.1 (List.mem_of_getElem? hk)
  obtain ⟨x, y, h1, h2, rfl, h3, h4⟩ := mem_pass (passes_ok p (List.mem_of_mem_take hp)) hk
  obtain ⟨q1, q2, q3, q4⟩ := hn p hp
  rw [place_col h1, place_row h1]
  refine ⟨?_, ?_⟩
  · rw [← Nat.mod_mod_of_dvd x (Nat.dvd_of_mod_eq_zero q1), h3]
    exact q3
  · rw [← Nat.mod_mod_of_dvd y (Nat.dvd_of_mod_eq_zero q2), h4]
    exact q4
/-- The first ones are those of a coarser picture. -/
theorem order_coarse (w h s i k : Nat) (hs : s = 8 ∨ s = 4 ∨ s = 2 ∨ s = 1) (hi : i < (w + s - 1) / s * ((h + s - 1) / s)) (hk : (orderOf w h)[i]? = some k) : k % w % s = 0 ∧ k / w % s = 0 := by
  obtain ⟨f1, f3, f5, f7⟩ := first_lengths w h
  rcases hs with rfl | rfl | rfl | rfl
  · exact first_even (n := 1) (by decide) (by rw [f1]; exact hi) hk
  · exact first_even (n := 3) (by decide) (by rw [f3]; exact hi) hk
  · exact first_even (n := 5) (by decide) (by rw [f5]; exact hi) hk
  · exact ⟨Nat.mod_one _, Nat.mod_one _⟩
end Go.Proofs.Ytefdlidjdmlnaaa.Fx
