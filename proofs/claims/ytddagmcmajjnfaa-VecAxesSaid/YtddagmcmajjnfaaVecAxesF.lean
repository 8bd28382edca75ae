/-
  Axes: multiples, lengths, units, and what bends at one. Plain facts on numbers; the conditions stand in each.
-/
import Derived.Test.YtddagmcmajjnfaaVecWholeF
namespace Go.Proofs.Ytddagmcmajjnfaa.Fx
open Go Go.RowKit
set_option linter.unusedVariables false
/-- The six axes. -/
def Axis (nx ny nz : Int) : Prop := ∃ s : Int, (s = 4294967296 ∨ s = -4294967296) ∧ ((nx = s ∧ ny = 0 ∧ nz = 0) ∨ (nx = 0 ∧ ny = s ∧ nz = 0) ∨ (nx = 0 ∧ ny = 0 ∧ nz = s))
theorem mul_zero' (p : Int) : mul p 0 = 0 := mul_none p
theorem zero_mul' (p : Int) : mul 0 p = 0 := by
  rw [← mul_turn]
  exact mul_none p
theorem mul_up {p : Int} (hp : isI p) : mul 4294967296 p = p := by
  rw [← mul_turn]
  exact mul_one hp
theorem mul_down {p : Int} (h : -1000000000000000000 ≤ p) (k : p ≤ 1000000000000000000) : mul (-4294967296) p = -p := by
  unfold mul
  rw [show -4294967296 * p = -p * 4294967296 by omega, Int.mul_ediv_cancel _ (by decide), bring_in ⟨by omega, by omega⟩]
theorem mul_down' {p : Int} (h : -1000000000000000000 ≤ p) (k : p ≤ 1000000000000000000) : mul p (-4294967296) = -p := by
  rw [← mul_turn]
  exact mul_down h k
theorem add_in {p q : Int} (h : -9223372036854775808 ≤ p + q) (k : p + q ≤ 9223372036854775807) : add p q = p + q := bring_in ⟨h, k⟩
theorem sub_in {p q : Int} (h : -9223372036854775808 ≤ p - q) (k : p - q ≤ 9223372036854775807) : sub p q = p - q := bring_in ⟨h, k⟩
theorem add_none {p : Int} (h : isI p) : add p 0 = p := by
  unfold add
  rw [Int.add_zero, bring_in h]
theorem none_add {p : Int} (h : isI p) : add 0 p = p := by
  unfold add
  rw [Int.zero_add, bring_in h]
theorem dot_x (p q r s : Int) : dot p q r s 0 0 = mul p s := by
  unfold dot
  rw [mul_none, mul_none, add_none (p := mul p s) (mul_is _ _), add_none (p := mul p s) (mul_is _ _)]
theorem dot_y (p q r s : Int) : dot p q r 0 s 0 = mul q s := by
  unfold dot
  rw [mul_none, mul_none, none_add (p := mul q s) (mul_is _ _), add_none (p := mul q s) (mul_is _ _)]
theorem dot_z (p q r s : Int) : dot p q r 0 0 s = mul r s := by
  unfold dot
  rw [mul_none, mul_none, add_none (p := 0) isI_0, none_add (p := mul r s) (mul_is _ _)]
/-- What bends at an axis. -/
theorem bend_axis {nx ny nz dx dy dz : Int} (hn : Axis nx ny nz) (hx : -1099511627776 < dx) (kx : dx < 1099511627776) (hy : -1099511627776 < dy) (ky : dy < 1099511627776) (hz : -1099511627776 < dz) (kz : dz < 1099511627776) :
    ∃ al ex ey ez : Int, -1099511627776 < al ∧ al < 1099511627776 ∧ -1099511627776 < ex ∧ ex < 1099511627776 ∧ -1099511627776 < ey ∧ ey < 1099511627776 ∧ -1099511627776 < ez ∧ ez < 1099511627776
      ∧ dot dx dy dz nx ny nz = al ∧ sub dx (mul nx (add al al)) = ex ∧ sub dy (mul ny (add al al)) = ey ∧ sub dz (mul nz (add al al)) = ez
      ∧ dot ex ey ez nx ny nz = -al ∧ sub ex (mul nx (add (-al) (-al))) = dx ∧ sub ey (mul ny (add (-al) (-al))) = dy ∧ sub ez (mul nz (add (-al) (-al))) = dz := by
  have ix : isI dx := ⟨by omega, by omega⟩
  have iy : isI dy := ⟨by omega, by omega⟩
  have iz : isI dz := ⟨by omega, by omega⟩
  obtain ⟨s, hs, h | h | h⟩ := hn
  · obtain ⟨rfl, rfl, rfl⟩ := h
    rcases hs with rfl | rfl
    · refine ⟨dx, -dx, dy, dz, by omega, by omega, by omega, by omega, by omega, by omega, by omega, by omega, ?_, ?_, ?_, ?_, ?_, ?_, ?_, ?_⟩
      · rw [dot_x, mul_one ⟨by omega, by omega⟩]; try omega
      · rw [add_in (by omega) (by omega), mul_up ⟨by omega, by omega⟩, sub_in (by omega) (by omega)]; try omega
      · rw [zero_mul', sub_in (by omega) (by omega)]; try omega
      · rw [zero_mul', sub_in (by omega) (by omega)]; try omega
      · rw [dot_x, mul_one ⟨by omega, by omega⟩]; try omega
      · rw [add_in (by omega) (by omega), mul_up ⟨by omega, by omega⟩, sub_in (by omega) (by omega)]; try omega
      · rw [zero_mul', sub_in (by omega) (by omega)]; try omega
      · rw [zero_mul', sub_in (by omega) (by omega)]; try omega
    · refine ⟨-dx, -dx, dy, dz, by omega, by omega, by omega, by omega, by omega, by omega, by omega, by omega, ?_, ?_, ?_, ?_, ?_, ?_, ?_, ?_⟩
      · rw [dot_x, mul_down' (by omega) (by omega)]; try omega
      · rw [add_in (by omega) (by omega), mul_down (by omega) (by omega), sub_in (by omega) (by omega)]; try omega
      · rw [zero_mul', sub_in (by omega) (by omega)]; try omega
      · rw [zero_mul', sub_in (by omega) (by omega)]; try omega
      · rw [dot_x, mul_down' (by omega) (by omega)]; try omega
      · rw [add_in (by omega) (by omega), mul_down (by omega) (by omega), sub_in (by omega) (by omega)]; try omega
      · rw [zero_mul', sub_in (by omega) (by omega)]; try omega
      · rw [zero_mul', sub_in (by omega) (by omega)]; try omega
  · obtain ⟨rfl, rfl, rfl⟩ := h
    rcases hs with rfl | rfl
    · refine ⟨dy, dx, -dy, dz, by omega, by omega, by omega, by omega, by omega, by omega, by omega, by omega, ?_, ?_, ?_, ?_, ?_, ?_, ?_, ?_⟩
      · rw [dot_y, mul_one ⟨by omega, by omega⟩]; try omega
      · rw [zero_mul', sub_in (by omega) (by omega)]; try omega
      · rw [add_in (by omega) (by omega), mul_up ⟨by omega, by omega⟩, sub_in (by omega) (by omega)]; try omega
      · rw [zero_mul', sub_in (by omega) (by omega)]; try omega
      · rw [dot_y, mul_one ⟨by omega, by omega⟩]; try omega
      · rw [zero_mul', sub_in (by omega) (by omega)]; try omega
      · rw [add_in (by omega) (by omega), mul_up ⟨by omega, by omega⟩, sub_in (by omega) (by omega)]; try omega
      · rw [zero_mul', sub_in (by omega) (by omega)]; try omega
    · refine ⟨-dy, dx, -dy, dz, by omega, by omega, by omega, by omega, by omega, by omega, by omega, by omega, ?_, ?_, ?_, ?_, ?_, ?_, ?_, ?_⟩
      · rw [dot_y, mul_down' (by omega) (by omega)]; try omega
      · rw [zero_mul', sub_in (by omega) (by omega)]; try omega
      · rw [add_in (by omega) (by omega), mul_down (by omega) (by omega), sub_in (by omega) (by omega)]; try omega
      · rw [zero_mul', sub_in (by omega) (by omega)]; try omega
      · rw [dot_y, mul_down' (by omega) (by omega)]; try omega
      · rw [zero_mul', sub_in (by omega) (by omega)]; try omega
      · rw [add_in (by omega) (by omega), mul_down (by omega) (by omega), sub_in (by omega) (by omega)]; try omega
      · rw [zero_mul', sub_in (by omega) (by omega)]; try omega
  · obtain ⟨rfl, rfl, rfl⟩ := h
    rcases hs with rfl | rfl
    · refine ⟨dz, dx, dy, -dz, by omega, by omega, by omega, by omega, by omega, by omega, by omega, by omega, ?_, ?_, ?_, ?_, ?_, ?_, ?_, ?_⟩
      · rw [dot_z, mul_one ⟨by omega, by omega⟩]; try omega
      · rw [zero_mul', sub_in (by omega) (by omega)]; try omega
      · rw [zero_mul', sub_in (by omega) (by omega)]; try omega
      · rw [add_in (by omega) (by omega), mul_up ⟨by omega, by omega⟩, sub_in (by omega) (by omega)]; try omega
      · rw [dot_z, mul_one ⟨by omega, by omega⟩]; try omega
      · rw [zero_mul', sub_in (by omega) (by omega)]; try omega
      · rw [zero_mul', sub_in (by omega) (by omega)]; try omega
      · rw [add_in (by omega) (by omega), mul_up ⟨by omega, by omega⟩, sub_in (by omega) (by omega)]; try omega
    · refine ⟨-dz, dx, dy, -dz, by omega, by omega, by omega, by omega, by omega, by omega, by omega, by omega, ?_, ?_, ?_, ?_, ?_, ?_, ?_, ?_⟩
      · rw [dot_z, mul_down' (by omega) (by omega)]; try omega
      · rw [zero_mul', sub_in (by omega) (by omega)]; try omega
      · rw [zero_mul', sub_in (by omega) (by omega)]; try omega
      · rw [add_in (by omega) (by omega), mul_down (by omega) (by omega), sub_in (by omega) (by omega)]; try omega
      · rw [dot_z, mul_down' (by omega) (by omega)]; try omega
      · rw [zero_mul', sub_in (by omega) (by omega)]; try omega
      · rw [zero_mul', sub_in (by omega) (by omega)]; try omega
      · rw [add_in (by omega) (by omega), mul_down (by omega) (by omega), sub_in (by omega) (by omega)]; try omega
theorem sq_size (X : Int) : X * X = ((X.natAbs * X.natAbs : Nat) : Int) := by
  rw [← Int.natAbs_mul_self]
/-- The length along an axis: no more than the size, and less by no more than 2^16. -/
theorem sq_len {X : Int} (h : -1099511627776 < X) (k : X < 1099511627776) : mul X X = ((X.natAbs * X.natAbs / 4294967296 : Nat) : Int) ∧ mul (-X) (-X) = ((X.natAbs * X.natAbs / 4294967296 : Nat) : Int) := by
  have hb : X.natAbs * X.natAbs ≤ 1099511627776 * 1099511627776 := Nat.mul_le_mul (by omega) (by omega)
  have e : -X * -X = X * X := Int.neg_mul_neg X X
  constructor
  · unfold mul
    rw [sq_size]
    exact bring_in ⟨by omega, by omega⟩
  · unfold mul
    rw [e, sq_size]
    exact bring_in ⟨by omega, by omega⟩
def lenN (n : Nat) : Int := sqrt ((n * n / 4294967296 : Nat) : Int)
theorem lenN_bd (n : Nat) : 0 ≤ lenN n ∧ lenN n ≤ n ∧ (n : Int) - 65536 ≤ lenN n := by
  unfold lenN sqrt
  by_cases h : ((n * n / 4294967296 : Nat) : Int) < 1
  · rw [if_pos h]
    have h1 : n * n < 4294967296 := by omega
    have h2 : n < 65536 := by
      apply Nat.lt_of_not_le
      intro hh
      have := Nat.mul_le_mul hh hh
      omega
    omega
  · rw [if_neg h, Int.toNat_natCast]
    have a := root_le (n * n / 4294967296 * 4294967296)
    have hle : n * n / 4294967296 * 4294967296 ≤ n * n := Nat.div_mul_le_self _ _
    have hlt : n * n < n * n / 4294967296 * 4294967296 + 4294967296 := by omega
    have up : root (n * n / 4294967296 * 4294967296) ≤ n := by
      apply Nat.le_of_not_lt
      intro hh
      have := Nat.mul_self_lt_mul_self hh
      omega
    have low : n - 65536 ≤ root (n * n / 4294967296 * 4294967296) := by
      by_cases hn : n < 65536
      · omega
      · refine root_most _ _ ?_
        obtain ⟨j, rfl⟩ : ∃ j, n = j + 65536 := ⟨n - 65536, by omega⟩
        have e : (j + 65536) * (j + 65536) = j * j + 131072 * j + 4294967296 := by grind
        rw [Nat.add_sub_cancel]
        omega
    omega
theorem lenN_whole (m : Nat) (hm : 0 < m) : lenN (m * 4294967296) = ((m * 4294967296 : Nat) : Int) := by
  unfold lenN
  have e : m * 4294967296 * (m * 4294967296) / 4294967296 = m * m * 4294967296 := by
    rw [show m * 4294967296 * (m * 4294967296) = m * m * 4294967296 * 4294967296 by grind, Nat.mul_div_cancel _ (by decide)]
  rw [e]
  have hp := Nat.mul_pos hm hm
  exact sqrt_num _ _ (by omega) (by grind) (by
    have : (m * 4294967296 + 1) * (m * 4294967296 + 1) = m * m * 4294967296 * 4294967296 + 2 * (m * 4294967296) + 1 := by grind
    omega)
theorem div_same {L : Int} (h : 0 < L) : div L L = 4294967296 ∧ div (-L) L = -4294967296 ∧ div 0 L = 0 := by
  unfold div
  refine ⟨?_, ?_, ?_⟩
  · rw [if_neg (by omega), Int.fdiv_eq_ediv_of_nonneg _ (by omega), Int.mul_ediv_cancel_left _ (by omega)]
    rfl
  · rw [if_neg (by omega), Int.fdiv_eq_ediv_of_nonneg _ (by omega), show -L * 4294967296 = L * -4294967296 by omega, Int.mul_ediv_cancel_left _ (by omega)]
    rfl
  · rw [if_neg (by omega), Int.zero_mul, Int.zero_fdiv]
    rfl
/-- An axis' multiple, its length and its unit. -/
theorem axis_len {nx ny nz X : Int} (hn : Axis nx ny nz) (h : -1099511627776 < X) (k : X < 1099511627776) :
    ∃ px py pz L : Int, isI px ∧ isI py ∧ isI pz ∧ mul nx X = px ∧ mul ny X = py ∧ mul nz X = pz ∧ len px py pz = L ∧ 0 ≤ L ∧ L ≤ X.natAbs ∧ (X.natAbs : Int) - 65536 ≤ L
      ∧ (X ≠ 0 → Int.tmod X 4294967296 = 0 → L = X.natAbs ∧ (0 < X → unit1 L px = nx ∧ unit1 L py = ny ∧ unit1 L pz = nz) ∧ (X < 0 → unit1 L px = neg nx ∧ unit1 L py = neg ny ∧ unit1 L pz = neg nz)) := by
  have iX : isI X := ⟨by omega, by omega⟩
  have hs := sq_len h k
  have hb := lenN_bd X.natAbs
  have e0 : neg 0 = 0 := by decide
  have e1 : neg 4294967296 = -4294967296 := by decide
  have e2 : neg (-4294967296) = 4294967296 := by decide
  have hw : X ≠ 0 → Int.tmod X 4294967296 = 0 → lenN X.natAbs = X.natAbs := by
    intro h0 ht
    have hd : (4294967296 : Int) ∣ X := Int.dvd_of_tmod_eq_zero ht
    obtain ⟨m, rfl⟩ := hd
    rw [show (4294967296 * m).natAbs = m.natAbs * 4294967296 by rw [Int.natAbs_mul, Nat.mul_comm]; rfl]
    exact lenN_whole _ (by omega)
  have hu : ∀ L : Int, L = X.natAbs → X ≠ 0 → (0 < X → unit1 L X = 4294967296 ∧ unit1 L (-X) = -4294967296 ∧ unit1 L 0 = 0) ∧ (X < 0 → unit1 L X = -4294967296 ∧ unit1 L (-X) = 4294967296 ∧ unit1 L 0 = 0) := by
    intro L hL h0
    have hd := div_same (L := L) (by omega)
    unfold unit1
    rw [if_neg (by omega), if_neg (by omega), if_neg (by omega)]
    refine ⟨fun hx => ?_, fun hx => ?_⟩
    · obtain rfl : L = X := by omega
      exact hd
    · obtain rfl : X = -L := by omega
      rw [Int.neg_neg]
      exact ⟨hd.2.1, hd.1, hd.2.2⟩
  obtain ⟨s, hs', hh⟩ := hn
  have key : ∀ p, (p = X ∨ p = -X) → mul p p = ((X.natAbs * X.natAbs / 4294967296 : Nat) : Int) := by
    rintro p (rfl | rfl)
    · exact hs.1
    · exact hs.2
  rcases hh with ⟨rfl, rfl, rfl⟩ | ⟨rfl, rfl, rfl⟩ | ⟨rfl, rfl, rfl⟩
  · rcases hs' with rfl | rfl
    · refine ⟨X, 0, 0, lenN X.natAbs, iX, isI_0, isI_0, mul_up iX, zero_mul' _, zero_mul' _, ?_, hb.1, hb.2.1, hb.2.2, fun h0 ht => ?_⟩
      · unfold len; rw [dot_x, key X (.inl rfl)]; rfl
      · have q := hu _ (hw h0 ht) h0
        exact ⟨hw h0 ht, fun hx => ⟨(q.1 hx).1, (q.1 hx).2.2, (q.1 hx).2.2⟩, fun hx => ⟨(q.2 hx).1.trans e1.symm, (q.2 hx).2.2.trans e0.symm, (q.2 hx).2.2.trans e0.symm⟩⟩
    · refine ⟨-X, 0, 0, lenN X.natAbs, ⟨by omega, by omega⟩, isI_0, isI_0, mul_down (by omega) (by omega), zero_mul' _, zero_mul' _, ?_, hb.1, hb.2.1, hb.2.2, fun h0 ht => ?_⟩
      · unfold len; rw [dot_x, key (-X) (.inr rfl)]; rfl
      · have q := hu _ (hw h0 ht) h0
        exact ⟨hw h0 ht, fun hx => ⟨(q.1 hx).2.1, (q.1 hx).2.2, (q.1 hx).2.2⟩, fun hx => ⟨(q.2 hx).2.1.trans e2.symm, (q.2 hx).2.2.trans e0.symm, (q.2 hx).2.2.trans e0.symm⟩⟩
  · rcases hs' with rfl | rfl
    · refine ⟨0, X, 0, lenN X.natAbs, isI_0, iX, isI_0, zero_mul' _, mul_up iX, zero_mul' _, ?_, hb.1, hb.2.1, hb.2.2, fun h0 ht => ?_⟩
      · unfold len; rw [dot_y, key X (.inl rfl)]; rfl
      · have q := hu _ (hw h0 ht) h0
        exact ⟨hw h0 ht, fun hx => ⟨(q.1 hx).2.2, (q.1 hx).1, (q.1 hx).2.2⟩, fun hx => ⟨(q.2 hx).2.2.trans e0.symm, (q.2 hx).1.trans e1.symm, (q.2 hx).2.2.trans e0.symm⟩⟩
    · refine ⟨0, -X, 0, lenN X.natAbs, isI_0, ⟨by omega, by omega⟩, isI_0, zero_mul' _, mul_down (by omega) (by omega), zero_mul' _, ?_, hb.1, hb.2.1, hb.2.2, fun h0 ht => ?_⟩
      · unfold len; rw [dot_y, key (-X) (.inr rfl)]; rfl
      · have q := hu _ (hw h0 ht) h0
        exact ⟨hw h0 ht, fun hx => ⟨(q.1 hx).2.2, (q.1 hx).2.1, (q.1 hx).2.2⟩, fun hx => ⟨(q.2 hx).2.2.trans e0.symm, (q.2 hx).2.1.trans e2.symm, (q.2 hx).2.2.trans e0.symm⟩⟩
  · rcases hs' with rfl | rfl
    · refine ⟨0, 0, X, lenN X.natAbs, isI_0, isI_0, iX, zero_mul' _, zero_mul' _, mul_up iX, ?_, hb.1, hb.2.1, hb.2.2, fun h0 ht => ?_⟩
      · unfold len; rw [dot_z, key X (.inl rfl)]; rfl
      · have q := hu _ (hw h0 ht) h0
        exact ⟨hw h0 ht, fun hx => ⟨(q.1 hx).2.2, (q.1 hx).2.2, (q.1 hx).1⟩, fun hx => ⟨(q.2 hx).2.2.trans e0.symm, (q.2 hx).2.2.trans e0.symm, (q.2 hx).1.trans e1.symm⟩⟩
    · refine ⟨0, 0, -X, lenN X.natAbs, isI_0, isI_0, ⟨by omega, by omega⟩, zero_mul' _, zero_mul' _, mul_down (by omega) (by omega), ?_, hb.1, hb.2.1, hb.2.2, fun h0 ht => ?_⟩
      · unfold len; rw [dot_z, key (-X) (.inr rfl)]; rfl
      · have q := hu _ (hw h0 ht) h0
        exact ⟨hw h0 ht, fun hx => ⟨(q.1 hx).2.2, (q.1 hx).2.2, (q.1 hx).2.1⟩, fun hx => ⟨(q.2 hx).2.2.trans e0.symm, (q.2 hx).2.2.trans e0.symm, (q.2 hx).2.1.trans e2.symm⟩⟩
end Go.Proofs.Ytddagmcmajjnfaa.Fx
