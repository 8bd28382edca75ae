/-
  What VecTurns and VecWhole lean on: plain facts on numbers and worlds. The conditions stand in each.
-/
import Derived.Test.YtddagmcmajjnfaaVecAwake
namespace Go.Proofs.Ytddagmcmajjnfaa.Fx
open Go Go.RowKit
set_option linter.unusedVariables false
theorem pp_keep {p0 p1 p2 q0 q1 q2 : Int} {g5 g6 : Nat} {w w1 w2 : World} (h : w1.cell? ⟨g5, 0, none⟩ = some (.int .i64 p0) ∧ w1.cell? ⟨g5, 1, none⟩ = some (.int .i64 p1) ∧ w1.cell? ⟨g5, 2, none⟩ = some (.int .i64 p2) ∧ w1.cell? ⟨g6, 0, none⟩ = some (.int .i64 q0) ∧ w1.cell? ⟨g6, 1, none⟩ = some (.int .i64 q1) ∧ w1.cell? ⟨g6, 2, none⟩ = some (.int .i64 q2) ∧ Below w.heap.size w w1) (hb : Below w1.heap.size w1 w2) : w2.cell? ⟨g5, 0, none⟩ = some (.int .i64 p0) ∧ w2.cell? ⟨g5, 1, none⟩ = some (.int .i64 p1) ∧ w2.cell? ⟨g5, 2, none⟩ = some (.int .i64 p2) ∧ w2.cell? ⟨g6, 0, none⟩ = some (.int .i64 q0) ∧ w2.cell? ⟨g6, 1, none⟩ = some (.int .i64 q1) ∧ w2.cell? ⟨g6, 2, none⟩ = some (.int .i64 q2) ∧ Below w.heap.size w w2 := by
  obtain ⟨c0, c1, c2, c3, c4, c5, hw⟩ := h
  exact ⟨keep_cell hb c0, keep_cell hb c1, keep_cell hb c2, keep_cell hb c3, keep_cell hb c4, keep_cell hb c5, hw.trans (hb.mono hw.size)⟩
theorem pp_drew {p0 p1 p2 q0 q1 q2 : Int} {g5 g6 : Nat} {w w1 : World} (h : w1.cell? ⟨g5, 0, none⟩ = some (.int .i64 p0) ∧ w1.cell? ⟨g5, 1, none⟩ = some (.int .i64 p1) ∧ w1.cell? ⟨g5, 2, none⟩ = some (.int .i64 p2) ∧ w1.cell? ⟨g6, 0, none⟩ = some (.int .i64 q0) ∧ w1.cell? ⟨g6, 1, none⟩ = some (.int .i64 q1) ∧ w1.cell? ⟨g6, 2, none⟩ = some (.int .i64 q2) ∧ Below w.heap.size w w1) : w1.drew.cell? ⟨g5, 0, none⟩ = some (.int .i64 p0) ∧ w1.drew.cell? ⟨g5, 1, none⟩ = some (.int .i64 p1) ∧ w1.drew.cell? ⟨g5, 2, none⟩ = some (.int .i64 p2) ∧ w1.drew.cell? ⟨g6, 0, none⟩ = some (.int .i64 q0) ∧ w1.drew.cell? ⟨g6, 1, none⟩ = some (.int .i64 q1) ∧ w1.drew.cell? ⟨g6, 2, none⟩ = some (.int .i64 q2) ∧ Below w.heap.size w w1.drew := pp_keep h (Below.refl _ _).drew
theorem pp_size {p0 p1 p2 q0 q1 q2 : Int} {g5 g6 : Nat} {w w1 : World} (h : w1.cell? ⟨g5, 0, none⟩ = some (.int .i64 p0) ∧ w1.cell? ⟨g5, 1, none⟩ = some (.int .i64 p1) ∧ w1.cell? ⟨g5, 2, none⟩ = some (.int .i64 p2) ∧ w1.cell? ⟨g6, 0, none⟩ = some (.int .i64 q0) ∧ w1.cell? ⟨g6, 1, none⟩ = some (.int .i64 q1) ∧ w1.cell? ⟨g6, 2, none⟩ = some (.int .i64 q2) ∧ Below w.heap.size w w1) : g5 < w1.heap.size ∧ g6 < w1.heap.size ∧ w.heap.size ≤ w1.heap.size := by
  obtain ⟨c0, c1, c2, c3, c4, c5, hw⟩ := h
  exact ⟨World.block_lt_of_cell? _ _ c0, World.block_lt_of_cell? _ _ c3, hw.size⟩
theorem pp_below {p0 p1 p2 q0 q1 q2 : Int} {g5 g6 : Nat} {w w1 : World} (h : w1.cell? ⟨g5, 0, none⟩ = some (.int .i64 p0) ∧ w1.cell? ⟨g5, 1, none⟩ = some (.int .i64 p1) ∧ w1.cell? ⟨g5, 2, none⟩ = some (.int .i64 p2) ∧ w1.cell? ⟨g6, 0, none⟩ = some (.int .i64 q0) ∧ w1.cell? ⟨g6, 1, none⟩ = some (.int .i64 q1) ∧ w1.cell? ⟨g6, 2, none⟩ = some (.int .i64 q2) ∧ Below w.heap.size w w1) : Below w.heap.size w w1 := by
  obtain ⟨c0, c1, c2, c3, c4, c5, hw⟩ := h
  exact hw
theorem pp_set {p0 p1 p2 q0 q1 q2 : Int} {g5 g6 : Nat} {w w1 : World} {p : Addr} {v : Value} (h : w1.cell? ⟨g5, 0, none⟩ = some (.int .i64 p0) ∧ w1.cell? ⟨g5, 1, none⟩ = some (.int .i64 p1) ∧ w1.cell? ⟨g5, 2, none⟩ = some (.int .i64 p2) ∧ w1.cell? ⟨g6, 0, none⟩ = some (.int .i64 q0) ∧ w1.cell? ⟨g6, 1, none⟩ = some (.int .i64 q1) ∧ w1.cell? ⟨g6, 2, none⟩ = some (.int .i64 q2) ∧ Below w.heap.size w w1) (h5 : g5 < p.block) (h6 : g6 < p.block) (hN : w.heap.size ≤ p.block) : (w1.setCell p v).cell? ⟨g5, 0, none⟩ = some (.int .i64 p0) ∧ (w1.setCell p v).cell? ⟨g5, 1, none⟩ = some (.int .i64 p1) ∧ (w1.setCell p v).cell? ⟨g5, 2, none⟩ = some (.int .i64 p2) ∧ (w1.setCell p v).cell? ⟨g6, 0, none⟩ = some (.int .i64 q0) ∧ (w1.setCell p v).cell? ⟨g6, 1, none⟩ = some (.int .i64 q1) ∧ (w1.setCell p v).cell? ⟨g6, 2, none⟩ = some (.int .i64 q2) ∧ Below w.heap.size w (w1.setCell p v) := by
  obtain ⟨c0, c1, c2, c3, c4, c5, hw⟩ := h
  refine ⟨?_, ?_, ?_, ?_, ?_, ?_, hw.setCell hN v⟩
  · rw [World.cell?_setCell_far _ _ _ _ (by simp; omega)]
    exact c0
  · rw [World.cell?_setCell_far _ _ _ _ (by simp; omega)]
    exact c1
  · rw [World.cell?_setCell_far _ _ _ _ (by simp; omega)]
    exact c2
  · rw [World.cell?_setCell_far _ _ _ _ (by simp; omega)]
    exact c3
  · rw [World.cell?_setCell_far _ _ _ _ (by simp; omega)]
    exact c4
  · rw [World.cell?_setCell_far _ _ _ _ (by simp; omega)]
    exact c5
theorem two0_size {ax ay az bx by1 bz : Int} {N : Nat} {w w1 : World} (h : w1.cell? ⟨N, 0, none⟩ = some (.int .i64 ax) ∧ w1.cell? ⟨N, 1, none⟩ = some (.int .i64 ay) ∧ w1.cell? ⟨N, 2, none⟩ = some (.int .i64 az) ∧ w1.cell? ⟨N + 1, 0, none⟩ = some (.int .i64 bx) ∧ w1.cell? ⟨N + 1, 1, none⟩ = some (.int .i64 by1) ∧ w1.cell? ⟨N + 1, 2, none⟩ = some (.int .i64 bz) ∧ Below N w w1 ∧ N + 1 + 1 ≤ w1.heap.size) : N + 1 + 1 ≤ w1.heap.size := h.2.2.2.2.2.2.2
theorem add_turn (a b : Int) : add b a = add a b := by
  unfold add
  rw [Int.add_comm]
theorem mul_turn (a b : Int) : mul b a = mul a b := by
  unfold mul
  rw [Int.mul_comm]
theorem sub_self (a : Int) : sub a a = 0 := by
  unfold sub
  rw [Int.sub_self]
  rfl
theorem dot_turn (ax ay az bx by1 bz : Int) : dot bx by1 bz ax ay az = dot ax ay az bx by1 bz := by
  unfold dot
  rw [mul_turn ax bx, mul_turn ay by1, mul_turn az bz]
theorem len_low {ax ay az : Int} : 0 ≤ len ax ay az := (sqrt_bound (dot_is _ _ _ _ _ _)).1
theorem turn_facts (ax ay az bx by1 bz : Int) (hax : isI ax) (hay : isI ay) (haz : isI az) :
    add bx ax = add ax bx ∧ add by1 ay = add ay by1 ∧ add bz az = add az bz ∧ mul bx ax = mul ax bx ∧ mul by1 ay = mul ay by1 ∧ mul bz az = mul az bz ∧ dot bx by1 bz ax ay az = dot ax ay az bx by1 bz ∧ decide (len ax ay az < 0) = false ∧ sub ax ax = 0 ∧ sub ay ay = 0 ∧ sub az az = 0 :=
  ⟨add_turn _ _, add_turn _ _, add_turn _ _, mul_turn _ _, mul_turn _ _, mul_turn _ _, dot_turn _ _ _ _ _ _, decide_eq_false (by have := @len_low ax ay az; omega), sub_self _, sub_self _, sub_self _⟩
theorem mul_low {p q : Int} (hp : -1099511627776 < p) (kp : p < 1099511627776) (hq : -1099511627776 < q) (kq : q < 1099511627776) : mul p q = p * q / 4294967296 ∧ -281474976710657 ≤ p * q / 4294967296 ∧ p * q / 4294967296 ≤ 281474976710657 := by
  have h1 : p * q ≤ 1099511627776 * 1099511627776 := by
    have := Int.natAbs_mul p q
    have h2 : p.natAbs * q.natAbs ≤ 1099511627776 * 1099511627776 := Nat.mul_le_mul (by omega) (by omega)
    omega
  have h2 : -(1099511627776 * 1099511627776) ≤ p * q := by
    have := Int.natAbs_mul p q
    have h2 : p.natAbs * q.natAbs ≤ 1099511627776 * 1099511627776 := Nat.mul_le_mul (by omega) (by omega)
    omega
  have e : -281474976710657 ≤ p * q / 4294967296 ∧ p * q / 4294967296 ≤ 281474976710657 := by omega
  refine ⟨?_, e⟩
  unfold mul
  exact bring_in ⟨by omega, by omega⟩
theorem side_turn {p q r s : Int} (hp : -1099511627776 < p) (kp : p < 1099511627776) (hq : -1099511627776 < q) (kq : q < 1099511627776) (hr : -1099511627776 < r) (kr : r < 1099511627776) (hs : -1099511627776 < s) (ks : s < 1099511627776) :
    neg (side s r q p) = side p q r s := by
  have a := mul_low hp kp hq kq
  have b := mul_low hr kr hs ks
  unfold side
  rw [mul_turn r s, mul_turn p q, a.1, b.1]
  generalize p * q / 4294967296 = m at a
  generalize r * s / 4294967296 = n at b
  unfold neg sub
  rw [bring_in (n := n - m) ⟨by omega, by omega⟩, show -(n - m) = m - n by omega]
theorem side_self (p q : Int) : side p q q p = 0 := by
  unfold side
  rw [mul_turn p q, sub_self]
theorem cross_turn (ax ay az bx by1 bz : Int) : neg (side (lown by1) (lown az) (lown bz) (lown ay)) = side (lown ay) (lown bz) (lown az) (lown by1) ∧ neg (side (lown bz) (lown ax) (lown bx) (lown az)) = side (lown az) (lown bx) (lown ax) (lown bz)
    ∧ neg (side (lown bx) (lown ay) (lown by1) (lown ax)) = side (lown ax) (lown by1) (lown ay) (lown bx) ∧ side (lown ay) (lown az) (lown az) (lown ay) = 0 ∧ side (lown az) (lown ax) (lown ax) (lown az) = 0 ∧ side (lown ax) (lown ay) (lown ay) (lown ax) = 0 ∧ True ∧ True ∧ True := by
  have a := lown_bd ax
  have b := lown_bd ay
  have c := lown_bd az
  have d := lown_bd bx
  have e := lown_bd by1
  have f := lown_bd bz
  exact ⟨side_turn b.1 b.2 f.1 f.2 c.1 c.2 e.1 e.2, side_turn c.1 c.2 d.1 d.2 a.1 a.2 f.1 f.2, side_turn a.1 a.2 e.1 e.2 b.1 b.2 d.1 d.2, side_self _ _, side_self _ _, side_self _ _, trivial, trivial, trivial⟩
theorem back_low {p q : Int} (hp : -1099511627776 < p) (kp : p < 1099511627776) (hq : -1099511627776 < q) (kq : q < 1099511627776) : add (sub p q) q = p := by
  unfold add sub
  rw [bring_in (n := p - q) ⟨by omega, by omega⟩, Int.sub_add_cancel, bring_in ⟨by omega, by omega⟩]
theorem mul_one {p : Int} (hp : isI p) : mul p 4294967296 = p := by
  unfold mul
  rw [Int.mul_ediv_cancel _ (by decide), bring_in hp]
theorem mul_none (p : Int) : mul p 0 = 0 := by
  unfold mul
  rw [Int.mul_zero]
  rfl
theorem low_turn (ax ay az bx by1 bz : Int) : add (sub (lown ax) (lown bx)) (lown bx) = lown ax ∧ add (sub (lown ay) (lown by1)) (lown by1) = lown ay ∧ add (sub (lown az) (lown bz)) (lown bz) = lown az ∧ mul (lown ax) 4294967296 = lown ax ∧ mul (lown ay) 4294967296 = lown ay ∧ mul (lown az) 4294967296 = lown az := by
  have a := lown_bd ax
  have b := lown_bd ay
  have c := lown_bd az
  have d := lown_bd bx
  have e := lown_bd by1
  have f := lown_bd bz
  exact ⟨back_low a.1 a.2 d.1 d.2, back_low b.1 b.2 e.1 e.2, back_low c.1 c.2 f.1 f.2, mul_one (lown_is _), mul_one (lown_is _), mul_one (lown_is _)⟩
theorem low_one (ax ay az : Int) : mul (lown ax) 0 = 0 ∧ mul (lown ay) 0 = 0 ∧ mul (lown az) 0 = 0 ∧ True := ⟨mul_none _, mul_none _, mul_none _, trivial⟩
end Go.Proofs.Ytddagmcmajjnfaa.Fx
