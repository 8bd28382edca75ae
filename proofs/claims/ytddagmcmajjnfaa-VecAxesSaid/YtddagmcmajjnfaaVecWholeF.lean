/-
  Whole numbers from -100 to 100: dots, crosses and scales of them are as on whole numbers. Plain facts on numbers; the conditions stand in each.
-/
import Derived.Test.YtddagmcmajjnfaaVecTurnsF
namespace Go.Proofs.Ytddagmcmajjnfaa.Fx
open Go Go.RowKit
set_option linter.unusedVariables false
/-- A whole number from -100 to 100, and as a number of the package. -/
def whn (n : Int) : Int := Int.tmod n 101
def whv (n : Int) : Int := whn n * 4294967296
theorem whn_bd (n : Int) : -100 ≤ whn n ∧ whn n ≤ 100 := by
  unfold whn
  by_cases h : 0 ≤ n
  · rw [(quo_high h).2]
    omega
  · rw [(quo_low (by omega)).2]
    omega
theorem whv_is (n : Int) : isI (whv n) := by
  have := whn_bd n
  unfold isI whv
  omega
theorem mulU {x y : Int} (h : -2147483648 ≤ x * y) (k : x * y ≤ 2147483647) : mul (x * 4294967296) (y * 4294967296) = x * y * 4294967296 := by
  unfold mul
  rw [show x * 4294967296 * (y * 4294967296) = x * y * 4294967296 * 4294967296 by grind, Int.mul_ediv_cancel _ (by decide), bring_in ⟨by omega, by omega⟩]
theorem addU {x y : Int} (h : -2147483648 ≤ x + y) (k : x + y ≤ 2147483647) : add (x * 4294967296) (y * 4294967296) = (x + y) * 4294967296 := by
  unfold add
  rw [show x * 4294967296 + y * 4294967296 = (x + y) * 4294967296 by omega, bring_in ⟨by omega, by omega⟩]
theorem subU {x y : Int} (h : -2147483648 ≤ x - y) (k : x - y ≤ 2147483647) : sub (x * 4294967296) (y * 4294967296) = (x - y) * 4294967296 := by
  unfold sub
  rw [show x * 4294967296 - y * 4294967296 = (x - y) * 4294967296 by omega, bring_in ⟨by omega, by omega⟩]
theorem negU {x : Int} (h : -2147483647 ≤ x) (k : x ≤ 2147483647) : neg (x * 4294967296) = -x * 4294967296 := by
  unfold neg
  rw [show -(x * 4294967296) = -x * 4294967296 by omega, bring_in ⟨by omega, by omega⟩]
theorem prod_bd {x y : Int} (X Y : Nat) (hx : -(X : Int) ≤ x) (kx : x ≤ X) (hy : -(Y : Int) ≤ y) (ky : y ≤ Y) : -((X * Y : Nat) : Int) ≤ x * y ∧ x * y ≤ (X * Y : Nat) := by
  have h := Int.natAbs_mul x y
  have h2 : x.natAbs * y.natAbs ≤ X * Y := Nat.mul_le_mul (by omega) (by omega)
  omega
theorem sq_low (x : Int) : 0 ≤ x * x := by
  rcases Int.le_total 0 x with h | h
  · exact Int.mul_nonneg h h
  · exact Int.mul_nonneg_of_nonpos_of_nonpos h h
theorem sideU {x y z t : Int} (h1 : -1000000000 ≤ x * y) (k1 : x * y ≤ 1000000000) (h2 : -1000000000 ≤ z * t) (k2 : z * t ≤ 1000000000) : side (x * 4294967296) (y * 4294967296) (z * 4294967296) (t * 4294967296) = (x * y - z * t) * 4294967296 := by
  unfold side
  rw [mulU (by omega) (by omega), mulU (by omega) (by omega), subU (by omega) (by omega)]
theorem dotU {x1 x2 x3 y1 y2 y3 : Int} (h1 : -600000000 ≤ x1 * y1) (k1 : x1 * y1 ≤ 600000000) (h2 : -600000000 ≤ x2 * y2) (k2 : x2 * y2 ≤ 600000000) (h3 : -600000000 ≤ x3 * y3) (k3 : x3 * y3 ≤ 600000000) :
    dot (x1 * 4294967296) (x2 * 4294967296) (x3 * 4294967296) (y1 * 4294967296) (y2 * 4294967296) (y3 * 4294967296) = (x1 * y1 + x2 * y2 + x3 * y3) * 4294967296 := by
  unfold dot
  rw [mulU (by omega) (by omega), mulU (by omega) (by omega), mulU (by omega) (by omega), addU (by omega) (by omega), addU (by omega) (by omega)]
set_option maxHeartbeats 4000000 in
theorem whole_facts (m0 m1 m2 n0 n1 n2 o0 o1 o2 k : Int) : ∃ nx ny nz tx ty tz sx sy sz px py pz qx qy qz ab ac dA dB dN AA BB AB NN PP QQ : Int, isI nx ∧ isI ny ∧ isI nz ∧ isI tx ∧ isI ty ∧ isI tz ∧ isI sx ∧ isI sy ∧ isI sz ∧ isI px ∧ isI py ∧ isI pz ∧ isI qx ∧ isI qy ∧ isI qz ∧ -1000000000000000000 ≤ ab ∧ ab ≤ 1000000000000000000 ∧ -1000000000000000000 ≤ ac ∧ ac ≤ 1000000000000000000 ∧ 0 ≤ PP ∧ PP ≤ 1000000000000 ∧ 0 ≤ QQ ∧ QQ ≤ 1000000000000 ∧ side (whv m1) (whv n2) (whv m2) (whv n1) = nx ∧ side (whv m2) (whv n0) (whv m0) (whv n2) = ny ∧ side (whv m0) (whv n1) (whv m1) (whv n0) = nz ∧ dot nx ny nz (whv m0) (whv m1) (whv m2) = 0 ∧ dot nx ny nz (whv n0) (whv n1) (whv n2) = 0 ∧ add (whv n0) (whv o0) = tx ∧ add (whv n1) (whv o1) = ty ∧ add (whv n2) (whv o2) = tz ∧ dot (whv m0) (whv m1) (whv m2) (whv n0) (whv n1) (whv n2) = ab ∧ dot (whv m0) (whv m1) (whv m2) (whv o0) (whv o1) (whv o2) = ac ∧ dot (whv m0) (whv m1) (whv m2) tx ty tz = ab + ac ∧ side (whv m1) (whv o2) (whv m2) (whv o1) = px ∧ side (whv m2) (whv o0) (whv m0) (whv o2) = py ∧ side (whv m0) (whv o1) (whv m1) (whv o0) = pz ∧ side (whv m1) tz (whv m2) ty = add nx px ∧ side (whv m2) tx (whv m0) tz = add ny py ∧ side (whv m0) ty (whv m1) tx = add nz pz ∧ add (whv m0) (whv n0) = sx ∧ add (whv m1) (whv n1) = sy ∧ add (whv m2) (whv n2) = sz ∧ mul sx (whv k) = add (mul (whv m0) (whv k)) (mul (whv n0) (whv k)) ∧ mul sy (whv k) = add (mul (whv m1) (whv k)) (mul (whv n1) (whv k)) ∧ mul sz (whv k) = add (mul (whv m2) (whv k)) (mul (whv n2) (whv k)) ∧ dot (whv m0) (whv m1) (whv m2) (whv m0) (whv m1) (whv m2) = dA ∧ dot (whv n0) (whv n1) (whv n2) (whv n0) (whv n1) (whv n2) = dB ∧ dot nx ny nz nx ny nz = dN ∧ dA / 4294967296 = AA ∧ dB / 4294967296 = BB ∧ ab / 4294967296 = AB ∧ dN / 4294967296 = NN ∧ AA * BB = PP ∧ AB * AB = QQ ∧ PP - QQ = NN ∧ side (whv n1) (whv o2) (whv n2) (whv o1) = qx ∧ side (whv n2) (whv o0) (whv n0) (whv o2) = qy ∧ side (whv n0) (whv o1) (whv n1) (whv o0) = qz ∧ dot (whv m0) (whv m1) (whv m2) qx qy qz = dot (whv o0) (whv o1) (whv o2) nx ny nz ∧ neg (sub (whv m0) (whv n0)) = sub (whv n0) (whv m0) ∧ neg (sub (whv m1) (whv n1)) = sub (whv n1) (whv m1) ∧ neg (sub (whv m2) (whv n2)) = sub (whv n2) (whv m2) := by
  unfold whv
  have hb_a0 := whn_bd m0
  have hb_a1 := whn_bd m1
  have hb_a2 := whn_bd m2
  have hb_b0 := whn_bd n0
  have hb_b1 := whn_bd n1
  have hb_b2 := whn_bd n2
  have hb_c0 := whn_bd o0
  have hb_c1 := whn_bd o1
  have hb_c2 := whn_bd o2
  have hb_k := whn_bd k
  generalize whn m0 = a0 at hb_a0 ⊢
  generalize whn m1 = a1 at hb_a1 ⊢
  generalize whn m2 = a2 at hb_a2 ⊢
  generalize whn n0 = b0 at hb_b0 ⊢
  generalize whn n1 = b1 at hb_b1 ⊢
  generalize whn n2 = b2 at hb_b2 ⊢
  generalize whn o0 = c0 at hb_c0 ⊢
  generalize whn o1 = c1 at hb_c1 ⊢
  generalize whn o2 = c2 at hb_c2 ⊢
  generalize whn k = k at hb_k ⊢
  have p1 := prod_bd (x := a0) (y := b0) 100 100 (by omega) (by omega) (by omega) (by omega)
  have p2 := prod_bd (x := a0) (y := b1) 100 100 (by omega) (by omega) (by omega) (by omega)
  have p3 := prod_bd (x := a0) (y := b2) 100 100 (by omega) (by omega) (by omega) (by omega)
  have p4 := prod_bd (x := a1) (y := b0) 100 100 (by omega) (by omega) (by omega) (by omega)
  have p5 := prod_bd (x := a1) (y := b1) 100 100 (by omega) (by omega) (by omega) (by omega)
  have p6 := prod_bd (x := a1) (y := b2) 100 100 (by omega) (by omega) (by omega) (by omega)
  have p7 := prod_bd (x := a2) (y := b0) 100 100 (by omega) (by omega) (by omega) (by omega)
  have p8 := prod_bd (x := a2) (y := b1) 100 100 (by omega) (by omega) (by omega) (by omega)
  have p9 := prod_bd (x := a2) (y := b2) 100 100 (by omega) (by omega) (by omega) (by omega)
  have p10 := prod_bd (x := a0) (y := c0) 100 100 (by omega) (by omega) (by omega) (by omega)
  have p11 := prod_bd (x := a0) (y := c1) 100 100 (by omega) (by omega) (by omega) (by omega)
  have p12 := prod_bd (x := a0) (y := c2) 100 100 (by omega) (by omega) (by omega) (by omega)
  have p13 := prod_bd (x := a1) (y := c0) 100 100 (by omega) (by omega) (by omega) (by omega)
  have p14 := prod_bd (x := a1) (y := c1) 100 100 (by omega) (by omega) (by omega) (by omega)
  have p15 := prod_bd (x := a1) (y := c2) 100 100 (by omega) (by omega) (by omega) (by omega)
  have p16 := prod_bd (x := a2) (y := c0) 100 100 (by omega) (by omega) (by omega) (by omega)
  have p17 := prod_bd (x := a2) (y := c1) 100 100 (by omega) (by omega) (by omega) (by omega)
  have p18 := prod_bd (x := a2) (y := c2) 100 100 (by omega) (by omega) (by omega) (by omega)
  have p19 := prod_bd (x := b0) (y := c0) 100 100 (by omega) (by omega) (by omega) (by omega)
  have p20 := prod_bd (x := b0) (y := c1) 100 100 (by omega) (by omega) (by omega) (by omega)
  have p21 := prod_bd (x := b0) (y := c2) 100 100 (by omega) (by omega) (by omega) (by omega)
  have p22 := prod_bd (x := b1) (y := c0) 100 100 (by omega) (by omega) (by omega) (by omega)
  have p23 := prod_bd (x := b1) (y := c1) 100 100 (by omega) (by omega) (by omega) (by omega)
  have p24 := prod_bd (x := b1) (y := c2) 100 100 (by omega) (by omega) (by omega) (by omega)
  have p25 := prod_bd (x := b2) (y := c0) 100 100 (by omega) (by omega) (by omega) (by omega)
  have p26 := prod_bd (x := b2) (y := c1) 100 100 (by omega) (by omega) (by omega) (by omega)
  have p27 := prod_bd (x := b2) (y := c2) 100 100 (by omega) (by omega) (by omega) (by omega)
  have p28 := prod_bd (x := a0) (y := a0) 100 100 (by omega) (by omega) (by omega) (by omega)
  have p29 := prod_bd (x := a1) (y := a1) 100 100 (by omega) (by omega) (by omega) (by omega)
  have p30 := prod_bd (x := a2) (y := a2) 100 100 (by omega) (by omega) (by omega) (by omega)
  have p31 := prod_bd (x := b0) (y := b0) 100 100 (by omega) (by omega) (by omega) (by omega)
  have p32 := prod_bd (x := b1) (y := b1) 100 100 (by omega) (by omega) (by omega) (by omega)
  have p33 := prod_bd (x := b2) (y := b2) 100 100 (by omega) (by omega) (by omega) (by omega)
  have q0 : -20000 ≤ (a1 * b2 - a2 * b1) ∧ (a1 * b2 - a2 * b1) ≤ 20000 := by omega
  have q1 : -20000 ≤ (a2 * b0 - a0 * b2) ∧ (a2 * b0 - a0 * b2) ≤ 20000 := by omega
  have q2 : -20000 ≤ (a0 * b1 - a1 * b0) ∧ (a0 * b1 - a1 * b0) ≤ 20000 := by omega
  have q3 : -20000 ≤ (a1 * c2 - a2 * c1) ∧ (a1 * c2 - a2 * c1) ≤ 20000 := by omega
  have q4 : -20000 ≤ (a2 * c0 - a0 * c2) ∧ (a2 * c0 - a0 * c2) ≤ 20000 := by omega
  have q5 : -20000 ≤ (a0 * c1 - a1 * c0) ∧ (a0 * c1 - a1 * c0) ≤ 20000 := by omega
  have q6 : -20000 ≤ (b1 * c2 - b2 * c1) ∧ (b1 * c2 - b2 * c1) ≤ 20000 := by omega
  have q7 : -20000 ≤ (b2 * c0 - b0 * c2) ∧ (b2 * c0 - b0 * c2) ≤ 20000 := by omega
  have q8 : -20000 ≤ (b0 * c1 - b1 * c0) ∧ (b0 * c1 - b1 * c0) ≤ 20000 := by omega
  have p34 := prod_bd (x := (a1 * b2 - a2 * b1)) (y := a0) 20000 100 (by omega) (by omega) (by omega) (by omega)
  have p35 := prod_bd (x := (a2 * b0 - a0 * b2)) (y := a1) 20000 100 (by omega) (by omega) (by omega) (by omega)
  have p36 := prod_bd (x := (a0 * b1 - a1 * b0)) (y := a2) 20000 100 (by omega) (by omega) (by omega) (by omega)
  have p37 := prod_bd (x := (a1 * b2 - a2 * b1)) (y := b0) 20000 100 (by omega) (by omega) (by omega) (by omega)
  have p38 := prod_bd (x := (a2 * b0 - a0 * b2)) (y := b1) 20000 100 (by omega) (by omega) (by omega) (by omega)
  have p39 := prod_bd (x := (a0 * b1 - a1 * b0)) (y := b2) 20000 100 (by omega) (by omega) (by omega) (by omega)
  have p40 := prod_bd (x := a0) (y := (b0 + c0)) 100 200 (by omega) (by omega) (by omega) (by omega)
  have p41 := prod_bd (x := a0) (y := (b1 + c1)) 100 200 (by omega) (by omega) (by omega) (by omega)
  have p42 := prod_bd (x := a0) (y := (b2 + c2)) 100 200 (by omega) (by omega) (by omega) (by omega)
  have p43 := prod_bd (x := a1) (y := (b0 + c0)) 100 200 (by omega) (by omega) (by omega) (by omega)
  have p44 := prod_bd (x := a1) (y := (b1 + c1)) 100 200 (by omega) (by omega) (by omega) (by omega)
  have p45 := prod_bd (x := a1) (y := (b2 + c2)) 100 200 (by omega) (by omega) (by omega) (by omega)
  have p46 := prod_bd (x := a2) (y := (b0 + c0)) 100 200 (by omega) (by omega) (by omega) (by omega)
  have p47 := prod_bd (x := a2) (y := (b1 + c1)) 100 200 (by omega) (by omega) (by omega) (by omega)
  have p48 := prod_bd (x := a2) (y := (b2 + c2)) 100 200 (by omega) (by omega) (by omega) (by omega)
  have p49 := prod_bd (x := (a1 * b2 - a2 * b1)) (y := (a1 * b2 - a2 * b1)) 20000 20000 (by omega) (by omega) (by omega) (by omega)
  have p50 := prod_bd (x := (a2 * b0 - a0 * b2)) (y := (a2 * b0 - a0 * b2)) 20000 20000 (by omega) (by omega) (by omega) (by omega)
  have p51 := prod_bd (x := (a0 * b1 - a1 * b0)) (y := (a0 * b1 - a1 * b0)) 20000 20000 (by omega) (by omega) (by omega) (by omega)
  have p52 := prod_bd (x := a0) (y := (b1 * c2 - b2 * c1)) 100 20000 (by omega) (by omega) (by omega) (by omega)
  have p53 := prod_bd (x := a1) (y := (b2 * c0 - b0 * c2)) 100 20000 (by omega) (by omega) (by omega) (by omega)
  have p54 := prod_bd (x := a2) (y := (b0 * c1 - b1 * c0)) 100 20000 (by omega) (by omega) (by omega) (by omega)
  have p55 := prod_bd (x := c0) (y := (a1 * b2 - a2 * b1)) 100 20000 (by omega) (by omega) (by omega) (by omega)
  have p56 := prod_bd (x := c1) (y := (a2 * b0 - a0 * b2)) 100 20000 (by omega) (by omega) (by omega) (by omega)
  have p57 := prod_bd (x := c2) (y := (a0 * b1 - a1 * b0)) 100 20000 (by omega) (by omega) (by omega) (by omega)
  have p58 := prod_bd (x := (a0 + b0)) (y := k) 200 100 (by omega) (by omega) (by omega) (by omega)
  have p59 := prod_bd (x := (a1 + b1)) (y := k) 200 100 (by omega) (by omega) (by omega) (by omega)
  have p60 := prod_bd (x := (a2 + b2)) (y := k) 200 100 (by omega) (by omega) (by omega) (by omega)
  have p61 := prod_bd (x := a0) (y := k) 100 100 (by omega) (by omega) (by omega) (by omega)
  have p62 := prod_bd (x := a1) (y := k) 100 100 (by omega) (by omega) (by omega) (by omega)
  have p63 := prod_bd (x := a2) (y := k) 100 100 (by omega) (by omega) (by omega) (by omega)
  have p64 := prod_bd (x := b0) (y := k) 100 100 (by omega) (by omega) (by omega) (by omega)
  have p65 := prod_bd (x := b1) (y := k) 100 100 (by omega) (by omega) (by omega) (by omega)
  have p66 := prod_bd (x := b2) (y := k) 100 100 (by omega) (by omega) (by omega) (by omega)
  have x1 := prod_bd (x := (a0 * a0 + a1 * a1 + a2 * a2)) (y := (b0 * b0 + b1 * b1 + b2 * b2)) 30000 30000 (by omega) (by omega) (by omega) (by omega)
  have x2 := prod_bd (x := (a0 * b0 + a1 * b1 + a2 * b2)) (y := (a0 * b0 + a1 * b1 + a2 * b2)) 30000 30000 (by omega) (by omega) (by omega) (by omega)
  have z0 := sq_low a0
  have z1 := sq_low a1
  have z2 := sq_low a2
  have z3 := sq_low b0
  have z4 := sq_low b1
  have z5 := sq_low b2
  have z6 := sq_low (a0 * b0 + a1 * b1 + a2 * b2)
  have z7 := Int.mul_nonneg (show 0 ≤ (a0 * a0 + a1 * a1 + a2 * a2) by omega) (show 0 ≤ (b0 * b0 + b1 * b1 + b2 * b2) by omega)
  exact ⟨(a1 * b2 - a2 * b1) * 4294967296, (a2 * b0 - a0 * b2) * 4294967296, (a0 * b1 - a1 * b0) * 4294967296, (b0 + c0) * 4294967296, (b1 + c1) * 4294967296, (b2 + c2) * 4294967296, (a0 + b0) * 4294967296, (a1 + b1) * 4294967296, (a2 + b2) * 4294967296, (a1 * c2 - a2 * c1) * 4294967296, (a2 * c0 - a0 * c2) * 4294967296, (a0 * c1 - a1 * c0) * 4294967296, (b1 * c2 - b2 * c1) * 4294967296, (b2 * c0 - b0 * c2) * 4294967296, (b0 * c1 - b1 * c0) * 4294967296, (a0 * b0 + a1 * b1 + a2 * b2) * 4294967296, (a0 * c0 + a1 * c1 + a2 * c2) * 4294967296, (a0 * a0 + a1 * a1 + a2 * a2) * 4294967296, (b0 * b0 + b1 * b1 + b2 * b2) * 4294967296, ((a1 * b2 - a2 * b1) * (a1 * b2 - a2 * b1) + (a2 * b0 - a0 * b2) * (a2 * b0 - a0 * b2) + (a0 * b1 - a1 * b0) * (a0 * b1 - a1 * b0)) * 4294967296, (a0 * a0 + a1 * a1 + a2 * a2), (b0 * b0 + b1 * b1 + b2 * b2), (a0 * b0 + a1 * b1 + a2 * b2), ((a1 * b2 - a2 * b1) * (a1 * b2 - a2 * b1) + (a2 * b0 - a0 * b2) * (a2 * b0 - a0 * b2) + (a0 * b1 - a1 * b0) * (a0 * b1 - a1 * b0)), (a0 * a0 + a1 * a1 + a2 * a2) * (b0 * b0 + b1 * b1 + b2 * b2), (a0 * b0 + a1 * b1 + a2 * b2) * (a0 * b0 + a1 * b1 + a2 * b2), ⟨by omega, by omega⟩, ⟨by omega, by omega⟩, ⟨by omega, by omega⟩, ⟨by omega, by omega⟩, ⟨by omega, by omega⟩, ⟨by omega, by omega⟩, ⟨by omega, by omega⟩, ⟨by omega, by omega⟩, ⟨by omega, by omega⟩, ⟨by omega, by omega⟩, ⟨by omega, by omega⟩, ⟨by omega, by omega⟩, ⟨by omega, by omega⟩, ⟨by omega, by omega⟩, ⟨by omega, by omega⟩, by omega, by omega, by omega, by omega, by omega, by omega, by omega, by omega, sideU (by omega) (by omega) (by omega) (by omega), sideU (by omega) (by omega) (by omega) (by omega), sideU (by omega) (by omega) (by omega) (by omega), (dotU (by omega) (by omega) (by omega) (by omega) (by omega) (by omega)).trans (by rw [show ((a1 * b2 - a2 * b1) * a0 + (a2 * b0 - a0 * b2) * a1 + (a0 * b1 - a1 * b0) * a2) = 0 by grind]; rfl), (dotU (by omega) (by omega) (by omega) (by omega) (by omega) (by omega)).trans (by rw [show ((a1 * b2 - a2 * b1) * b0 + (a2 * b0 - a0 * b2) * b1 + (a0 * b1 - a1 * b0) * b2) = 0 by grind]; rfl), addU (by omega) (by omega), addU (by omega) (by omega), addU (by omega) (by omega), dotU (by omega) (by omega) (by omega) (by omega) (by omega) (by omega), dotU (by omega) (by omega) (by omega) (by omega) (by omega) (by omega), (dotU (by omega) (by omega) (by omega) (by omega) (by omega) (by omega)).trans (by grind), sideU (by omega) (by omega) (by omega) (by omega), sideU (by omega) (by omega) (by omega) (by omega), sideU (by omega) (by omega) (by omega) (by omega), (sideU (by omega) (by omega) (by omega) (by omega)).trans ((show _ = _ by grind).trans (addU (by omega) (by omega)).symm), (sideU (by omega) (by omega) (by omega) (by omega)).trans ((show _ = _ by grind).trans (addU (by omega) (by omega)).symm), (sideU (by omega) (by omega) (by omega) (by omega)).trans ((show _ = _ by grind).trans (addU (by omega) (by omega)).symm), addU (by omega) (by omega), addU (by omega) (by omega), addU (by omega) (by omega), (mulU (by omega) (by omega)).trans (by rw [mulU (by omega) (by omega), mulU (by omega) (by omega), addU (by omega) (by omega)]; grind), (mulU (by omega) (by omega)).trans (by rw [mulU (by omega) (by omega), mulU (by omega) (by omega), addU (by omega) (by omega)]; grind), (mulU (by omega) (by omega)).trans (by rw [mulU (by omega) (by omega), mulU (by omega) (by omega), addU (by omega) (by omega)]; grind), dotU (by omega) (by omega) (by omega) (by omega) (by omega) (by omega), dotU (by omega) (by omega) (by omega) (by omega) (by omega) (by omega), dotU (by omega) (by omega) (by omega) (by omega) (by omega) (by omega), Int.mul_ediv_cancel _ (by decide), Int.mul_ediv_cancel _ (by decide), Int.mul_ediv_cancel _ (by decide), Int.mul_ediv_cancel _ (by decide), rfl, rfl, by grind, sideU (by omega) (by omega) (by omega) (by omega), sideU (by omega) (by omega) (by omega) (by omega), sideU (by omega) (by omega) (by omega) (by omega), (dotU (by omega) (by omega) (by omega) (by omega) (by omega) (by omega)).trans ((show _ = _ by grind).trans (dotU (by omega) (by omega) (by omega) (by omega) (by omega) (by omega)).symm), by rw [subU (by omega) (by omega), subU (by omega) (by omega), negU (by omega) (by omega)]; grind, by rw [subU (by omega) (by omega), subU (by omega) (by omega), negU (by omega) (by omega)]; grind, by rw [subU (by omega) (by omega), subU (by omega) (by omega), negU (by omega) (by omega)]; grind⟩
end Go.Proofs.Ytddagmcmajjnfaa.Fx
