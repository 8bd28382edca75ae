/-
  Codes as deflate has them, as landed: bits turned round, the fixed codes, groups of numbers. The conditions stand in each.
  The window's search, as landed: how many bytes are the same; the longest match. The conditions stand in each.
  What stands for the window's bytes, as landed. The conditions stand in it.
  What stands for bytes, spelt in the fixed codes, as landed: whatever takes the bits. The conditions stand in each.
  A block's parts spelt in the fixed codes, as landed: whatever takes the bits. The conditions stand in it.
-/
import Derived.StillTailTactics
import Derived.Deep.QuietTactic
import Derived.BigQuiet
import Derived.Laws.BitsAllLaws
import Derived.Test.YtefdlidjdmlnaaaBitsCg
import Derived.Test.YtefdlidjdmlnaaaDeflQ
import Derived.WalkSmall
import Derived.Test.YtefdlidjdmlnaaaBitsCt
namespace Go.Proofs.Ytefdlidjdmlnaaa.Fx
open Go Go.RowKit Go.Joins
set_option linter.unusedVariables false
/-- One step of a number's turning round: m says which bits go down by s. -/
def swap (s m x : Nat) : Nat := ((x / s) &&& m) ||| ((x &&& m) * s % 4294967296)
def rev32 (x : Nat) : Nat :=
  let y := swap 256 16711935 (swap 16 252645135 (swap 4 858993459 (swap 2 1431655765 x)))
  (y / 65536) ||| (y * 65536 % 4294967296)
theorem or_lt32 (a b : Nat) (ha : a < 4294967296) (hb : b < 4294967296) : a ||| b < 4294967296 := Nat.or_lt_two_pow (n := 32) ha hb
theorem and_lt32 (a b : Nat) (ha : a < 4294967296) : a &&& b < 4294967296 := Nat.lt_of_le_of_lt Nat.and_le_left ha
theorem swap_lt (s m x : Nat) (hx : x < 4294967296) : swap s m x < 4294967296 := by
  unfold swap
  refine or_lt32 _ _ (and_lt32 _ _ (Nat.lt_of_le_of_lt (Nat.div_le_self _ _) hx)) (Nat.mod_lt _ (by decide))
/-- A step's parts, each with a name, as the walk spells them. -/
theorem swap_parts (s m x : Nat) (hs : 0 < s) (hx : x < 4294967296) (hm : m < 4294967296) : ∃ q a b c y : Nat, y = swap s m x ∧ (x : Int) / (s : Int) = (q : Int) ∧ bits .and .u32 (q : Int) (m : Int) = (a : Int) ∧ bits .and .u32 (x : Int) (m : Int) = (b : Int) ∧ (b : Int) * (s : Int) % 4294967296 = (c : Int) ∧ bits .or .u32 (a : Int) (c : Int) = (y : Int) ∧ q < 4294967296 ∧ a < 4294967296 ∧ b < 4294967296 ∧ c < 4294967296 ∧ y < 4294967296 := by
  have hq : x / s < 4294967296 := Nat.lt_of_le_of_lt (Nat.div_le_self _ _) hx
  have ha := and_lt32 (x / s) m hq
  have hb := and_lt32 x m hx
  have hc : (x &&& m) * s % 4294967296 < 4294967296 := Nat.mod_lt _ (by decide)
  exact ⟨x / s, (x / s) &&& m, x &&& m, (x &&& m) * s % 4294967296, swap s m x, rfl, by omega, u32_and_nat _ _ hq hm, u32_and_nat _ _ hx hm, by omega, u32_or_nat _ _ ha hc, hq, ha, hb, hc, swap_lt s m x hx⟩
theorem rb_any (x : Nat) (hx : x < 4294967296) (w : World) :
    Calls Try.prog 101 #[.int .u32 (x : Int)] w fun e w' => e = .returned (.int .u32 (((swap 256 16711935 x) / 65536 ||| (swap 256 16711935 x) * 65536 % 4294967296 : Nat) : Int)) ∧ w = w' := by
  obtain ⟨q, a, b, c, y, ey, h1, h2, h3, h4, h5, bq, ba, bb, bc, bdy⟩ := swap_parts 256 16711935 x (by decide) hx (by decide)
  rw [← ey]
  clear ey
  obtain ⟨p, hp⟩ : ∃ p, p = y / 65536 := ⟨_, rfl⟩
  obtain ⟨r, hr⟩ : ∃ p, p = y * 65536 % 4294967296 := ⟨_, rfl⟩
  have h6 : (y : Int) / 65536 = (p : Int) := by omega
  have h7 : (y : Int) * 65536 % 4294967296 = (r : Int) := by omega
  have h8 := u32_or_nat p r (by omega) (by omega)
  have bp : p < 4294967296 := by omega
  have br : r < 4294967296 := by omega
  rw [← hp, ← hr]
  clear hp hr
  obtain ⟨z, ez⟩ : ∃ z, p ||| r = z := ⟨_, rfl⟩
  rw [ez] at h8 ⊢
  clear ez
  have h2 : bits .and .u32 (q : Int) 16711935 = (a : Int) := h2
  have h3 : bits .and .u32 (x : Int) 16711935 = (b : Int) := h3
  have h1 : (x : Int) / 256 = (q : Int) := h1
  have h4 : (b : Int) * 256 % 4294967296 = (c : Int) := h4
  go_enter Try.func101, Try.ntmps101
  go_wp2
  go_ret
  first | exact ⟨rfl, rfl⟩ | simp
set_option maxHeartbeats 1000000 in
theorem rev_any (x : Nat) (hx : x < 4294967296) (w : World) :
    Calls Try.prog 100 #[.int .u32 (x : Int)] w fun e w' => e = .returned (.int .u32 ((rev32 x : Nat) : Int)) ∧ w = w' := by
  obtain ⟨q, a, b, c, y, ey, h1, h2, h3, h4, h5, bq, ba, bb, bc, bdy⟩ := swap_parts 2 1431655765 x (by decide) hx (by decide)
  obtain ⟨q', a', b', c', y', ey', h1', h2', h3', h4', h5', bq', ba', bb', bc', by'⟩ := swap_parts 4 858993459 y (by decide) bdy (by decide)
  obtain ⟨q2, a2, b2, c2, y2, ey2, k1, k2, k3, k4, k5, bq2, ba2, bb2, bc2, by2⟩ := swap_parts 16 252645135 y' (by decide) by' (by decide)
  have KR := rb_any y2 by2 w
  have ER : Hid (rev32 x = ((swap 256 16711935 y2) / 65536 ||| (swap 256 16711935 y2) * 65536 % 4294967296)) := by
    show _ = _
    unfold rev32
    rw [ey2, ey', ey]
  obtain ⟨R, eR⟩ : ∃ R, ((swap 256 16711935 y2) / 65536 ||| (swap 256 16711935 y2) * 65536 % 4294967296) = R := ⟨_, rfl⟩
  rw [eR] at KR ER
  rw [ER.out]
  clear eR ER ey ey' ey2
  have h2 : bits .and .u32 (q : Int) 1431655765 = (a : Int) := h2
  have h3 : bits .and .u32 (x : Int) 1431655765 = (b : Int) := h3
  have h1 : (x : Int) / 2 = (q : Int) := h1
  have h4 : (b : Int) * 2 % 4294967296 = (c : Int) := h4
  have h2' : bits .and .u32 (q' : Int) 858993459 = (a' : Int) := h2'
  have h3' : bits .and .u32 (y : Int) 858993459 = (b' : Int) := h3'
  have h1' : (y : Int) / 4 = (q' : Int) := h1'
  have h4' : (b' : Int) * 4 % 4294967296 = (c' : Int) := h4'
  have k2 : bits .and .u32 (q2 : Int) 252645135 = (a2 : Int) := k2
  have k3 : bits .and .u32 (y' : Int) 252645135 = (b2 : Int) := k3
  have k1 : (y' : Int) / 16 = (q2 : Int) := k1
  have k4 : (b2 : Int) * 16 % 4294967296 = (c2 : Int) := k4
  go_enter Try.func100, Try.ntmps100
  go_wp2_with fail
  go_at_call 101
  refine KR.mono ?_
  rintro e w' ⟨rfl, rfl⟩
  go_wp2_with fail
  go_ret
  first | exact ⟨rfl, rfl⟩ | simp
/-- A code turned round, as a number of its bits. -/
def highOf (c k : Nat) : Nat := numOf (turned c k)
theorem rev_five : (List.range 32).all (fun c => rev32 c / 2 ^ 27 == highOf c 5) = true := by decide +kernel
theorem rev_seven : (List.range 128).all (fun c => rev32 c / 2 ^ 25 == highOf c 7) = true := by decide +kernel
theorem rev_eight : (List.range 256).all (fun c => rev32 c / 2 ^ 24 == highOf c 8) = true := by decide +kernel
theorem rev_nine : (List.range 512).all (fun c => rev32 c / 2 ^ 23 == highOf c 9) = true := by decide +kernel
theorem rev_is (c k : Nat) (hk : k = 5 ∨ k = 7 ∨ k = 8 ∨ k = 9) (hc : c < 2 ^ k) : rev32 c / 2 ^ (32 - k) = highOf c k := by
  rcases hk with rfl | rfl | rfl | rfl
  · simpa using List.all_eq_true.1 rev_five c (List.mem_range.2 hc)
  · simpa using List.all_eq_true.1 rev_seven c (List.mem_range.2 hc)
  · simpa using List.all_eq_true.1 rev_eight c (List.mem_range.2 hc)
  · simpa using List.all_eq_true.1 rev_nine c (List.mem_range.2 hc)
theorem rev32_lt (x : Nat) (hx : x < 4294967296) : rev32 x < 4294967296 := by
  have h := swap_lt 256 16711935 _ (swap_lt 16 252645135 _ (swap_lt 4 858993459 _ (swap_lt 2 1431655765 x hx)))
  unfold rev32
  simp only
  exact or_lt32 _ _ (by omega) (Nat.mod_lt _ (by decide))
set_option maxHeartbeats 1000000 in
theorem high_any (c k : Nat) (hk : k = 5 ∨ k = 7 ∨ k = 8 ∨ k = 9) (hc : c < 2 ^ k) (w : World) :
    Calls Try.prog 87 #[.int .u32 (c : Int), .int .i64 (k : Int)] w fun e w' => e = .returned (.tuple #[.int .u32 (highOf c k : Nat), .int .i64 (k : Int)]) ∧ w = w' := by
  have hr := rev_is c k hk hc
  have hc32 : c < 4294967296 := by rcases hk with rfl | rfl | rfl | rfl <;> omega
  have hl := rev32_lt c hc32
  have KR := rev_any c hc32 w
  obtain ⟨R, eR⟩ : ∃ R, rev32 c = R := ⟨_, rfl⟩
  obtain ⟨H, eH⟩ : ∃ R, highOf c k = R := ⟨_, rfl⟩
  rw [eR] at hr hl KR
  rw [eH] at hr ⊢
  clear eR eH hc
  rcases hk with rfl | rfl | rfl | rfl
  all_goals
    first
    | have hd : (R : Int) / 134217728 = (H : Int) := by simp at hr; omega
    | have hd : (R : Int) / 33554432 = (H : Int) := by simp at hr; omega
    | have hd : (R : Int) / 16777216 = (H : Int) := by simp at hr; omega
    | have hd : (R : Int) / 8388608 = (H : Int) := by simp at hr; omega
    clear hr
    go_enter Try.func87, Try.ntmps87
    go_wp2_with fail
    go_at_call 100
    refine KR.mono ?_
    rintro e w' ⟨rfl, rfl⟩
    go_wp2_with fail
    refine bodyPost_ret (v := .tuple #[.int .u32 (H : Int), .int .i64 _]) (by simp [results, Try.results87, asAddr, go_sem]) rfl ⟨rfl, rfl⟩
theorem fixedSym_is (n : Nat) : fixedSym n = (if n < 144 then turned (48 + n) 8 else if n < 256 then turned (400 + n - 144) 9 else if n < 280 then turned (n - 256) 7 else turned (192 + n - 280) 8) := by
  unfold fixedSym
  by_cases h1 : n < 144
  · rw [if_pos h1, if_pos (by omega)]
  rw [if_neg h1, if_neg (by omega)]
  by_cases h2 : n < 256
  · rw [if_pos h2, if_pos (by omega)]
  rw [if_neg h2, if_neg (by omega)]
  by_cases h3 : n < 280
  · rw [if_pos h3, if_pos (by omega)]
  · rw [if_neg h3, if_neg (by omega)]
set_option maxHeartbeats 1000000 in
theorem fixed_any (n : Nat) (hn : n < 288) (w : World) :
    Calls Try.prog 85 #[.int .u32 (n : Int)] w fun e w' => e = .returned (.tuple #[.int .u32 (numOf (fixedSym n) : Nat), .int .i64 ((fixedSym n).length : Int)]) ∧ w = w' := by
  rw [fixedSym_is]
  have n0 : (0 : Int) ≤ (n : Int) := by omega
  by_cases h1 : n < 144
  · rw [if_pos h1, turned_length]
    have d1 : decide ((n : Int) < 144) = true := decide_eq_true (by omega)
    have K := high_any (48 + n) 8 (by omega) (by omega) w
    obtain ⟨H, eH⟩ : ∃ R, highOf (48 + n) 8 = R := ⟨_, rfl⟩
    rw [show numOf (turned (48 + n) 8) = H from eH]
    rw [eH] at K
    clear eH
    obtain ⟨c, ec⟩ : ∃ c, 48 + n = c := ⟨_, rfl⟩
    rw [ec] at K
    have ha : 48 + (n : Int) = (c : Int) := by omega
    have hcw : c < 4294967296 := by omega
    clear ec
    go_enter Try.func85, Try.ntmps85
    go_wp2_with fail
    go_at_call 87
    refine K.mono ?_
    rintro e w' ⟨rfl, rfl⟩
    go_wp2_with fail
    refine bodyPost_ret (v := .tuple #[.int .u32 (H : Int), .int .i64 _]) (by simp [results, Try.results85, asAddr, go_sem]) rfl ⟨rfl, rfl⟩
  rw [if_neg h1]
  have d1 : decide ((n : Int) < 144) = false := decide_eq_false (by omega)
  by_cases h2 : n < 256
  · rw [if_pos h2, turned_length]
    have d2 : decide ((n : Int) < 256) = true := decide_eq_true (by omega)
    have K := high_any (400 + n - 144) 9 (by omega) (by omega) w
    obtain ⟨H, eH⟩ : ∃ R, highOf (400 + n - 144) 9 = R := ⟨_, rfl⟩
    rw [show numOf (turned (400 + n - 144) 9) = H from eH]
    rw [eH] at K
    clear eH
    obtain ⟨c, ec⟩ : ∃ c, 400 + n - 144 = c := ⟨_, rfl⟩
    rw [ec] at K
    have ha : 400 + (n : Int) - 144 = (c : Int) := by omega
    have hcw : c < 4294967296 := by omega
    clear ec
    go_enter Try.func85, Try.ntmps85
    go_wp2_with fail
    go_at_call 87
    refine K.mono ?_
    rintro e w' ⟨rfl, rfl⟩
    go_wp2_with fail
    refine bodyPost_ret (v := .tuple #[.int .u32 (H : Int), .int .i64 _]) (by simp [results, Try.results85, asAddr, go_sem]) rfl ⟨rfl, rfl⟩
  rw [if_neg h2]
  have d2 : decide ((n : Int) < 256) = false := decide_eq_false (by omega)
  by_cases h3 : n < 280
  · rw [if_pos h3, turned_length]
    have d3 : decide ((n : Int) < 280) = true := decide_eq_true (by omega)
    have K := high_any (n - 256) 7 (by omega) (by omega) w
    obtain ⟨H, eH⟩ : ∃ R, highOf (n - 256) 7 = R := ⟨_, rfl⟩
    rw [show numOf (turned (n - 256) 7) = H from eH]
    rw [eH] at K
    clear eH
    obtain ⟨c, ec⟩ : ∃ c, n - 256 = c := ⟨_, rfl⟩
    rw [ec] at K
    have ha : (n : Int) - 256 = (c : Int) := by omega
    have hcw : c < 4294967296 := by omega
    clear ec
    go_enter Try.func85, Try.ntmps85
    go_wp2_with fail
    go_at_call 87
    refine K.mono ?_
    rintro e w' ⟨rfl, rfl⟩
    go_wp2_with fail
    refine bodyPost_ret (v := .tuple #[.int .u32 (H : Int), .int .i64 _]) (by simp [results, Try.results85, asAddr, go_sem]) rfl ⟨rfl, rfl⟩
  rw [if_neg h3, turned_length]
  have d3 : decide ((n : Int) < 280) = false := decide_eq_false (by omega)
  have K := high_any (192 + n - 280) 8 (by omega) (by omega) w
  obtain ⟨H, eH⟩ : ∃ R, highOf (192 + n - 280) 8 = R := ⟨_, rfl⟩
  rw [show numOf (turned (192 + n - 280) 8) = H from eH]
  rw [eH] at K
  clear eH
  obtain ⟨c, ec⟩ : ∃ c, 192 + n - 280 = c := ⟨_, rfl⟩
  rw [ec] at K
  have ha : 192 + (n : Int) - 280 = (c : Int) := by omega
  have hcw : c < 4294967296 := by omega
  clear ec
  go_enter Try.func85, Try.ntmps85
  go_wp2_with fail
  go_at_call 87
  refine K.mono ?_
  rintro e w' ⟨rfl, rfl⟩
  go_wp2_with fail
  refine bodyPost_ret (v := .tuple #[.int .u32 (H : Int), .int .i64 _]) (by simp [results, Try.results85, asAddr, go_sem]) rfl ⟨rfl, rfl⟩
/-! ### Groups -/
/-- The closure that grouped makes of a group whose size lies in the block g. -/
def groupOf (g : Nat) : Value := .func (Fn.func 99) #[] #[.pointer (some ⟨g, 0, none⟩)]
theorem grouped_any (G : Nat) (w : World) :
    Calls Try.prog 84 #[.int .i64 (G : Int)] w fun e w' => e = .returned (groupOf w.heap.size) ∧ w' = w.alloc (.cells #[.int .i64 (G : Int)] 3) := by
  go_enter Try.func84, Try.ntmps84
  go_wp2_with fail
  go_ret
  simp [groupOf]
/-- A number's group: as many bits as it has behind the code. -/
def Extra (G n e : Nat) : Prop := n / 2 ^ e < 2 * G ∧ (e = 0 ∨ 2 * G ≤ n / 2 ^ (e - 1))
theorem extra_low {G n e j : Nat} (h : Extra G n e) (hj : j < e) : 2 * G ≤ n / 2 ^ j := by
  rcases h.2 with h0 | h0
  · omega
  · refine Nat.le_trans h0 ?_
    exact Nat.div_le_div_left (Nat.pow_le_pow_right (by decide) (by omega)) (Nat.two_pow_pos _)
theorem low_bits (n j : Nat) (hj : j ≤ 62) (hn : n < 9223372036854775808) : bits .and .i64 (n : Int) ((2 : Int) ^ j - 1) = ((n % 2 ^ j : Nat) : Int) := by
  have h1 : 1 ≤ 2 ^ j := Nat.one_le_two_pow
  have h2 : 2 ^ j ≤ 2 ^ 62 := Nat.pow_le_pow_right (by decide) hj
  have hp : (2 : Int) ^ j - 1 = ((2 ^ j - 1 : Nat) : Int) := by
    rw [Int.natCast_sub h1, Int.natCast_pow]
    rfl
  rw [hp]
  have key : (BitVec.ofInt 64 (n : Int) &&& BitVec.ofInt 64 ((2 ^ j - 1 : Nat) : Int)).toNat = n % 2 ^ j := by
    rw [BitVec.toNat_and, BitVec.toNat_ofInt, BitVec.toNat_ofInt]
    have e1 : ((n : Int) % ((2 ^ 64 : Nat) : Int)).toNat = n := by omega
    have e2 : (((2 ^ j - 1 : Nat) : Int) % ((2 ^ 64 : Nat) : Int)).toNat = 2 ^ j - 1 := by omega
    rw [e1, e2, Nat.and_two_pow_sub_one_eq_mod]
  show IntKind.i64.wrap ((BitVec.ofInt 64 (n : Int) &&& BitVec.ofInt 64 ((2 ^ j - 1 : Nat) : Int)).toNat : Nat) = _
  rw [key, IntKind.wrap_i64]
  have := Nat.mod_le n (2 ^ j)
  omega
theorem mask_whole (j : Nat) (hj : j ≤ 20) : wrap64 ((2 : Int) ^ j) = (2 : Int) ^ j ∧ wrap64 ((2 : Int) ^ j - 1) = (2 : Int) ^ j - 1 := by
  have h3 : 2 ^ j ≤ 1048576 := Nat.le_trans (Nat.pow_le_pow_right (by decide) hj) (by decide)
  have hp : (2 : Int) ^ j = ((2 ^ j : Nat) : Int) := by rw [Int.natCast_pow]; rfl
  rw [hp]
  generalize 2 ^ j = p at *
  constructor
  · unfold wrap64; omega
  · unfold wrap64; omega
set_option maxHeartbeats 2000000 in
theorem group_any (G n e g : Nat) (hG : G ≤ 4) (hn : n ≤ 1048576) (he : e ≤ 20) (hx : Extra G n e) (W : World) (hc : W.cell? ⟨g, 0, none⟩ = some (.int .i64 (G : Int))) :
    Calls Try.prog 99 #[.int .i64 (n : Int), .pointer (some ⟨g, 0, none⟩)] W fun r w' => r = .returned (.tuple #[.int .u32 ((G * e + n / 2 ^ e : Nat) : Int), .int .i64 (e : Int), .int .u32 ((n % 2 ^ e : Nat) : Int)]) ∧ ∃ k, w' = W.drewN k := by
  have HX := Lib.hid hx
  clear hx
  have hge : G * e ≤ 80 := Nat.le_trans (Nat.mul_le_mul hG he) (by decide)
  have hql : n / 2 ^ e ≤ n := Nat.div_le_self _ _
  have hrl : n % 2 ^ e ≤ n := Nat.mod_le _ _
  have hand := low_bits n e (by omega) (by omega)
  obtain ⟨q, eq⟩ : ∃ q, n / 2 ^ e = q := ⟨_, rfl⟩
  obtain ⟨r, er⟩ : ∃ q, n % 2 ^ e = q := ⟨_, rfl⟩
  obtain ⟨m, em⟩ : ∃ q, G * e = q := ⟨_, rfl⟩
  have hmi : (G : Int) * (e : Int) = (m : Int) := by rw [← em]; rfl
  have EQ := Lib.hid eq
  rw [eq] at hql
  rw [er] at hand hrl
  rw [em] at hge
  rw [eq, er, em]
  clear eq er em
  go_enter Try.func99, Try.ntmps99
  go_wp2_with fail
  go_loopw [6] (fun s6 wr => ∃ j : Nat, j ≤ e ∧ s6 = .int .i64 (j : Int) ∧ ∃ k, wr = W.drewN k) (fun s6 _ => e - (intOf s6).toNat)
  case atStart => exact ⟨0, Nat.zero_le _, rfl, 0, rfl⟩
  case round =>
    obtain ⟨j, hj, rfl, k, rfl⟩ := hrel
    have hq : (W.drewN k).cell? ⟨g, 0, none⟩ = some (.int .i64 (G : Int)) := hc
    have hnd : (n : Int) / (2 : Int) ^ j = ((n / 2 ^ j : Nat) : Int) := by
      rw [Int.natCast_ediv, Int.natCast_pow]
      rfl
    by_cases hlt : j < e
    · have hlow := extra_low HX.out hlt
      have hql : n / 2 ^ j ≤ n := Nat.div_le_self _ _
      obtain ⟨q, eq⟩ : ∃ q, n / 2 ^ j = q := ⟨_, rfl⟩
      rw [eq] at hnd hlow hql
      have hd : decide (2 * (G : Int) ≤ (q : Int)) = true := decide_eq_true (by omega)
      clear eq
      go_wp2_with fail
      go_quiet (fail)
      go_wp2_with fail
      go_roundw
      case rel => exact ⟨j + 1, by omega, by go_num, _, rfl⟩
      case measure => simp [intOf]; omega
    · obtain rfl : j = e := by omega
      have hlow := HX.out.1
      rw [EQ.out] at hnd hlow
      have hd : decide (2 * (G : Int) ≤ (q : Int)) = false := decide_eq_false (by omega)
      go_wp2_with fail
      go_quiet (fail)
      go_wp2_with fail
      go_quiet (fail)
      go_wp2_with fail
      obtain ⟨hw1, hw2⟩ := mask_whole j he
      have hr32 : (r : Int) % 4294967296 = (r : Int) := by omega
      refine bodyPost_ret (v := .tuple #[.int .u32 ((m + q : Nat) : Int), .int .i64 (j : Int), .int .u32 (r : Int)]) (by simp [results, Try.results99, asAddr, go_sem]; rw [hw1, hw2, hand, hr32]) rfl ⟨rfl, _, (by rw [World.drewN_drewN, World.drewN_drewN])⟩
end Go.Proofs.Ytefdlidjdmlnaaa.Fx
namespace Go.Proofs.Ytefdlidjdmlnaaa.Fx
open Go Go.RowKit Go.Joins
set_option linter.unusedVariables false
/-- A step's value. -/
def stepVal (s : Nat) : Value := .int .i32 (s : Int)
theorem cell_drewN (w : World) (k : Nat) (a : Addr) : (w.drewN k).cell? a = w.cell? a := rfl
theorem min_small (a b : Int) (w : World) : (Builtin.min_ #[3, 3] 3 #[.int .i64 a, .int .i64 b]).run Try.prog w = .ok (.int .i64 (if b < a then b else a)) w := by
  simp [Builtin.min_, Builtin.min2]
set_option maxHeartbeats 2000000 in
theorem same_code (g : Nat) (s : Value) (zs : List Nat) (i d m : Nat) (W : World) (hs : W.cell? ⟨g, 1, none⟩ = some s) (hb : bytesIn W s zs) (h8 : ∀ x ∈ zs, x < 256) (hd : d ≤ i) (hi : i ≤ zs.length) (hl : zs.length ≤ 1099511627776) (hm : m = min 258 (zs.length - i)) :
    Calls Try.prog 98 #[.pointer (some ⟨g, 1, none⟩), .int .i64 (i : Int), .int .i64 (d : Int), .int .i64 (m : Int)] W fun e w' => e = .returned (.int .i64 (sm zs i d : Nat)) ∧ ∃ k, w' = W.drewN k := by
  have hsm := sm_le zs i d hi
  have HS : Hid (∀ n, n ≤ m → (∀ j, j < n → zs[i - d + j]? = zs[i + j]?) → (n = m ∨ zs[i - d + n]? ≠ zs[i + n]?) → n = sm zs i d) := fun n h1 h2 h3 => (sm_of zs i d n hd hi (by omega) (by omega) h2 (h3.elim (fun h => by omega) (fun h => .inr (.inr h)))).symm
  obtain ⟨S, eS⟩ : ∃ S, sm zs i d = S := ⟨_, rfl⟩
  rw [eS] at HS ⊢
  have HB := Lib.hid hb
  have H8 := Lib.hid h8
  obtain ⟨so, sc, rfl⟩ := listed_length hb
  have him : i + m ≤ zs.length := by omega
  obtain ⟨len, el⟩ : ∃ len, zs.length = len := ⟨_, rfl⟩
  have EL := Lib.hid el
  rw [el] at HB hi hl hs him
  clear hb h8 hm hsm eS el
  have hid : (i : Int) - (d : Int) = ((i - d : Nat) : Int) := by omega
  go_enter Try.func98, Try.ntmps98
  go_wp2_with fail
  go_loopw [9] (fun s9 wr => ∃ n : Nat, n ≤ m ∧ s9 = .int .i64 (n : Int) ∧ Hid (∀ j, j < n → zs[i - d + j]? = zs[i + j]?) ∧ ∃ k, wr = W.drewN k) (fun s9 _ => m - (intOf s9).toNat)
  case atStart => exact ⟨0, Nat.zero_le _, rfl, (fun j hj => by omega), 0, rfl⟩
  case round =>
    obtain ⟨n, hn, rfl, hsame, k, rfl⟩ := hrel
    have hq : (W.drewN k).cell? ⟨g, 1, none⟩ = some (.slice so len sc) := hs
    by_cases hlt : n < m
    · have d1 : decide ((n : Int) < (m : Int)) = true := decide_eq_true (by omega)
      obtain ⟨x, ex⟩ : ∃ x, zs[i + n]? = some x := ⟨zs[i + n]'(by rw [EL.out]; omega), List.getElem?_eq_getElem _⟩
      obtain ⟨y, ey⟩ : ∃ x, zs[i - d + n]? = some x := ⟨zs[i - d + n]'(by rw [EL.out]; omega), List.getElem?_eq_getElem _⟩
      obtain ⟨b, off, cap, ev, hlt1, hc1⟩ := listed_cell HB.out (i + n) x ex
      obtain ⟨b2, off2, cap2, ev2, hlt2, hc2⟩ := listed_cell HB.out (i - d + n) y ey
      rw [EL.out] at ev ev2
      simp only [Value.slice.injEq] at ev ev2
      obtain ⟨rfl, _, rfl⟩ := ev
      simp only [Option.some.injEq, Addr.mk.injEq] at ev2
      obtain ⟨⟨rfl, rfl, _⟩, _, rfl⟩ := ev2
      have q1 : W.cell? ⟨b, off + (i + n), none⟩ = some (.int .u8 (x : Int)) := hc1
      have q2 : W.cell? ⟨b, off + (i - d + n), none⟩ = some (.int .u8 (y : Int)) := hc2
      have a1 : (i : Int) + (n : Int) = ((i + n : Nat) : Int) := by omega
      have a2 : ((i + n : Nat) : Int) - (d : Int) = ((i - d + n : Nat) : Int) := by omega
      have p1 : i + n < len := by omega
      have p2 : i - d + n < len := by omega
      have hx8 : x < 256 := H8.out x (List.mem_of_getElem? ex)
      have hy8 : y < 256 := H8.out y (List.mem_of_getElem? ey)
      obtain ⟨p, ep⟩ : ∃ p, i + n = p := ⟨_, rfl⟩
      obtain ⟨r, er⟩ : ∃ p, i - d + n = p := ⟨_, rfl⟩
      have EX := Lib.hid ex
      have EY := Lib.hid ey
      rw [ep] at q1 a1 a2 p1
      rw [er] at q2 a2 p2
      have EP := Lib.hid ep
      have ER := Lib.hid er
      have w1 : IntKind.i64.wrap (p : Int) = (p : Int) := by rw [IntKind.wrap_i64]; omega
      have w2 : IntKind.i64.wrap (r : Int) = (r : Int) := by rw [IntKind.wrap_i64]; omega
      have i1 : (p : Int) < (len : Int) := by omega
      have i2 : (r : Int) < (len : Int) := by omega
      clear ex ey hc1 hc2 ep er
      by_cases hxy : x = y
      · subst hxy
        go_wp2_with fail
        go_quiet (fail)
        go_wp2_with fail
        go_roundw
        case rel =>
          refine ⟨n + 1, by omega, by go_num, fun j hj => ?_, _, (by first | rfl | rw [World.drewN_drewN])⟩
          rcases Nat.lt_or_ge j n with h1 | h1
          · exact hsame.out j h1
          · obtain rfl : j = n := by omega
            rw [EX.out, EY.out]
        case measure => simp [intOf]; omega
      · have hne : ((x : Int) == (y : Int)) = false := by simp; omega
        have hnd : decide ((x : Int) = (y : Int)) = false := decide_eq_false (by omega)
        have HN : Hid (n = S) := HS.out n hn hsame.out (.inr (by rw [EX.out, EY.out]; simp; omega))
        go_wp2_with fail
        go_quiet (fail)
        go_wp2_with fail
        go_ret
        exact ⟨by rw [HN.out]; rfl, _, (by first | rfl | rw [World.drewN_drewN])⟩
    · have d1 : decide ((n : Int) < (m : Int)) = false := decide_eq_false (by omega)
      have HN : Hid (n = S) := HS.out n hn hsame.out (.inl (by omega))
      go_wp2_with fail
      go_quiet (fail)
      go_wp2_with fail
      go_ret
      exact ⟨by rw [HN.out]; rfl, _, (by first | rfl | rw [World.drewN_drewN])⟩
theorem partInfo : (Try.prog.info? 142).map (fun i => (i.zero, i.size, i.bytes)) = some (some (.agg #[.int .i64 0, .int .i64 0]), 2, 16) := by kernel_rfl
/-- Two blocks of a call's own, one behind the other. -/
theorem two_blocks2 (W : World) (ty : TypeId) (x0 x1 y0 y1 : Value) : ∃ w1, w1 = (W.alloc (.cells #[x0, x1] ty)).alloc (.cells #[y0, y1] ty) ∧ w1.heap.size = W.heap.size + 2 ∧ w1.heap[W.heap.size]? = some (.cells #[x0, x1] ty (0, 0)) ∧ w1.heap[W.heap.size + 1]? = some (.cells #[y0, y1] ty (0, 0)) ∧ Below W.heap.size W w1 := by
  have hs0 : (W.alloc (.cells #[x0, x1] ty)).heap.size = W.heap.size + 1 := by
    show (W.heap.push _).size = _
    simp
  refine ⟨_, rfl, ?_, alloc_old (heap_alloc_new W _), ?_, ((Below.refl _ _).alloc (Nat.le_refl _) _).alloc (by rw [hs0]; omega) _⟩
  · show ((W.alloc _).heap.push _).size = _
    rw [Array.size_push, hs0]
  · rw [← hs0]
    exact heap_alloc_new _ _
/-- What the search comes to, at the window's place i. -/
def Best (zs : List Nat) (i : Nat) (W : World) (e : Ending) (w' : World) : Prop := ∃ n back : Nat, e = .returned (.agg #[.int .i64 (n : Int), .int .i64 (back : Int)]) ∧ Found zs i n back ∧ Below W.heap.size W w'
set_option maxHeartbeats 2000000 in
set_option maxRecDepth 100000 in
theorem match_code (g : Nat) (s t : Value) (zs st : List Nat) (i : Nat) (W : World) (hs : W.cell? ⟨g, 1, none⟩ = some s) (ht : W.cell? ⟨g, 3, none⟩ = some t) (hb : bytesIn W s zs) (hst : listed stepVal W t st) (h8 : ∀ x ∈ zs, x < 256) (hstep : Steps zs st) (hlen : st.length = zs.length - 2) (hi : i ≤ zs.length) (hl : zs.length ≤ 1099511627776) :
    Calls Try.prog 83 #[.pointer (some ⟨g, 1, none⟩), .int .i64 (i : Int)] W (Best zs i W) := by
  have HB := Lib.hid hb
  have H8 := Lib.hid h8
  have HS := Lib.hid hs
  have HT := Lib.hid ht
  have HST := Lib.hid hst
  have HSTEP := Lib.hid hstep
  obtain ⟨so, sc, rfl⟩ := listed_length hb
  obtain ⟨len, el⟩ : ∃ len, zs.length = len := ⟨_, rfl⟩
  have EL := Lib.hid el
  have HLEN := Lib.hid hlen
  rw [el] at HB hi hl hs HLEN HS
  have hgl : g < W.heap.size := World.block_lt_of_cell? W _ hs
  clear hb h8 hst hstep hlen ht el
  obtain ⟨w1, e1, hs1, hB0, hB1, hbl⟩ := two_blocks2 W 142 (.int .i64 0) (.int .i64 0) (.int .i64 0) (.int .i64 0)
  have hsub : (len : Int) - (i : Int) = ((len - i : Nat) : Int) := by omega
  obtain ⟨q, eq⟩ : ∃ q, len - i = q := ⟨_, rfl⟩
  have hmin := fun w => min_small 258 (q : Int) w
  have hif : (if (q : Int) < 258 then (q : Int) else 258) = ((min 258 q : Nat) : Int) := by split <;> omega
  rw [hif] at hmin
  clear hif
  obtain ⟨m, em⟩ : ∃ m, min 258 q = m := ⟨_, rfl⟩
  rw [em] at hmin
  rw [eq] at hsub
  have hqb : q ≤ 1099511627776 := by omega
  have hmq : m ≤ 258 ∧ m ≤ q ∧ (m = 258 ∨ m = q) := by omega
  obtain ⟨hm1, hm2, hm3⟩ := hmq
  have EQ := Lib.hid eq
  have HM3 := Lib.hid hm3
  have HB0 := Lib.hid hB0
  have HB1 := Lib.hid hB1
  have HBL := Lib.hid hbl
  have HS1 := Lib.hid hs1
  have p0 := cell_of_block hB0 0
  have p1 := cell_of_block hB0 1
  have r0 := cell_of_block hB1 0
  have r1 := cell_of_block hB1 1
  have f0 := unfrozen_of_block hB0 0
  have f1 := unfrozen_of_block hB0 1
  clear em eq hm3 hs1 hB0 hB1 hbl
  go_enter Try.func83, Try.ntmps83
  go_upto_region 3 with fail
  rw [← e1]
  clear e1 hmin hsub
  by_cases h3 : m < 3
  · have d3 : decide ((m : Int) < 3) = true := decide_eq_true (by omega)
    have HF := Lib.hid (Found.short zs i (by rw [EL.out]; exact hi) (by have := EL.out; have := EQ.out; have := HM3.out; omega))
    go_wp2_with fail
    refine bodyPost_ret (v := .agg #[.int .i64 ((0 : Nat) : Int), .int .i64 ((0 : Nat) : Int)]) ?_ rfl ⟨0, 0, rfl, HF.out, ?_⟩
    · simp [results, Try.results83, asAddr, Result.andThen, go_sem, p0, p1]
    · exact (HBL.out.setCell (p := ⟨W.heap.size, 0, none⟩) (Nat.le_refl _) _).setCell (p := ⟨W.heap.size, 1, none⟩) (Nat.le_refl _) _
  have d3 : decide ((m : Int) < 3) = false := decide_eq_false (by omega)
  have HI3 : Hid (i + 3 ≤ zs.length) := by
    show _ ≤ _
    have := EL.out
    have := EQ.out
    omega
  have HMOST : Hid (m = min 258 (zs.length - i)) := by
    show _ = _
    have := EL.out
    have := EQ.out
    have := HM3.out
    omega
  have hgw : w1.cell? ⟨g, 1, none⟩ = some (.slice so len sc) := (HBL.out.cell (p := ⟨g, 1, none⟩) hgl).trans hs
  clear hs
  go_upto_block 1 with fail
  clear p0 p1 r0 r1 f0 f1 hgw d3
  go_loopw [7, 8] (fun s7 s8 wr => ∃ n back fr d : Nat, s7 = .int .i64 (fr : Int) ∧ s8 = .int .i64 (d : Int) ∧ Hid (Seek zs i n back fr d) ∧ Hid (wr.heap[W.heap.size]? = some (.cells #[.int .i64 0, .int .i64 0] 142 (0, 0))) ∧ Hid (wr.heap[W.heap.size + 1]? = some (.cells #[.int .i64 (n : Int), .int .i64 (back : Int)] 142 (0, 0))) ∧ Hid (Below W.heap.size W wr)) (fun s7 s8 _ => (i + 300 - (intOf s7).toNat) * 40000 + (33000 - (intOf s8).toNat))
  case atStart => exact ⟨0, 0, i, 0, rfl, rfl, Seek.start zs i, HB0.out, HB1.out, HBL.out⟩
  case round =>
    obtain ⟨n, back, fr, d, rfl, rfl, hseek, hR, hB, hbl⟩ := hrel
    obtain ⟨hfi, hf3⟩ := hseek.out.fr_le HI3.out
    obtain ⟨hdm, _⟩ := hseek.out.same
    obtain ⟨j, ej⟩ : ∃ j, fr - d = j := ⟨_, rfl⟩
    have hfd : (fr : Int) - (d : Int) = (j : Int) := by omega
    obtain ⟨sv, es⟩ : ∃ x, st[fr - d]? = some x := ⟨st[fr - d]'(by have := HLEN.out; have := EL.out; omega), List.getElem?_eq_getElem _⟩
    have hsm := HSTEP.out.small _ _ es
    obtain ⟨tb, toff, tcap, rfl, hlt1, hc1⟩ := listed_cell HST.out (fr - d) sv es
    have HES := Lib.hid es
    rw [ej] at hc1
    unfold stepVal at hc1
    obtain ⟨tl, etl⟩ : ∃ x, st.length = x := ⟨_, rfl⟩
    rw [etl] at HT HST HLEN
    have hjl : j < tl := by have := HLEN.out; have := EL.out; omega
    have hfr2 : fr ≤ 1099511627776 := by have := EL.out; omega
    have c1 : wr.cell? ⟨g, 1, none⟩ = some (.slice so len sc) := (hbl.out.cell (p := ⟨g, 1, none⟩) hgl).trans HS.out
    have c3 : wr.cell? ⟨g, 3, none⟩ = some (.slice (some ⟨tb, toff, none⟩) tl tcap) := (hbl.out.cell (p := ⟨g, 3, none⟩) hgl).trans HT.out
    have cs : wr.cell? ⟨tb, toff + j, none⟩ = some (.int .i32 (sv : Int)) := (hbl.out.cell (p := ⟨tb, toff + j, none⟩) hlt1).trans hc1
    have p0 := cell_of_block hR.out 0
    have p1 := cell_of_block hR.out 1
    have r0 := cell_of_block hB.out 0
    have r1 := cell_of_block hB.out 1
    have f0 := unfrozen_of_block hR.out 0
    have f1 := unfrozen_of_block hR.out 1
    have g0 := unfrozen_of_block hB.out 0
    have g1 := unfrozen_of_block hB.out 1
    have hji : (j : Int) < (tl : Int) := by omega
    clear es hc1 ej etl
    by_cases hz : sv = 0
    · subst hz
      have HF := Lib.hid (hseek.out.over HSTEP.out HI3.out HES.out (.inl rfl))
      have z1 : ((((0 : Nat) : Int)) == 0) = true := rfl
      go_wp2_with fail
      refine bodyPost_ret (v := .agg #[.int .i64 (n : Int), .int .i64 (back : Int)]) ?_ rfl ⟨n, back, rfl, HF.out, ?_⟩
      · simp [results, Try.results83, asAddr, Result.andThen, go_sem, p0, p1]
      · exact (hbl.out.setCell (p := ⟨W.heap.size, 0, none⟩) (Nat.le_refl _) _).setCell (p := ⟨W.heap.size, 1, none⟩) (Nat.le_refl _) _
    · have z1 : ((sv : Int) == 0) = false := by simp; omega
      have z2 : decide ((sv : Int) = 0) = false := decide_eq_false (by omega)
      obtain ⟨D, eD⟩ : ∃ D, d + sv = D := ⟨_, rfl⟩
      have hds : (d : Int) + (sv : Int) = (D : Int) := by omega
      have hmin2 := fun w => min_small (i : Int) 32768 w
      have hif : (if (32768 : Int) < (i : Int) then (32768 : Int) else (i : Int)) = ((min i 32768 : Nat) : Int) := by split <;> omega
      rw [hif] at hmin2
      clear hif
      have HOVER : Hid (min i 32768 < D → Found zs i n back) := fun h => hseek.out.over HSTEP.out HI3.out HES.out (.inr (by omega))
      have HON : Hid (D ≤ min i 32768 → (D ≤ back ∨ sm zs i D ≤ n) → Seek zs i n back fr D) := fun h1 h2 => by
        have := hseek.out.on HSTEP.out HI3.out HES.out hz (by omega) (by rw [eD]; exact h2)
        rwa [eD] at this
      have HMO : Hid (D ≤ min i 32768 → n < sm zs i D → sm zs i D = m → Found zs i (sm zs i D) D) := fun h1 h2 h3 => by
        have := hseek.out.most HSTEP.out H8.out HI3.out HES.out hz (by omega) (by rw [eD]; exact h2) (by rw [eD, h3]; exact HMOST.out)
        rwa [eD] at this
      have HAG : Hid (D ≤ min i 32768 → n < sm zs i D → sm zs i D < m → 3 ≤ sm zs i D ∧ Seek zs i (sm zs i D) D (i + sm zs i D - 2) 0 ∧ fr < i + sm zs i D - 2) := fun h1 h2 h3 => by
        have h4 := hseek.out.again HSTEP.out H8.out HI3.out HES.out hz (by omega) (by rw [eD]; exact h2) (by rw [eD]; have := HMOST.out; omega)
        have h5 := (hseek.out.better HSTEP.out H8.out HI3.out HES.out hz (by omega) (by rw [eD]; exact h2)).1
        rw [eD] at h4 h5
        refine ⟨h5, h4, ?_⟩
        rcases hseek.out.at_ with ⟨rfl, rfl, rfl⟩ | ⟨a1, a2, a3, rfl, _⟩ <;> omega
      obtain ⟨M, eM⟩ : ∃ M, min i 32768 = M := ⟨_, rfl⟩
      rw [eM] at hmin2 HOVER HON HMO HAG hdm
      have hMi : M ≤ i ∧ M ≤ 32768 := by omega
      obtain ⟨hMi1, hMi2⟩ := hMi
      have hdD : d < D := by omega
      clear eD eM
      by_cases hov : M < D
      · have d1 : decide ((M : Int) < (D : Int)) = true := decide_eq_true (by omega)
        have d1n : decide (M < D) = true := decide_eq_true hov
        have HF := Lib.hid (HOVER.out hov)
        go_wp2_with fail
        refine bodyPost_ret (v := .agg #[.int .i64 (n : Int), .int .i64 (back : Int)]) ?_ rfl ⟨n, back, rfl, HF.out, ?_⟩
        · simp [results, Try.results83, asAddr, Result.andThen, go_sem, p0, p1]
        · exact (hbl.out.setCell (p := ⟨W.heap.size, 0, none⟩) (Nat.le_refl _) _).setCell (p := ⟨W.heap.size, 1, none⟩) (Nat.le_refl _) _
      · have d1 : decide ((M : Int) < (D : Int)) = false := decide_eq_false (by omega)
        have d1n : decide (M < D) = false := decide_eq_false hov
        by_cases hk : D ≤ back
        · have d2 : decide ((D : Int) ≤ (back : Int)) = true := decide_eq_true (by omega)
          have d2n : decide (D ≤ back) = true := decide_eq_true hk
          have HF := Lib.hid (HON.out (by omega) (.inl hk))
          go_wp2_with fail
          go_roundw
          case rel => exact ⟨n, back, fr, D, rfl, rfl, HF.out, hR, hB, hbl⟩
          case measure => simp [intOf]; omega
        · have d2 : decide ((D : Int) ≤ (back : Int)) = false := decide_eq_false (by omega)
          have d2n : decide (D ≤ back) = false := decide_eq_false hk
          have KS := same_code g (.slice so len sc) zs i D m wr c1 (listed_on HB.out hbl.out) H8.out (by omega) (by rw [EL.out]; omega) (by rw [EL.out]; omega) HMOST.out
          have hS := sm_le zs i D (by rw [EL.out]; omega)
          obtain ⟨S, eS⟩ : ∃ S, sm zs i D = S := ⟨_, rfl⟩
          rw [eS] at KS hS HON HMO HAG
          have hSm : S ≤ m := by have := HMOST.out; omega
          have hS258 : S ≤ 258 := hS.1
          clear hS eS
          go_wp2_with fail
          go_at_call 98
          refine KS.mono ?_
          rintro e w' ⟨rfl, k, rfl⟩
          by_cases hb : n < S
          · have d3 : decide ((n : Int) < (S : Int)) = true := decide_eq_true (by omega)
            have d3n : decide (n < S) = true := decide_eq_true hb
            by_cases hmo : S = m
            · subst hmo
              have HF := Lib.hid (HMO.out (by omega) hb rfl)
              go_wp2_with fail
              refine bodyPost_ret (v := .agg #[.int .i64 (S : Int), .int .i64 (D : Int)]) ?_ rfl ⟨S, D, rfl, HF.out, ?_⟩
              · simp [results, Try.results83, asAddr, Result.andThen, go_sem, p0, p1]
              · exact ((((below_drewN hbl.out k).setCell (p := ⟨W.heap.size + 1, 0, none⟩) (Nat.le_succ _) _).setCell (p := ⟨W.heap.size + 1, 1, none⟩) (Nat.le_succ _) _).setCell (p := ⟨W.heap.size, 0, none⟩) (Nat.le_refl _) _).setCell (p := ⟨W.heap.size, 1, none⟩) (Nat.le_refl _) _
            · have hnd1 : ((S : Int) == (m : Int)) = false := by simp; omega
              have hnd2 : decide ((S : Int) = (m : Int)) = false := decide_eq_false (by omega)
              obtain ⟨h3', hsk, hfr⟩ := HAG.out (by omega) hb (by omega)
              have HSK := Lib.hid hsk
              obtain ⟨F, eF⟩ : ∃ F, i + S - 2 = F := ⟨_, rfl⟩
              rw [eF] at HSK hfr
              have hF1 : (i : Int) + (S : Int) - 2 = (F : Int) := by omega
              have hF2 : F ≤ i + 258 := by omega
              have hblk : Hid (((wr.setCell ⟨W.heap.size + 1, 0, none⟩ (.int .i64 (S : Int))).setCell ⟨W.heap.size + 1, 1, none⟩ (.int .i64 (D : Int))).heap[W.heap.size + 1]? = some (.cells #[.int .i64 (S : Int), .int .i64 (D : Int)] 142 (0, 0))) := block_setCell (block_setCell hB.out _) _
              clear hsk eF
              go_wp2_with fail
              go_roundw
              case rel => exact ⟨S, D, F, 0, by go_num, rfl, HSK.out, (by show _ = _; rw [Below.heap_setCell _ _ _ _ (by show W.heap.size ≠ W.heap.size + 1; omega), Below.heap_setCell _ _ _ _ (by show W.heap.size ≠ W.heap.size + 1; omega)]; exact hR.out), hblk.out, ((below_drewN hbl.out k).setCell (p := ⟨W.heap.size + 1, 0, none⟩) (Nat.le_succ _) _).setCell (p := ⟨W.heap.size + 1, 1, none⟩) (Nat.le_succ _) _⟩
              case measure => simp [intOf]; omega
          · have d3 : decide ((n : Int) < (S : Int)) = false := decide_eq_false (by omega)
            have d3n : decide (n < S) = false := decide_eq_false hb
            have HF := Lib.hid (HON.out (by omega) (.inr (by omega)))
            go_wp2_with fail
            go_roundw
            case rel => exact ⟨n, back, fr, D, rfl, rfl, HF.out, hR.out, hB.out, below_drewN hbl.out k⟩
            case measure => simp [intOf]; omega
end Go.Proofs.Ytefdlidjdmlnaaa.Fx
namespace Go.Proofs.Ytefdlidjdmlnaaa.Fx
open Go Go.RowKit Go.Joins
set_option linter.unusedVariables false
/-- A byte, or a match, as the code has it: its length, and how far back it is (0: a byte). -/
def partOf (t : Tok) : Nat × Nat := if t.back = 0 then (1, 0) else (t.n, t.back)
def partCells (p : Nat × Nat) : List Value := [.int .i64 (p.1 : Int), .int .i64 (p.2 : Int)]
def partsCells (ps : List (Nat × Nat)) : List Value := ps.flatMap partCells
theorem partsCells_length (ps : List (Nat × Nat)) : (partsCells ps).length = ps.length * 2 := by
  unfold partsCells
  induction ps with
  | nil => rfl
  | cons t ts ih =>
    rw [List.flatMap_cons, List.length_append, ih, List.length_cons]
    simp [partCells]
    omega
theorem partsCells_snoc (ts : List (Nat × Nat)) (t : Nat × Nat) : partsCells (ts ++ [t]) = partsCells ts ++ partCells t := by
  unfold partsCells
  rw [List.flatMap_append]
  simp
theorem partsCells_at (ts : List (Nat × Nat)) (i : Nat) (t : Nat × Nat) (h : ts[i]? = some t) : (partsCells ts)[i * 2]? = some (.int .i64 (t.1 : Int)) ∧ (partsCells ts)[i * 2 + 1]? = some (.int .i64 (t.2 : Int)) := by
  induction ts generalizing i with
  | nil => simp at h
  | cons d ts ih =>
    have e : partsCells (d :: ts) = partCells d ++ partsCells ts := by
      unfold partsCells
      rw [List.flatMap_cons]
    have hl : (partCells d).length = 2 := rfl
    rw [e]
    cases i with
    | zero =>
      obtain rfl := Option.some.inj h
      exact ⟨rfl, rfl⟩
    | succ i =>
      obtain ⟨h1, h2⟩ := ih i (by simpa using h)
      refine ⟨?_, ?_⟩
      · rw [List.getElem?_append_right (by rw [hl]; omega), hl, show (i + 1) * 2 - 2 = i * 2 by omega]
        exact h1
      · rw [List.getElem?_append_right (by rw [hl]; omega), hl, show (i + 1) * 2 + 1 - 2 = i * 2 + 1 by omega]
        exact h2
/-- A slice's value that reads as these parts. -/
def partsIn (w : World) (v : Value) (ts : List (Nat × Nat)) : Prop :=
  (v = .slice none 0 0 ∧ ts = []) ∨ ∃ g cap, v = .slice (some ⟨g, 0, none⟩) ts.length cap ∧ g < w.heap.size ∧ ∀ i t, ts[i]? = some t → w.cell? ⟨g, i * 2, none⟩ = some (.int .i64 (t.1 : Int)) ∧ w.cell? ⟨g, i * 2 + 1, none⟩ = some (.int .i64 (t.2 : Int))
theorem partsIn_own {w : World} {base : Nat} {v : Value} {ts : List (Nat × Nat)} {e : TypeId} (h : w.ownsRow base e 2 v ts.length (partsCells ts)) : partsIn w v ts := by
  rcases h.2 with ⟨rfl, h0⟩ | ⟨g, cap, cur, rfl, _, hg, _⟩
  · exact .inl ⟨rfl, List.eq_nil_of_length_eq_zero h0⟩
  · refine .inr ⟨g, cap, rfl, (Array.getElem?_eq_some_iff.1 hg).1, fun i t hi => ?_⟩
    obtain ⟨h1, h2⟩ := partsCells_at ts i t hi
    have k1 := h.cells rfl _ _ h1
    have k2 := h.cells rfl _ _ h2
    rw [Addr.add_lit, Nat.zero_add] at k1 k2
    exact ⟨k1, k2⟩
theorem partsIn_keep {w w' : World} {v : Value} {ts : List (Nat × Nat)} (h : partsIn w v ts) (hs : w.heap.size ≤ w'.heap.size) (hb : ∀ b, inBlock v b → w'.heap[b]? = w.heap[b]?) : partsIn w' v ts := by
  rcases h with h | ⟨g, cap, rfl, hlt, hc⟩
  · exact .inl h
  · refine .inr ⟨g, cap, rfl, Nat.lt_of_lt_of_le hlt hs, fun i t hi => ?_⟩
    have hg := hb g ⟨0, ts.length, cap, rfl, by have := (List.getElem?_eq_some_iff.1 hi).1; omega⟩
    exact ⟨(World.cell?_of_block (w := w) (a := ⟨g, i * 2, none⟩) hg).trans (hc i t hi).1, (World.cell?_of_block (w := w) (a := ⟨g, i * 2 + 1, none⟩) hg).trans (hc i t hi).2⟩
theorem row2_any {w : World} {base : Nat} {e : TypeId} {v : Value} {n : Nat} {xs : List Value} (h : w.ownsRow base e 2 v n xs) : ∃ o cap, v = .slice o n cap := by
  rcases h.2 with ⟨rfl, rfl⟩ | ⟨g, cap, cur, rfl, _⟩
  · exact ⟨none, 0, rfl⟩
  · exact ⟨_, cap, rfl⟩
theorem own2_fresh {w : World} {base e : Nat} {v : Value} {n : Nat} {xs : List Value} (h : w.ownsRow base e 2 v n xs) (b : Nat) (hb : inBlock v b) : base ≤ b := by
  obtain ⟨off, m, cap, rfl, _⟩ := hb
  exact (h.lt b rfl).1
theorem new_cells2 (w : World) (xs : List Value) (ty : TypeId) (j : Nat) (u : Value) (h : xs[j]? = some u) : (w.alloc (.cells xs.toArray ty)).cell? ((⟨w.heap.size, 0, none⟩ : Addr).add j) = some u := by
  rw [Addr.add_lit, Nat.zero_add, World.cell?_alloc_mark]
  simp [h]
theorem new_cells3 (w : World) (o : Obj) (xs : List Value) (ty : TypeId) (j : Nat) (u : Value) (h : xs[j]? = some u) : ((w.alloc o).alloc (.cells xs.toArray ty)).cell? ((⟨w.heap.size + 1, 0, none⟩ : Addr).add j) = some u := by
  have e : (w.alloc o).heap.size = w.heap.size + 1 := by
    show (w.heap.push _).size = _
    simp
  rw [← e]
  exact new_cells2 (w.alloc o) xs ty j u h
/-- A box that was laid ahead of an append reads as it did. -/
theorem box_kept {w w3 : World} {x y : Value} {ty : TypeId} {o : Obj} {v : Value} (h : ((w.alloc (.cells #[x, y] ty)).alloc o).grownBy w3 v.ownBlock) (hv : ∀ q, v.ownBlock = some q → q < w.heap.size) : w3.cell? ⟨w.heap.size, 0, none⟩ = some x := by
  have e : (w.alloc (.cells #[x, y] ty)).heap.size = w.heap.size + 1 := by
    show (w.heap.push _).size = _
    simp
  have e2 : ((w.alloc (.cells #[x, y] ty)).alloc o).heap.size = w.heap.size + 2 := by
    show ((w.alloc (.cells #[x, y] ty)).heap.push _).size = _
    rw [Array.size_push, e]
  have hb := (h.block w.heap.size (by omega) (fun e => by have := hv _ e.symm; omega)).trans (alloc_old (heap_alloc_new w _))
  exact cell_of_block hb 0
/-- One part: how far it leads, and what stands for it. -/
def Next (zs : List Nat) (k : Nat) (p : Nat × Nat) : Prop := ∀ f : Nat, (toks zs zs.length (f + 1) k).map partOf = p :: (toks zs zs.length f (k + p.1)).map partOf
theorem next_byte (zs : List Nat) (k n back : Nat) (hk : k < zs.length) (h : Found zs k n back) (hn : n < 3) : Next zs k (1, 0) := by
  intro f
  rcases h.match_ with ⟨_, h2⟩ | ⟨h3, _⟩
  · rw [toks, if_pos hk, if_neg (by omega), List.map_cons]
    rfl
  · omega
theorem next_match (zs : List Nat) (k n back : Nat) (hk : k < zs.length) (h : Found zs k n back) (hn : ¬ n < 3) : Next zs k (n, back) ∧ k + n ≤ zs.length := by
  constructor
  · intro f
    rcases h.match_ with ⟨h1, _⟩ | ⟨h3, h4, h5, h6⟩
    · omega
    · rw [toks, if_pos hk, h6, if_pos h3, List.map_cons]
      unfold partOf
      simp only
      rw [if_neg (by omega), show k - (k - back) = back by omega]
  · rcases h with ⟨rfl, _⟩ | ⟨_, h1, h2, h3, _⟩
    · omega
    · have := sm_le zs k back (by omega)
      omega
set_option maxHeartbeats 2000000 in
set_option maxRecDepth 100000 in
theorem parts_code (g : Nat) (s t : Value) (zs st : List Nat) (a : Nat) (W : World) (hs : W.cell? ⟨g, 1, none⟩ = some s) (ht : W.cell? ⟨g, 3, none⟩ = some t) (hb : bytesIn W s zs) (hst : listed stepVal W t st) (h8 : ∀ x ∈ zs, x < 256) (hstep : Steps zs st) (hlen : st.length = zs.length - 2) (ha : a ≤ zs.length) (hl : zs.length ≤ 1000000) :
    Calls Try.prog 66 #[.pointer (some ⟨g, 1, none⟩), .int .i64 (a : Int)] W fun e w' => ∃ u, e = .returned u ∧ partsIn w' u ((tokens zs a zs.length).map partOf) ∧ (∀ b, inBlock u b → W.heap.size ≤ b) ∧ Below W.heap.size W w' := by
  have HB := Lib.hid hb
  have H8 := Lib.hid h8
  have HS := Lib.hid hs
  have HT := Lib.hid ht
  have HST := Lib.hid hst
  have HSTEP := Lib.hid hstep
  have HLEN := Lib.hid hlen
  obtain ⟨so, sc, rfl⟩ := listed_length hb
  obtain ⟨len, el⟩ : ∃ len, zs.length = len := ⟨_, rfl⟩
  have EL := Lib.hid el
  have hgl : g < W.heap.size := World.block_lt_of_cell? W _ hs
  obtain ⟨T, eT⟩ : ∃ T, (tokens zs a zs.length).map partOf = T := ⟨_, rfl⟩
  have HTT : Hid ([] ++ (toks zs zs.length (len - a) a).map partOf = T) := by
    show _ = _
    rw [← eT, ← el]
    rfl
  rw [eT]
  rw [el] at ha hl hs HS HB
  clear eT hb h8 ht hst hstep hlen hs el
  obtain ⟨i0, hi0, hz0, hz1, hz2⟩ := info_parts partInfo
  go_enter Try.func66, Try.ntmps66
  go_wp2_with fail
  go_loopw [5, 6] (fun s5 s6 wr => ∃ (k f : Nat) (ts : List (Nat × Nat)), k ≤ len ∧ a ≤ k ∧ len ≤ k + f ∧ ts.length ≤ k - a ∧ s6 = .int .i64 (k : Int) ∧ Hid (ts ++ (toks zs zs.length f k).map partOf = T) ∧ wr.ownsRow W.heap.size 142 2 s5 ts.length (partsCells ts) ∧ Below W.heap.size W wr) (fun _ s6 _ => len - (intOf s6).toNat)
  case atStart => exact ⟨a, len - a, [], ha, Nat.le_refl _, by omega, Nat.zero_le _, rfl, HTT, World.ownsRow_nil _ _ _ _, Below.refl _ _⟩
  case round =>
    obtain ⟨k, f, ts, hk, hak, hf, hts, rfl, hT, hown, hbl⟩ := hrel
    obtain ⟨oo, oc, rfl⟩ := row2_any hown
    have HOWN := Lib.hid hown
    have HBL := Lib.hid hbl
    obtain ⟨m, em⟩ : ∃ m, ts.length = m := ⟨_, rfl⟩
    rw [em] at HOWN hts ⊢
    have EM := Lib.hid em
    have hsz := hbl.size
    have c1 : wr.cell? ⟨g, 1, none⟩ = some (.slice so len sc) := (hbl.cell (p := ⟨g, 1, none⟩) hgl).trans HS.out
    clear hown hbl em
    by_cases hku : k < len
    · have d1 : decide ((k : Int) < (len : Int)) = true := decide_eq_true (by omega)
      have d1n : decide (k < len) = true := decide_eq_true hku
      obtain ⟨f', rfl⟩ : ∃ g, f = g + 1 := ⟨f - 1, by omega⟩
      have KM := match_code g (.slice so len sc) t zs st k wr c1 ((HBL.out.cell (p := ⟨g, 3, none⟩) hgl).trans HT.out) (listed_on HB.out HBL.out) (listed_on HST.out HBL.out) H8.out HSTEP.out HLEN.out (by rw [EL.out]; exact hk) (by rw [EL.out]; omega)
      go_wp2_with fail
      go_at_call 83
      refine KM.mono ?_
      rintro e w2 ⟨n, back, rfl, hfo, hb2⟩
      have HB2 := Lib.hid hb2
      have hs2 := hb2.size
      have hown2 : w2.ownsRow W.heap.size 142 2 (.slice oo m oc) m (partsCells ts) := HOWN.out.kept (row := none) ⟨hb2.os, hb2.tape, hb2.output, hb2.size, fun q hq _ => hb2.block q hq⟩ (by cases hv : (Value.slice oo m oc).ownBlock <;> simp)
      have HO2 := Lib.hid hown2
      have HFO := Lib.hid hfo
      obtain ⟨p, hp⟩ : ∃ p : Nat × Nat, (if n < 3 then (1, 0) else (n, back)) = p := ⟨_, rfl⟩
      have HN : Hid (Next zs k p ∧ k + p.1 ≤ len ∧ 1 ≤ p.1) := by
        show _ ∧ _
        rw [← EL.out, ← hp]
        by_cases h3 : n < 3
        · rw [if_pos h3]
          exact ⟨next_byte zs k n back (by rw [EL.out]; exact hku) hfo h3, by rw [EL.out]; simp only; omega, by simp⟩
        · rw [if_neg h3]
          obtain ⟨x1, x2⟩ := next_match zs k n back (by rw [EL.out]; exact hku) hfo h3
          exact ⟨x1, x2, by simp only; omega⟩
      have HG : Hid (∀ (w3 : World) (v' : Value), w3.ownsRow W.heap.size 142 2 v' (m + 1) (partsCells ts ++ partCells p) → w3.ownsRow W.heap.size 142 2 v' (ts ++ [p]).length (partsCells (ts ++ [p]))) := fun w3 v' h => by
        rw [partsCells_snoc, List.length_append, EM.out]
        exact h
      have HN2 : Hid ((ts ++ [p]) ++ (toks zs zs.length f' (k + p.1)).map partOf = T) := by
        show _ = _
        rw [← hT.out, HN.out.1 f', List.append_assoc]
        rfl
      clear hb2 KM hown2 hfo hT c1
      by_cases h3 : n < 3
      · have d3 : decide ((n : Int) < 3) = true := decide_eq_true (by omega)
        rw [if_pos h3] at hp
        subst hp
        go_wp2_with (at_builtin; refine wpList_append_own _ rfl _ _ 123 rfl W.heap.size 142 i0 (.agg #[.int .i64 0, .int .i64 0]) 2 16 Try.underlying123 hi0 hz0 hz1 hz2 rfl (by decide) (.slice oo m oc) m (partsCells ts) rfl ((HO2.out.alloc _).alloc _) ⟨w2.heap.size + 1, 0, none⟩ 1 1 (partCells (1, 0)) rfl rfl (fun j u hj => new_cells3 w2 _ (partCells (1, 0)) _ j u hj) (fun u hu => by simp [partCells] at hu; rcases hu with rfl | rfl <;> rfl) (by unfold maxLen; omega) (by omega) (by simp; omega) ?_)
        intro v' w3 hown3 hgrow _
        have HB3 := Lib.hid ((((HBL.out.trans (HB2.out.mono hsz)).alloc (by omega) _).alloc (by simp; omega) _).grown hgrow (by simp; omega) (fun q hq => (HOWN.out.lt q hq).1))
        have HO3 := Lib.hid (HG.out _ _ hown3)
        obtain ⟨hn1, hn2, hn3⟩ := HN.out
        have hbox := box_kept hgrow (fun q hq => (HO2.out.lt q hq).2)
        clear hown3 hgrow hn1
        go_wp2_with fail
        go_roundw
        case rel => exact ⟨k + 1, f', ts ++ [(1, 0)], by omega, by omega, by omega, by rw [List.length_append, EM.out]; simp only [List.length_singleton]; omega, by go_num, HN2, HO3.out, HB3.out⟩
        case measure => simp [intOf]; omega
      · have d3 : decide ((n : Int) < 3) = false := decide_eq_false (by omega)
        rw [if_neg h3] at hp
        subst hp
        go_wp2_with (at_builtin; refine wpList_append_own _ rfl _ _ 123 rfl W.heap.size 142 i0 (.agg #[.int .i64 0, .int .i64 0]) 2 16 Try.underlying123 hi0 hz0 hz1 hz2 rfl (by decide) (.slice oo m oc) m (partsCells ts) rfl ((HO2.out.alloc _).alloc _) ⟨w2.heap.size + 1, 0, none⟩ 1 1 (partCells (n, back)) rfl rfl (fun j u hj => new_cells3 w2 _ (partCells (n, back)) _ j u hj) (fun u hu => by simp [partCells] at hu; rcases hu with rfl | rfl <;> rfl) (by unfold maxLen; omega) (by omega) (by simp; omega) ?_)
        intro v' w3 hown3 hgrow _
        have HB3 := Lib.hid ((((HBL.out.trans (HB2.out.mono hsz)).alloc (by omega) _).alloc (by simp; omega) _).grown hgrow (by simp; omega) (fun q hq => (HOWN.out.lt q hq).1))
        have HO3 := Lib.hid (HG.out _ _ hown3)
        obtain ⟨hn1, hn2, hn3⟩ := HN.out
        have hbox := box_kept hgrow (fun q hq => (HO2.out.lt q hq).2)
        clear hown3 hgrow hn1
        go_wp2_with fail
        go_roundw
        case rel => exact ⟨k + n, f', ts ++ [(n, back)], by omega, by omega, by omega, by rw [List.length_append, EM.out]; simp only [List.length_singleton]; omega, by go_num, HN2, HO3.out, HB3.out⟩
        case measure => simp [intOf]; omega
    · have d1 : decide ((k : Int) < (len : Int)) = false := decide_eq_false (by omega)
      have d1n : decide (k < len) = false := decide_eq_false hku
      have HN : Hid (ts = T) := by
        have := hT.out
        show ts = T
        cases f with
        | zero => simpa [toks] using this
        | succ f =>
          rw [toks, if_neg (by rw [EL.out]; exact hku), List.map_nil, List.append_nil] at this
          exact this
      go_wp2_with fail
      all_goals go_ret
      all_goals exact ⟨_, rfl, by rw [← HN.out]; exact partsIn_own (by rw [EM.out]; exact HOWN.out), fun b hb => own2_fresh HOWN.out b hb, HBL.out⟩
end Go.Proofs.Ytefdlidjdmlnaaa.Fx
namespace Go.Proofs.Ytefdlidjdmlnaaa.Fx
open Go Go.RowKit Go.Joins
set_option linter.unusedVariables false
/-! ### Groups are the document's tables -/
theorem group_of (G k e m : Nat) (h1 : (k - G * e) * 2 ^ e ≤ m) (h2 : m < (k - G * e + 1) * 2 ^ e) (h3 : k - G * e < 2 * G) (h4 : e = 0 ∨ G ≤ k - G * e) (h5 : G * e ≤ k) : Extra G m e ∧ G * e + m / 2 ^ e = k ∧ m % 2 ^ e = m - (k - G * e) * 2 ^ e := by
  have hp : 0 < 2 ^ e := Nat.two_pow_pos _
  have hq : m / 2 ^ e = k - G * e := by
    refine Nat.div_eq_of_lt_le h1 ?_
    exact h2
  refine ⟨⟨by rw [hq]; exact h3, ?_⟩, by rw [hq]; omega, ?_⟩
  · rcases h4 with h4 | h4
    · exact .inl h4
    · rcases Nat.eq_zero_or_pos e with h0 | h0
      · exact .inl h0
      · refine .inr ?_
        have hs : 2 ^ e = 2 ^ (e - 1) * 2 := by rw [← Nat.pow_succ, show (e - 1).succ = e by omega]
        refine (Nat.le_div_iff_mul_le (Nat.two_pow_pos _)).2 ?_
        refine Nat.le_trans ?_ h1
        rw [hs]
        generalize 2 ^ (e - 1) = p at *
        calc 2 * G * p = G * (p * 2) := by rw [Nat.mul_comm 2 G, Nat.mul_assoc, Nat.mul_comm 2 p]
          _ ≤ (k - G * e) * (p * 2) := Nat.mul_le_mul_right _ h4
  · have := Nat.mod_add_div m (2 ^ e)
    rw [hq, Nat.mul_comm] at this
    omega
theorem lens_rows : (List.range 28).all (fun k => let e := lext.getD k 0; decide (lens.getD k 0 = (k - 4 * e) * 2 ^ e + 3) && decide (lens.getD (k + 1) 0 ≤ (k - 4 * e + 1) * 2 ^ e + 3) && decide (k - 4 * e < 8) && decide (e = 0 ∨ 4 ≤ k - 4 * e) && decide (4 * e ≤ k) && decide (e ≤ 20)) = true := by decide +kernel
theorem dists_rows : (List.range 30).all (fun k => let e := dext.getD k 0; decide (dists.getD k 0 = (k - 2 * e) * 2 ^ e + 1) && decide ((if k = 29 then 32769 else dists.getD (k + 1) 0) = (k - 2 * e + 1) * 2 ^ e + 1) && decide (k - 2 * e < 4) && decide (e = 0 ∨ 2 ≤ k - 2 * e) && decide (2 * e ≤ k) && decide (e ≤ 20)) = true := by decide +kernel
theorem len_code (n : Nat) (h3 : 3 ≤ n) (h257 : n ≤ 257) : ∃ e, e ≤ 20 ∧ Extra 4 (n - 3) e ∧ 4 * e + (n - 3) / 2 ^ e = find lens n ∧ (n - 3) % 2 ^ e = n - lens.getD (find lens n) 0 ∧ lext.getD (find lens n) 0 = e ∧ find lens n < 28 := by
  obtain ⟨h1, h2, h4⟩ := find_spec lens n (by decide) (by simpa [lens] using h3)
  generalize find lens n = k at *
  have hk : k < 28 := by
    have : lens.length = 29 := rfl
    rcases Nat.lt_or_ge k 28 with h | h
    · exact h
    · obtain rfl : k = 28 := by omega
      have : lens.getD 28 0 = 258 := rfl
      omega
  have h5 := h4 (by have : lens.length = 29 := rfl; omega)
  have hr := List.all_eq_true.1 lens_rows k (List.mem_range.2 hk)
  simp only [Bool.and_eq_true, decide_eq_true_eq] at hr
  obtain ⟨⟨⟨⟨⟨a1, a2⟩, a3⟩, a4⟩, a5⟩, a6⟩ := hr
  obtain ⟨b1, b2, b3⟩ := group_of 4 k (lext.getD k 0) (n - 3) (by omega) (by omega) (by omega) a4 a5
  exact ⟨_, a6, b1, b2, by rw [b3, a1]; omega, rfl, hk⟩
theorem dist_code (n : Nat) (h1 : 1 ≤ n) (h2 : n ≤ 32768) : ∃ e, e ≤ 20 ∧ Extra 2 (n - 1) e ∧ 2 * e + (n - 1) / 2 ^ e = find dists n ∧ (n - 1) % 2 ^ e = n - dists.getD (find dists n) 0 ∧ dext.getD (find dists n) 0 = e ∧ find dists n < 30 := by
  obtain ⟨k1, k2, k4⟩ := find_spec dists n (by decide) (by simpa [dists] using h1)
  generalize find dists n = k at *
  have hk : k < 30 := k1
  have hr := List.all_eq_true.1 dists_rows k (List.mem_range.2 hk)
  simp only [Bool.and_eq_true, decide_eq_true_eq] at hr
  obtain ⟨⟨⟨⟨⟨a1, a2⟩, a3⟩, a4⟩, a5⟩, a6⟩ := hr
  have h5 : n < (if k = 29 then 32769 else dists.getD (k + 1) 0) := by
    split
    · omega
    · exact k4 (by have : dists.length = 30 := rfl; omega)
  obtain ⟨b1, b2, b3⟩ := group_of 2 k (dext.getD k 0) (n - 1) (by omega) (by omega) (by omega) a4 a5
  exact ⟨_, a6, b1, b2, by rw [b3, a1]; omega, rfl, hk⟩
/-- The bits of a match. -/
def lenBits (n : Nat) : List Bool := fixedSym (257 + find lens n) ++ bitsOf (n - lens.getD (find lens n) 0) (lext.getD (find lens n) 0)
def backBits (d : Nat) : List Bool := turned (find dists d) 5 ++ bitsOf (d - dists.getD (find dists d) 0) (dext.getD (find dists d) 0)
/-- The bits of parts of bytes, and of the end. -/
def spelt : List Nat → List (Nat × Nat) → List Bool
  | _, [] => fixedSym 256
  | zs, p :: ps => (if p.2 = 0 then fixedSym (zs.getD 0 0) else lenBits p.1 ++ backBits p.2) ++ spelt (zs.drop p.1) ps
theorem spelt_toks (zs : List Nat) (up f a : Nat) (ht : up ≤ zs.length) : spelt (zs.drop a) ((toks zs up f a).map partOf) = (toks zs up f a).flatMap tokBits ++ fixedSym 256 := by
  induction f generalizing a with
  | zero => rfl
  | succ f ih =>
    unfold toks
    by_cases ha : a < up
    · rw [if_pos ha]
      by_cases h3 : 3 ≤ (matchOf zs a up).1
      · rw [if_pos h3]
        obtain ⟨_, h4, _⟩ := matchOf_spec zs a up (by omega)
        have hb : ¬ a - (matchOf zs a up).2 = 0 := by omega
        rw [List.map_cons, List.flatMap_cons]
        simp only [partOf, if_neg hb]
        rw [spelt]
        simp only [if_neg hb]
        rw [List.drop_drop, ih]
        unfold tokBits lenBits backBits
        simp only [if_neg hb, List.append_assoc]
      · rw [if_neg h3, List.map_cons, List.flatMap_cons]
        simp only [partOf, if_pos]
        rw [spelt]
        simp only [if_pos]
        rw [List.drop_drop, ih]
        have e : (zs.drop a).getD 0 0 = zs.getD a 0 := by rw [List.getD_eq_getElem?_getD, List.getD_eq_getElem?_getD, List.getElem?_drop, Nat.add_zero]
        rw [e]
        unfold tokBits
        simp only [if_pos, List.append_assoc]
    · rw [if_neg ha]
      rfl
/-! ### Whatever takes bits -/
/-- A closure that takes bits: what it has taken (I), in which blocks of its own. -/
structure Sink (F : Nat) (cp : Value) (I : World → List Bool → (Nat → Prop) → Prop) : Prop where
  enter : ∀ (args : Array Value) (w : World), (callFunc F args).run Try.prog w = .ok (.enter F args) w
  lt : ∀ w l O, I w l O → ∀ k, O k → k < w.heap.size
  keep : ∀ w w' l O, I w l O → w.heap.size ≤ w'.heap.size → (∀ k, k < w.heap.size → w'.heap[k]? = w.heap[k]?) → I w' l O
  put : ∀ w l O (n k : Nat), I w l O → l.length ≤ 1099511627776 - 64 → n < 2 ^ k → k ≤ 32 → Calls Try.prog F #[.int .u32 (n : Int), .int .i64 (k : Int), cp] w fun e w' => e = .returned (.tuple #[]) ∧ ∃ O', I w' (l ++ bitsOf n k) O' ∧ (∀ b, O' b → O b ∨ w.heap.size ≤ b) ∧ Past O w w'
/-- What counts bits, in the one cell of a block. -/
def isC (q : Nat) (w : World) (l : List Bool) (O : Nat → Prop) : Prop := w.heap[q]? = some (.cells #[.int .i64 (l.length : Int)] 3 (0, 0)) ∧ O = fun k => k = q
theorem past_setCell (w : World) (q o : Nat) (v : Value) : Past (fun k => k = q) w (w.setCell ⟨q, o, none⟩ v) := ⟨rfl, rfl, rfl, by simp, fun k hk hn => Below.heap_setCell _ _ _ k hn⟩
theorem count_sink (q : Nat) : Sink 68 (.pointer (some ⟨q, 0, none⟩)) (isC q) := by
  refine ⟨fun args w => by go_simp, ?_, ?_, ?_⟩
  · rintro w l O ⟨h, rfl⟩ k rfl
    exact (Array.getElem?_eq_some_iff.1 h).1
  · rintro w w' l O ⟨h, rfl⟩ hs hk
    exact ⟨(hk q (Array.getElem?_eq_some_iff.1 h).1).trans h, rfl⟩
  · rintro w l O n k ⟨h, rfl⟩ hl hn hk
    have H := Lib.hid h
    have q0 := cell_of_block h 0
    have f0 := unfrozen_of_block h 0
    obtain ⟨L, eL⟩ : ∃ L, l.length = L := ⟨_, rfl⟩
    have EL := Lib.hid eL
    rw [eL] at q0 hl
    clear h eL
    go_enter Try.func68, Try.ntmps68
    go_wp2_with fail
    refine bodyPost_end (v := .tuple #[]) (by simp [results, Try.results68, go_sem]) rfl ⟨rfl, _, ⟨?_, rfl⟩, fun b hb => .inl hb, past_setCell _ _ _ _⟩
    rw [List.length_append, bitsOf_length, EL.out]
    exact block_setCell H.out _
/-- What puts bits into the writer of a packer, whose place lies in a box. -/
def isP (q g : Nat) (v : Value) (t : Nat) (w : World) (l : List Bool) (O : Nat → Prop) : Prop :=
  w.cell? ⟨q, 0, none⟩ = some (.pointer (some ⟨g, 0, none⟩)) ∧ w.cell? ⟨g, 0, none⟩ = some v ∧ isW w v l t O ∧ ¬ O q ∧ ¬ O g
theorem bits_sink (q g : Nat) (v : Value) (t : Nat) : Sink 72 (.pointer (some ⟨q, 0, none⟩)) (isP q g v t) := by
  refine ⟨fun args w => by go_simp, ?_, ?_, ?_⟩
  · rintro w l O ⟨_, _, h, _, _⟩ k hk
    exact isW_lt _ _ _ _ _ h k hk
  · rintro w w' l O ⟨h1, h2, h3, h4, h5⟩ hs hk
    exact ⟨(World.cell?_of_block (w := w) (a := ⟨q, 0, none⟩) (hk q (World.block_lt_of_cell? w _ h1))).trans h1, (World.cell?_of_block (w := w) (a := ⟨g, 0, none⟩) (hk g (World.block_lt_of_cell? w _ h2))).trans h2, isW_keep _ _ _ _ _ _ h3 hs (fun k ho => hk k (isW_lt _ _ _ _ _ h3 k ho)), h4, h5⟩
  · rintro w l O n k ⟨h1, h2, h3, h4, h5⟩ hl hn hk
    have hq := World.block_lt_of_cell? w _ h1
    have hg := World.block_lt_of_cell? w _ h2
    have KP := put_code w v l t O n k h3 (by omega) hk hn
    have H1 := Lib.hid h1
    have H2 := Lib.hid h2
    clear h3 hl
    go_enter Try.func72, Try.ntmps72
    go_wp2_with fail
    go_at_call 69
    refine KP.mono ?_
    rintro e w' ⟨O', rfl, k1, k2, k3⟩
    clear h1 h2
    go_wp2_with fail
    refine bodyPost_end (v := .tuple #[]) (by simp [results, Try.results72, go_sem]) rfl ⟨rfl, O', ⟨?_, ?_, k1, fun h => ?_, fun h => ?_⟩, k2, k3⟩
    · exact (World.cell?_of_block (w := w) (a := ⟨q, 0, none⟩) (k3.block q hq h4)).trans H1.out
    · exact (World.cell?_of_block (w := w) (a := ⟨g, 0, none⟩) (k3.block g hg h5)).trans H2.out
    · rcases k2 q h with h | h
      · exact h4 h
      · omega
    · rcases k2 g h with h | h
      · exact h5 h
      · omega
/-- What a call of many puts leaves: the bits that came, in the same blocks or new ones. -/
def Took (I : World → List Bool → (Nat → Prop) → Prop) (w : World) (l : List Bool) (O : Nat → Prop) (e : Ending) (w' : World) : Prop := e = .returned (.tuple #[]) ∧ ∃ O', I w' l O' ∧ (∀ b, O' b → O b ∨ w.heap.size ≤ b) ∧ Past O w w'
theorem fixedSym_len (n : Nat) : (fixedSym n).length ≤ 9 := by
  unfold fixedSym
  split
  · rw [turned_length]; omega
  split
  · rw [turned_length]; omega
  split
  · rw [turned_length]; omega
  · rw [turned_length]; omega
theorem put_sym {F : Nat} {cp : Value} {I : World → List Bool → (Nat → Prop) → Prop} (hI : Sink F cp I) (w : World) (l : List Bool) (O : Nat → Prop) (n : Nat) (h : I w l O) (hl : l.length ≤ 1099511627776 - 64) :
    Calls Try.prog F #[.int .u32 (numOf (fixedSym n) : Nat), .int .i64 ((fixedSym n).length : Int), cp] w (Took I w (l ++ fixedSym n) O) := by
  have := hI.put w l O (numOf (fixedSym n)) (fixedSym n).length h hl (numOf_below _) (by have := fixedSym_len n; omega)
  rw [bitsOf_numOf] at this
  exact this
set_option maxHeartbeats 2000000 in
theorem spellLength_code {F : Nat} {cp : Value} {I : World → List Bool → (Nat → Prop) → Prop} (hI : Sink F cp I) (n c : Nat) (h3 : 3 ≤ n) (h258 : n ≤ 258) (W : World) (l : List Bool) (O : Nat → Prop) (h : I W l O) (hl : l.length ≤ 1099511627776 - 256) (hc : W.cell? ⟨c, 0, none⟩ = some (.int .i64 4)) (hO : ¬ O c) :
    Calls Try.prog 86 #[.int .i64 (n : Int), groupOf c, .func (Fn.func F) #[] #[cp]] W (Took I W (l ++ lenBits n) O) := by
  by_cases hn : n = 258
  · subst hn
    have e : lenBits 258 = fixedSym 285 := by
      unfold lenBits
      rw [show find lens 258 = 28 from rfl, show lext.getD 28 0 = 0 from rfl]
      exact List.append_nil _
    have KP := put_sym hI W l O 285 h (by omega)
    have hent := hI.enter
    rw [e]
    have KF := fixed_any 285 (by omega) W
    generalize numOf (fixedSym 285) = N at *
    generalize (fixedSym 285).length = K at *
    go_enter Try.func86, Try.ntmps86
    go_wp2_with fail
    go_at_call 85
    refine KF.mono ?_
    rintro e w' ⟨rfl, rfl⟩
    go_wp2_with fail
    refine KP.mono ?_
    rintro e w' ⟨rfl, hK⟩
    go_wp2_with fail
    exact bodyPost_ret (v := .tuple #[]) (by simp [results, Try.results86, go_sem]) rfl ⟨rfl, hK⟩
  · have hn1 : ((n : Int) == 258) = false := by simp; omega
    have hn2 : decide ((n : Int) = 258) = false := decide_eq_false (by omega)
    obtain ⟨e, he, hx, hcode, hrest, hext, h28⟩ := len_code n h3 (by omega)
    have KG := group_any 4 (n - 3) e c (by omega) (by omega) he hx W hc
    have hsub : (n : Int) - 3 = ((n - 3 : Nat) : Int) := by omega
    rw [hcode, hrest] at KG
    have hb1 : n - lens.getD (find lens n) 0 < 2 ^ e := by rw [← hrest]; exact Nat.mod_lt _ (Nat.two_pow_pos _)
    unfold lenBits
    rw [hext]
    generalize find lens n = k at *
    generalize n - lens.getD k 0 = r at *
    have KF := fun w => fixed_any (257 + k) (by omega) w
    have KP := fun w h => put_sym hI w l O (257 + k) h (by omega)
    have KP2 := fun w O h => hI.put w (l ++ fixedSym (257 + k)) O r e h (by rw [List.length_append]; have := fixedSym_len (257 + k); omega) hb1 (by omega)
    have hent := hI.enter
    obtain ⟨K, eK⟩ : ∃ K, 257 + k = K := ⟨_, rfl⟩
    rw [eK] at KF KP KP2 ⊢
    have hsum : 257 + (k : Int) = (K : Int) := by omega
    generalize numOf (fixedSym K) = N at *
    generalize (fixedSym K).length = M at *
    have KP := Lib.hid KP
    have KP2 := Lib.hid KP2
    obtain ⟨m3, em3⟩ : ∃ m, n - 3 = m := ⟨_, rfl⟩
    rw [em3] at hsub KG
    have hk32 : K ≤ 1000 := by omega
    have hkk : k ≤ 1000 := by omega
    clear hrest hext hb1 hcode hx eK em3
    unfold groupOf
    go_enter Try.func86, Try.ntmps86
    go_wp2_with fail
    refine KG.mono ?_
    rintro e w' ⟨rfl, kk, rfl⟩
    have HW := hI.keep W (W.drewN kk) l O h (Nat.le_refl _) (fun _ _ => rfl)
    go_wp2_with fail
    go_at_call 85
    refine (KF _).mono ?_
    rintro e w' ⟨rfl, rfl⟩
    go_wp2_with fail
    refine (KP.out _ HW).mono ?_
    rintro e w2 ⟨rfl, O2, i1, i2, i3⟩
    have K2 := KP2.out w2 O2 i1
    clear HW
    go_wp2_with fail
    refine K2.mono ?_
    rintro e w3 ⟨rfl, O3, j1, j2, j3⟩
    go_wp2_with fail
    rw [List.append_assoc] at j1
    exact bodyPost_end (v := .tuple #[]) (by simp [results, Try.results86, go_sem]) rfl ⟨rfl, O3, j1, fun b hb => (j2 b hb).elim (fun h => i2 b h) (fun h => .inr (Nat.le_trans i3.size h)), Past.trans (w := W) ⟨i3.os, i3.tape, i3.output, i3.size, i3.block⟩ j3 i2⟩
end Go.Proofs.Ytefdlidjdmlnaaa.Fx
namespace Go.Proofs.Ytefdlidjdmlnaaa.Fx
open Go Go.RowKit Go.Joins
set_option linter.unusedVariables false
section
variable {α : Type} {c : α → Value}
theorem addr_add_zero (a : Addr) : a.add 0 = a := by
  obtain ⟨b, o, sp⟩ := a
  cases sp <;> simp [Addr.add]
/-- A slice expression l[i:] of a list. -/
theorem listed_drop {P : Program} {t : TypeId} (ht : P.underlying t = some (.slice (P.elem t))) (he : ∀ w, (sizeOf (P.elem t)).run P w = .ok 1 w) {W : World} {v : Value} {zs : List α} (h : listed c W v zs) (i : Nat) (hi : i ≤ zs.length) :
    ∃ u, (∀ w, (Instr.slice t v (some (.int .i64 (i : Int))) none none).run P w = .ok u w) ∧ listed c W u (zs.drop i) ∧ ∀ b, inBlock u b → inBlock v b := by
  rcases h with ⟨⟨o, cap, rfl, ho⟩, rfl⟩ | ⟨b, off, cap, rfl, hlt, hle, hc⟩
  · obtain rfl : i = 0 := by simpa using hi
    refine ⟨.slice o 0 cap, fun w => ?_, .inl ⟨⟨o, cap, rfl, ho⟩, by simp⟩, fun b hb => hb⟩
    rw [run_slice_l w t o 0 cap ht .i64 ((0 : Nat) : Int) (by omega) (by omega), he]
    cases o <;> simp [sliced, Result.andThen, addr_add_zero]
  · have hlen : (zs.drop i).length = zs.length - i := List.length_drop ..
    by_cases hci : cap = i
    · subst hci
      have hn : cap = zs.length := by omega
      refine ⟨.slice (some ⟨b, off, none⟩) 0 0, fun w => ?_, .inl ⟨⟨_, 0, rfl, fun h => by cases h⟩, List.eq_nil_of_length_eq_zero (by omega)⟩, fun q hq => ?_⟩
      · rw [run_slice_l w t (some ⟨b, off, none⟩) zs.length cap ht .i64 cap (by omega) (by omega), he]
        simp [sliced, Result.andThen]
        omega
      · obtain ⟨_, _, _, h, h0⟩ := hq
        simp only [Value.slice.injEq] at h
        omega
    · refine ⟨.slice (some ⟨b, off + i, none⟩) (zs.length - i) (cap - i), fun w => ?_, .inr ⟨b, off + i, cap - i, by rw [hlen], hlt, by omega, fun k z hk => ?_⟩, fun q hq => ?_⟩
      · rw [run_slice_l w t (some ⟨b, off, none⟩) zs.length cap ht .i64 i (by omega) (by omega), he]
        have hadd : (⟨b, off, none⟩ : Addr).add i = ⟨b, off + i, none⟩ := by unfold Addr.add; split <;> simp_all
        simp [sliced, Result.andThen, hadd, hci]
      · rw [List.getElem?_drop] at hk
        rw [Nat.add_assoc]
        exact hc _ z hk
      · obtain ⟨o2, n2, c2, h, h0⟩ := hq
        simp only [Value.slice.injEq, Option.some.injEq, Addr.mk.injEq] at h
        obtain ⟨⟨rfl, _, _⟩, h2, _⟩ := h
        exact ⟨off, zs.length, cap, rfl, by omega⟩
/-- A slice expression l[:j] of a list. -/
theorem listed_take {P : Program} {t : TypeId} (ht : P.underlying t = some (.slice (P.elem t))) (he : ∀ w, (sizeOf (P.elem t)).run P w = .ok 1 w) {W : World} {v : Value} {zs : List α} (h : listed c W v zs) (j : Nat) (hj : j ≤ zs.length) :
    ∃ u, (∀ w, (Instr.slice t v none (some (.int .i64 (j : Int))) none).run P w = .ok u w) ∧ listed c W u (zs.take j) ∧ ∀ b, inBlock u b → inBlock v b := by
  rcases h with ⟨⟨o, cap, rfl, ho⟩, rfl⟩ | ⟨b, off, cap, rfl, hlt, hle, hc⟩
  · obtain rfl : j = 0 := by simpa using hj
    refine ⟨.slice o 0 cap, fun w => ?_, .inl ⟨⟨o, cap, rfl, ho⟩, by simp⟩, fun b hb => hb⟩
    rw [run_slice_h w t o 0 cap ht .i64 ((0 : Nat) : Int) (by omega) (by omega), he]
    cases o <;> simp [sliced, Result.andThen, addr_add_zero]
  · have hlen : (zs.take j).length = j := by rw [List.length_take]; omega
    refine ⟨.slice (some ⟨b, off, none⟩) j cap, fun w => ?_, .inr ⟨b, off, cap, by rw [hlen], hlt, by omega, fun k z hk => ?_⟩, fun q hq => ?_⟩
    · rw [run_slice_h w t (some ⟨b, off, none⟩) zs.length cap ht .i64 j (by omega) (by omega), he]
      simp [sliced, Result.andThen, addr_add_zero]
    · rw [List.getElem?_take] at hk
      split at hk
      · exact hc _ z hk
      · cases hk
    · obtain ⟨o2, n2, c2, h, h0⟩ := hq
      simp only [Value.slice.injEq, Option.some.injEq, Addr.mk.injEq] at h
      obtain ⟨⟨rfl, _, _⟩, h2, _⟩ := h
      exact ⟨off, zs.length, cap, rfl, by omega⟩
end
set_option maxRecDepth 100000 in
theorem bytes_type : Try.prog.underlying 36 = some (.slice (Try.prog.elem 36)) := Try.underlying36
set_option maxRecDepth 100000 in
theorem bytes_one (w : World) : (sizeOf (Try.prog.elem 36)).run Try.prog w = .ok 1 w := by rfl
/-- A part that may be. -/
def good (p : Nat × Nat) : Prop := (p.1 = 1 ∧ p.2 = 0) ∨ (3 ≤ p.1 ∧ p.1 ≤ 258 ∧ 1 ≤ p.2 ∧ p.2 ≤ 32768)
/-- Parts that stand for no more than n bytes. -/
def fits : Nat → List (Nat × Nat) → Prop
  | _, [] => True
  | n, p :: ps => p.1 ≤ n ∧ good p ∧ fits (n - p.1) ps
theorem fits_toks (zs : List Nat) (up f a : Nat) (ht : up ≤ zs.length) : fits (up - a) ((toks zs up f a).map partOf) := by
  induction f generalizing a with
  | zero => trivial
  | succ f ih =>
    unfold toks
    by_cases ha : a < up
    · rw [if_pos ha]
      by_cases h3 : 3 ≤ (matchOf zs a up).1
      · rw [if_pos h3]
        obtain ⟨h1, h4, h5, h6, _⟩ := matchOf_spec zs a up (by omega)
        have hb : ¬ a - (matchOf zs a up).2 = 0 := by omega
        rw [List.map_cons]
        simp only [partOf, if_neg hb]
        refine ⟨by simp only; omega, .inr ⟨h3, h1, by simp only; omega, by simp only; omega⟩, ?_⟩
        simp only
        rw [Nat.sub_sub]
        exact ih _
      · rw [if_neg h3, List.map_cons]
        simp only [partOf, if_pos]
        refine ⟨by simp only; omega, .inl ⟨rfl, rfl⟩, ?_⟩
        simp only
        rw [Nat.sub_sub]
        exact ih _
    · rw [if_neg ha]
      trivial
theorem two_new1 (W : World) (ty : TypeId) (x y : Value) : ∃ w1, w1 = (W.alloc (.cells #[x] ty)).alloc (.cells #[y] ty) ∧ w1.heap.size = W.heap.size + 2 ∧ w1.heap[W.heap.size]? = some (.cells #[x] ty (0, 0)) ∧ w1.heap[W.heap.size + 1]? = some (.cells #[y] ty (0, 0)) ∧ Below W.heap.size W w1 := by
  have hs0 : (W.alloc (.cells #[x] ty)).heap.size = W.heap.size + 1 := by
    show (W.heap.push _).size = _
    simp
  refine ⟨_, rfl, ?_, alloc_old (heap_alloc_new W _), ?_, ((Below.refl _ _).alloc (Nat.le_refl _) _).alloc (by rw [hs0]; omega) _⟩
  · show ((W.alloc _).heap.push _).size = _
    rw [Array.size_push, hs0]
  · rw [← hs0]
    exact heap_alloc_new _ _
/-- What holds after some of a block's parts: T is what is to come to in all. -/
structure Some (I : World → List Bool → (Nat → Prop) → Prop) (O : Nat → Prop) (B : Nat) (W2 : World) (T : List Bool) (ps : List (Nat × Nat)) (k : Nat) (v : Value) (wr : World) (zs : List Nat) (l : List Bool) (O' : Nat → Prop) : Prop where
  row : bytesIn wr v zs
  apart : ∀ b, inBlock v b → b < B ∧ ¬ O b
  fit : fits zs.length (ps.drop k)
  took : I wr l O'
  whole : l ++ spelt zs (ps.drop k) = T
  own : ∀ b, O' b → O b ∨ W2.heap.size ≤ b
  past : Past O W2 wr
theorem Some.at_ {I : World → List Bool → (Nat → Prop) → Prop} {O : Nat → Prop} {B : Nat} {W2 : World} {T : List Bool} {ps : List (Nat × Nat)} {k : Nat} {v : Value} {wr : World} {zs : List Nat} {l : List Bool} {O' : Nat → Prop} (h : Some I O B W2 T ps k v wr zs l O') (p : Nat × Nat) (hp : ps[k]? = some p) :
    p.1 ≤ zs.length ∧ good p ∧ fits (zs.drop p.1).length (ps.drop (k + 1)) ∧ (l ++ (if p.2 = 0 then fixedSym (zs.getD 0 0) else lenBits p.1 ++ backBits p.2)) ++ spelt (zs.drop p.1) (ps.drop (k + 1)) = T := by
  have hk := (List.getElem?_eq_some_iff.1 hp).1
  have e : ps.drop k = p :: ps.drop (k + 1) := by
    rw [List.drop_eq_getElem_cons hk, (List.getElem?_eq_some_iff.1 hp).2]
  have hf := h.fit
  have hw := h.whole
  rw [e] at hf hw
  obtain ⟨h1, h2, h3⟩ := hf
  rw [spelt] at hw
  exact ⟨h1, h2, by rw [List.length_drop]; exact h3, by rw [List.append_assoc]; exact hw⟩
/-- The last of it: the end's code alone is left. -/
theorem Some.last {I : World → List Bool → (Nat → Prop) → Prop} {O : Nat → Prop} {B : Nat} {W2 : World} {T : List Bool} {ps : List (Nat × Nat)} {k : Nat} {v : Value} {wr : World} {zs : List Nat} {l : List Bool} {O' : Nat → Prop} (h : Some I O B W2 T ps k v wr zs l O') (hk : ps.length ≤ k) : l ++ fixedSym 256 = T := by
  have hw := h.whole
  rw [List.drop_of_length_le hk] at hw
  exact hw
theorem Some.short {I : World → List Bool → (Nat → Prop) → Prop} {O : Nat → Prop} {B : Nat} {W2 : World} {T : List Bool} {ps : List (Nat × Nat)} {k : Nat} {v : Value} {wr : World} {zs : List Nat} {l : List Bool} {O' : Nat → Prop} (h : Some I O B W2 T ps k v wr zs l O') : l.length ≤ T.length := by
  rw [← h.whole, List.length_append]
  omega
set_option maxHeartbeats 4000000 in
set_option maxRecDepth 100000 in
theorem spell_code {F : Nat} {cp : Value} {I : World → List Bool → (Nat → Prop) → Prop} (hI : Sink F cp I) (bv pv : Value) (zs : List Nat) (ps : List (Nat × Nat)) (W : World) (l : List Bool) (O : Nat → Prop) (h : I W l O) (hb : bytesIn W bv zs) (h8 : ∀ x ∈ zs, x < 256) (hp : partsIn W pv ps) (hbO : ∀ b, inBlock bv b → ¬ O b) (hpO : ∀ b, inBlock pv b → ¬ O b) (hf : fits zs.length ps) (hz : zs.length ≤ 1099511627776) (hps : ps.length ≤ 1099511627776) (hl : (l ++ spelt zs ps).length ≤ 1099511627776 - 512) :
    Calls Try.prog 67 #[bv, pv, .func (Fn.func F) #[] #[cp]] W (Took I W (l ++ spelt zs ps) O) := by
  obtain ⟨T, eT⟩ : ∃ T, l ++ spelt zs ps = T := ⟨_, rfl⟩
  obtain ⟨po, pc, epv⟩ : ∃ o c, pv = .slice o ps.length c := by
    rcases hp with ⟨rfl, rfl⟩ | ⟨g, c, rfl, _⟩
    · exact ⟨none, 0, rfl⟩
    · exact ⟨_, c, rfl⟩
  rw [eT] at hl ⊢
  obtain ⟨w1, e1, hs1, hB0, hB1, hbl⟩ := two_new1 W 3 (.int .i64 4) (.int .i64 2)
  have hOlt := hI.lt W l O h
  have HI0 : Hid (Some I O W.heap.size w1 T ps 0 bv w1 zs l O) := ⟨listed_on hb hbl, fun b hb' => ⟨by
    obtain ⟨off, n, cap, e, hn⟩ := hb'
    rcases hb with ⟨⟨o, c', h, _⟩, _⟩ | ⟨b', off', cap', h, hlt, _⟩
    · rw [h] at e
      simp only [Value.slice.injEq] at e
      omega
    · rw [h] at e
      simp only [Value.slice.injEq, Option.some.injEq, Addr.mk.injEq] at e
      obtain ⟨⟨rfl, _⟩, _⟩ := e
      exact hlt, hbO b hb'⟩, hf, hI.keep _ _ _ _ h hbl.size (fun k hk => hbl.block k hk), eT, fun b hb => .inl hb, Past.refl _ _⟩
  have H8 := Lib.hid h8
  have HP := Lib.hid hp
  have HPO := Lib.hid hpO
  have HOLT := Lib.hid hOlt
  have HBL := Lib.hid hbl
  have HS1 := Lib.hid hs1
  have HB0 := Lib.hid hB0
  have HB1 := Lib.hid hB1
  have hent := hI.enter
  subst epv
  obtain ⟨N, eN⟩ : ∃ N, ps.length = N := ⟨_, rfl⟩
  have EN := Lib.hid eN
  rw [eN] at HP HPO hps ⊢
  clear h hb h8 hp hbO hpO hf hOlt hs1 hB0 hB1 hbl eT eN
  go_enter Try.func67, Try.ntmps67
  go_wp2_with (first | (go_at_call 84; refine (grouped_any _ _).mono ?_; rintro e w' ⟨rfl, rfl⟩))
  unfold groupOf
  rw [← e1]
  clear e1
  go_loopw [0, 17] (fun s0 s17 wr => ∃ (k : Nat) (zs' : List Nat) (l' : List Bool) (O' : Nat → Prop), k ≤ N ∧ s17 = .int .i64 (k : Int) ∧ Hid (∀ x ∈ zs', x < 256) ∧ zs'.length ≤ 1099511627776 ∧ Hid (Some I O W.heap.size w1 T ps k s0 wr zs' l' O')) (fun _ s17 _ => N - (intOf s17).toNat)
  case atStart => exact ⟨0, zs, l, O, Nat.zero_le _, rfl, H8, hz, HI0⟩
  case round =>
    obtain ⟨k, zs', l', O', hk, rfl, H8', hz', HI'⟩ := hrel
    have hsh : l'.length ≤ 1099511627776 - 512 := Nat.le_trans HI'.out.short hl
    have hnO : Hid (∀ b, b < w1.heap.size → ¬ O b → ¬ O' b) := fun b hb hn ho => (HI'.out.own b ho).elim hn (fun h => by omega)
    by_cases hlt : k < N
    · have d1 : decide ((k : Int) < (N : Int)) = true := decide_eq_true (by omega)
      have d1n : decide (k < N) = true := decide_eq_true hlt
      obtain ⟨p, ep⟩ : ∃ p, ps[k]? = some p := ⟨ps[k]'(by rw [EN.out]; exact hlt), List.getElem?_eq_getElem _⟩
      obtain ⟨hfit, hgood, hfits, hwhole⟩ := HI'.out.at_ p ep
      obtain ⟨pg, epo, hpg, hpc⟩ : ∃ pg, po = some ⟨pg, 0, none⟩ ∧ (pg < W.heap.size ∧ ¬ O pg) ∧ (W.cell? ⟨pg, k * 2, none⟩ = some (.int .i64 (p.1 : Int)) ∧ W.cell? ⟨pg, k * 2 + 1, none⟩ = some (.int .i64 (p.2 : Int))) := by
        rcases HP.out with ⟨_, h⟩ | ⟨g, c, h, hg, hc⟩
        · rw [h] at ep; simp at ep
        · rw [EN.out] at h
          simp only [Value.slice.injEq] at h
          obtain ⟨rfl, _, rfl⟩ := h
          exact ⟨g, rfl, ⟨hg, HPO.out g ⟨0, N, pc, rfl, by omega⟩⟩, hc k p ep⟩
      subst epo
      have hq := (HI'.out.past.block pg (by have := HS1.out; omega) hpg.2).trans (HBL.out.block pg hpg.1)
      have c0 : wr.cell? ⟨pg, k * 2, none⟩ = some (.int .i64 (p.1 : Int)) := (World.cell?_of_block (w := W) (a := ⟨pg, k * 2, none⟩) hq).trans hpc.1
      have c1 : wr.cell? ⟨pg, k * 2 + 1, none⟩ = some (.int .i64 (p.2 : Int)) := (World.cell?_of_block (w := W) (a := ⟨pg, k * 2 + 1, none⟩) hq).trans hpc.2
      obtain ⟨n, d⟩ := p
      simp only at c0 c1 hfit hfits hwhole
      obtain ⟨u, hsl, hu, hub⟩ := listed_drop bytes_type bytes_one HI'.out.row n hfit
      have HU := Lib.hid hu
      have HUB := Lib.hid hub
      have HFITS := Lib.hid hfits
      have HWHOLE := Lib.hid hwhole
      have HROW := Lib.hid HI'.out.row
      have hx : Hid (∀ x ∈ zs'.drop n, x < 256) := fun x hx => H8'.out x (List.mem_of_mem_drop hx)
      have hzd : (zs'.drop n).length ≤ 1099511627776 := by rw [List.length_drop]; omega
      obtain ⟨wa, ewa⟩ : ∃ wa, wa = wr.alloc (.cells #[.int .i64 (n : Int), .int .i64 (d : Int)] 142) := ⟨_, rfl⟩
      have hbox : wa.heap[wr.heap.size]? = some (.cells #[.int .i64 (n : Int), .int .i64 (d : Int)] 142 (0, 0)) := by rw [ewa]; exact heap_alloc_new wr _
      have hba : Below wr.heap.size wr wa := by rw [ewa]; exact (Below.refl _ _).alloc (Nat.le_refl _) _
      have hsa : wa.heap.size = wr.heap.size + 1 := by rw [ewa]; show (wr.heap.push _).size = _; simp
      have HIA := hI.keep wr wa l' O' HI'.out.took hba.size (fun k hk => hba.block k hk)
      have hboxO : ¬ O' wr.heap.size := fun h => by have := hI.lt _ _ _ HI'.out.took _ h; omega
      have q0 := cell_of_block hbox 0
      have q1 := cell_of_block hbox 1
      -- what holds once this part's bits are taken
      have HEND : Hid (∀ w3 l3 O3, I w3 l3 O3 → (∀ b, O3 b → O' b ∨ wa.heap.size ≤ b) → Past O' wa w3 → l3 = l' ++ (if d = 0 then fixedSym (zs'.getD 0 0) else lenBits n ++ backBits d) → Some I O W.heap.size w1 T ps (k + 1) u w3 (zs'.drop n) l3 O3) := fun w3 l3 O3 i1 i2 i3 e3 => by
        have hpw : Past O w1 w3 := HI'.out.past.trans (Past.trans (Past.of_below hba : Past O' wr wa) i3 (fun b hb => .inl hb)) HI'.out.own
        refine ⟨listed_past (listed_on HU.out hba) i3 (fun b hb ho => ?_), fun b hb => HI'.out.apart b (HUB.out b hb), HFITS.out, i1, by rw [e3]; exact HWHOLE.out, fun b hb => ?_, hpw⟩
        · obtain ⟨a1, a2⟩ := HI'.out.apart b (HUB.out b hb)
          exact hnO.out b (by have := HS1.out; omega) a2 ho
        · rcases i2 b hb with h | h
          · exact HI'.out.own b h
          · exact .inr (by have := HI'.out.past.size; omega)
      have HBOX := Lib.hid hbox
      have HBOXO := Lib.hid hboxO
      clear hu hub hfits hwhole ep hpc hq
      go_upto_region 4 with fail
      rw [← ewa]
      clear ewa c0 c1
      by_cases hd : d = 0
      · have hn1 : n = 1 := by rcases hgood with h | h <;> simp at h <;> omega
        obtain ⟨x, ex⟩ : ∃ x, zs'[0]? = some x := ⟨zs'[0]'(by omega), List.getElem?_eq_getElem _⟩
        have hx8 := H8'.out x (List.mem_of_getElem? ex)
        have hgd : zs'.getD 0 0 = x := by rw [List.getD_eq_getElem?_getD, ex]; rfl
        obtain ⟨b, off, cap, rfl, hblt, hcell⟩ := listed_cell HROW.out 0 x ex
        unfold byteVal at hcell
        have hc0 : wa.cell? ⟨b, off, none⟩ = some (.int .u8 (x : Int)) := (hba.cell (p := ⟨b, off, none⟩) hblt).trans hcell
        rw [if_pos hd, hgd] at HEND
        have KF := fun w => fixed_any x (by omega) w
        have KP := put_sym hI wa l' O' x HIA (by omega)
        have hzp : 0 < zs'.length := by omega
        have HM := Lib.hid hzd
        obtain ⟨Z, eZ⟩ : ∃ Z, zs'.length = Z := ⟨_, rfl⟩
        rw [eZ] at hsl hzp ⊢
        generalize numOf (fixedSym x) = A at *
        generalize (fixedSym x).length = M at *
        have z1 : ((d : Int) == 0) = true := by simp; omega
        have z2 : decide ((d : Int) = 0) = true := decide_eq_true (by omega)
        have HZ := Lib.hid eZ
        clear ex hcell hgood HIA hd hn1 hzd eZ
        go_wp2_with fail
        go_at_call 85
        refine (KF _).mono ?_
        rintro e w' ⟨rfl, rfl⟩
        go_wp2_with fail
        refine KP.mono ?_
        rintro e w3 ⟨rfl, O3, i1, i2, i3⟩
        have hb3 := (i3.block wr.heap.size (by omega) HBOXO.out).trans HBOX.out
        have HE := Lib.hid (HEND.out w3 _ O3 i1 i2 i3 rfl)
        clear q0 q1
        have q0 := cell_of_block hb3 0
        clear hb3 i1 i2 i3
        go_wp2_with fail
        go_roundw
        case rel => exact ⟨k + 1, zs'.drop n, _, O3, by omega, by go_num, hx, HM.out, HE⟩
        case measure => simp [intOf]; omega
      · obtain ⟨h3, h258, hd1, hd2⟩ : 3 ≤ n ∧ n ≤ 258 ∧ 1 ≤ d ∧ d ≤ 32768 := by rcases hgood with h | h <;> simp at h <;> omega
        have z1 : ((d : Int) == 0) = false := by simp; omega
        have z2 : decide ((d : Int) = 0) = false := decide_eq_false (by omega)
        rw [if_neg hd] at HEND
        have hsz := HS1.out
        have gO0 : ¬ O W.heap.size := fun h => by have := HOLT.out _ h; omega
        have gO1 : ¬ O (W.heap.size + 1) := fun h => by have := HOLT.out _ h; omega
        have hg0 := (hba.block W.heap.size (by have := HI'.out.past.size; omega)).trans ((HI'.out.past.block W.heap.size (by omega) gO0).trans HB0.out)
        have hg1 := (hba.block (W.heap.size + 1) (by have := HI'.out.past.size; omega)).trans ((HI'.out.past.block (W.heap.size + 1) (by omega) gO1).trans HB1.out)
        have hpz := HI'.out.past.size
        have KS := spellLength_code hI n W.heap.size h3 h258 wa l' O' HIA (by omega) (cell_of_block hg0 0) (hnO.out _ (by omega) gO0)
        unfold groupOf at KS
        have hlen : (lenBits n).length ≤ 29 := by
          obtain h | h : n ≤ 257 ∨ n = 258 := by omega
          · obtain ⟨e, he, _, _, _, hext, _⟩ := len_code n h3 h
            unfold lenBits
            rw [List.length_append, bitsOf_length, hext]
            have := fixedSym_len (257 + find lens n)
            omega
          · subst h
            exact (by decide : (lenBits 258).length ≤ 29)
        obtain ⟨e, he, hex, hcode, hrest, hext, h30⟩ := dist_code d hd1 hd2
        have hr2 : d - dists.getD (find dists d) 0 < 2 ^ e := by rw [← hrest]; exact Nat.mod_lt _ (Nat.two_pow_pos _)
        have hbk : backBits d = turned (find dists d) 5 ++ bitsOf (d - dists.getD (find dists d) 0) e := by unfold backBits; rw [hext]
        rw [hbk] at HEND
        have KG := fun w hc => group_any 2 (d - 1) e (W.heap.size + 1) (by omega) (by omega) he hex w hc
        rw [hcode, hrest] at KG
        obtain ⟨cd, ecd⟩ : ∃ c, find dists d = c := ⟨_, rfl⟩
        obtain ⟨r, er⟩ : ∃ c, d - dists.getD (find dists d) 0 = c := ⟨_, rfl⟩
        rw [er] at KG hr2 HEND
        rw [ecd] at KG HEND h30
        have KH := fun w => high_any cd 5 (.inl rfl) (by omega) w
        have hsub : (d : Int) - 1 = ((d - 1 : Nat) : Int) := by omega
        obtain ⟨m, em⟩ : ∃ m, d - 1 = m := ⟨_, rfl⟩
        rw [em] at hsub KG
        have KP5 : Hid (∀ w lx Ox, I w lx Ox → lx.length ≤ 1099511627776 - 64 → Calls Try.prog F #[.int .u32 (highOf cd 5 : Nat), .int .i64 5, cp] w (Took I w (lx ++ turned cd 5) Ox)) := fun w lx Ox h hlx => by
          have := hI.put w lx Ox (highOf cd 5) 5 h hlx (by have := numOf_below (turned cd 5); rw [turned_length] at this; exact this) (by omega)
          have e5 : bitsOf (highOf cd 5) 5 = turned cd 5 := by
            have := bitsOf_numOf (turned cd 5)
            rw [turned_length] at this
            exact this
          rw [e5] at this
          exact this
        have KPE : Hid (∀ w lx Ox, I w lx Ox → lx.length ≤ 1099511627776 - 64 → Calls Try.prog F #[.int .u32 (r : Int), .int .i64 (e : Int), cp] w (Took I w (lx ++ bitsOf r e) Ox)) := fun w lx Ox h hlx => hI.put w lx Ox r e h hlx hr2 (by omega)
        have KG := Lib.hid KG
        have HKEEP := Lib.hid hI.keep
        have HG1 := Lib.hid hg1
        have HLEN := Lib.hid hlen
        obtain ⟨Z, eZ⟩ : ∃ Z, zs'.length = Z := ⟨_, rfl⟩
        have HM := Lib.hid hzd
        obtain ⟨vo, vc, rfl⟩ := listed_length HROW.out
        rw [eZ] at hsl ⊢
        have HZ := Lib.hid eZ
        obtain ⟨H5, eH5⟩ : ∃ x, highOf cd 5 = x := ⟨_, rfl⟩
        rw [eH5] at KH KP5
        have hgO1 := hnO.out (W.heap.size + 1) (by omega) gO1
        clear hgood HIA hd hzd hg0 hg1 gO0 gO1 hcode hrest hext hbk hex ecd er em eZ hlen hr2 eH5
        go_wp2_with fail
        go_at_call 86
        refine KS.mono ?_
        rintro e1 w2 ⟨rfl, O2, i1, i2, i3⟩
        clear KS
        have hsz2 := i3.size
        have hc2 : w2.cell? ⟨W.heap.size + 1, 0, none⟩ = some (.int .i64 2) := cell_of_block ((i3.block (W.heap.size + 1) (by omega) hgO1).trans HG1.out) 0
        have hb2 := (i3.block wr.heap.size (by omega) HBOXO.out).trans HBOX.out
        have hbO2 : ¬ O2 wr.heap.size := fun h => (i2 _ h).elim HBOXO.out (fun h => by omega)
        have HB2 := Lib.hid hb2
        have HBO2 := Lib.hid hbO2
        have I1 := Lib.hid i1
        have I2 := Lib.hid i2
        have I3 := Lib.hid i3
        clear q0 q1
        have q0 := cell_of_block hb2 0
        have q1 := cell_of_block hb2 1
        clear hb2 hbO2 i1 i2 i3
        go_wp2_with fail
        refine (KG.out _ hc2).mono ?_
        rintro e1 w' ⟨rfl, kk, rfl⟩
        go_wp2_with fail
        go_at_call 87
        refine (KH _).mono ?_
        rintro e1 w' ⟨rfl, rfl⟩
        go_wp2_with fail
        refine (KP5.out _ _ _ (HKEEP.out _ (w2.drewN kk) _ _ I1.out (Nat.le_refl _) (fun _ _ => rfl)) (by rw [List.length_append]; have := HLEN.out; omega)).mono ?_
        rintro e1 w4 ⟨rfl, O4, j1, j2, j3⟩
        have J1 := Lib.hid j1
        have J2 := Lib.hid j2
        have J3 : Hid (Past O2 w2 w4) := ⟨j3.os, j3.tape, j3.output, j3.size, j3.block⟩
        clear j1 j2 j3
        go_wp2_with fail
        refine (KPE.out _ _ _ J1.out (by rw [List.length_append, List.length_append, turned_length]; have := HLEN.out; omega)).mono ?_
        rintro e1 w5 ⟨rfl, O5, k1, k2, k3⟩
        have hp5 : Past O2 w2 w5 := J3.out.trans k3 J2.out
        have ho5 : ∀ b, O5 b → O2 b ∨ w2.heap.size ≤ b := fun b hb => (k2 b hb).elim (fun h => J2.out b h) (fun h => .inr (Nat.le_trans J3.out.size h))
        have hb5 := (hp5.block wr.heap.size (by omega) HBO2.out).trans HB2.out
        have HE := Lib.hid (HEND.out w5 _ O5 k1 (fun b hb => (ho5 b hb).elim (fun h => I2.out b h) (fun h => .inr (Nat.le_trans hsz2 h))) (I3.out.trans hp5 I2.out) (by simp only [List.append_assoc]))
        clear q0 q1
        have q0 := cell_of_block hb5 0
        clear hb5 k1 k2 k3 hp5 ho5
        go_wp2_with fail
        go_roundw
        case rel => exact ⟨k + 1, zs'.drop n, _, O5, by omega, by go_num, hx, HM.out, HE⟩
        case measure => simp [intOf]; omega
    · have d1 : decide ((k : Int) < (N : Int)) = false := decide_eq_false (by omega)
      have d1n : decide (k < N) = false := decide_eq_false hlt
      have KF := fun w => fixed_any 256 (by omega) w
      have KP := put_sym hI wr l' O' 256 HI'.out.took (by omega)
      rw [HI'.out.last (by rw [EN.out]; omega)] at KP
      obtain ⟨vo, vc, rfl⟩ := listed_length HI'.out.row
      generalize numOf (fixedSym 256) = A at *
      generalize (fixedSym 256).length = M at *
      go_wp2_with fail
      go_at_call 85
      refine (KF _).mono ?_
      rintro e w' ⟨rfl, rfl⟩
      go_wp2_with fail
      refine KP.mono ?_
      rintro e w3 ⟨rfl, O3, i1, i2, i3⟩
      go_wp2_with fail
      have hfin : Past O W w3 := (Past.of_below HBL.out : Past O W w1).trans (HI'.out.past.trans i3 HI'.out.own) (fun b hb => .inl hb)
      refine bodyPost_end (v := .tuple #[]) (by simp [results, Try.results67, go_sem]) rfl ⟨rfl, O3, i1, fun b hb => ?_, hfin⟩
      rcases i2 b hb with h | h
      · rcases HI'.out.own b h with h | h
        · exact .inl h
        · exact .inr (by have := HBL.out.size; omega)
      · exact .inr (by have := HBL.out.size; have := HI'.out.past.size; omega)
end Go.Proofs.Ytefdlidjdmlnaaa.Fx
