/-
  Codes as deflate has them, as landed: bits turned round, the fixed codes, groups of numbers. The conditions stand in each.
-/
import Derived.StillTailTactics
import Derived.Deep.QuietTactic
import Derived.BigQuiet
import Derived.Laws.BitsAllLaws
import Derived.Test.YtbhmjppnhlmefaaDoorBitsCg
import Derived.Test.YtbhmjppnhlmefaaDoorDeflD
namespace Go.Proofs.YtbhmjppnhlmefaaDoor.Fx
open Go Go.RowKit Go.Joins
set_option linter.unusedVariables false
/-- One step of a number's turning round: m says which bits go down by s. -/
def swap (s m x : Nat) : Nat := ((x / s) &&& m) ||| ((x &&& m) * s % 4294967296)
def rev32 (x : Nat) : Nat :=
  let y := swap 256 16711935 (swap 16 252645135 (swap 4 858993459 (swap 2 1431655765 x)))
  (y / 65536) ||| (y * 65536 % 4294967296)
theorem or_lt32 (a b : Nat) (ha : a < 4294967296) (hb : b < 4294967296) : a ||| b < 4294967296 := Nat.or_lt_two_pow (n := 32) ha hb
theorem and_lt32 (a b : Nat) (ha : a < 4294967296) : a &&& b < 4294967296 := Nat.lt_of_le_of_lt Nat.and_le_left ha
theorem swap_lt (s m x : Nat) (hx : x < 4294967296) : swap s m x < 4294967296 := by
  unfold swap
  refine or_lt32 _ _ (and_lt32 _ _ (Nat.lt_of_le_of_lt (Nat.div_le_self _ _) hx)) (Nat.mod_lt _ (by decide))
/-- A step's parts, each with a name, as the walk spells them. -/
theorem swap_parts (s m x : Nat) (hs : 0 < s) (hx : x < 4294967296) (hm : m < 4294967296) : ∃ q a b c y : Nat, y = swap s m x ∧ (x : Int) / (s : Int) = (q : Int) ∧ bits .and .u32 (q : Int) (m : Int) = (a : Int) ∧ bits .and .u32 (x : Int) (m : Int) = (b : Int) ∧ (b : Int) * (s : Int) % 4294967296 = (c : Int) ∧ bits .or .u32 (a : Int) (c : Int) = (y : Int) ∧ q < 4294967296 ∧ a < 4294967296 ∧ b < 4294967296 ∧ c < 4294967296 ∧ y < 4294967296 := by
  have hq : x / s < 4294967296 := Nat.lt_of_le_of_lt (Nat.div_le_self _ _) hx
  have ha := and_lt32 (x / s) m hq
  have hb := and_lt32 x m hx
  have hc : (x &&& m) * s % 4294967296 < 4294967296 := Nat.mod_lt _ (by decide)
  exact ⟨x / s, (x / s) &&& m, x &&& m, (x &&& m) * s % 4294967296, swap s m x, rfl, by omega, u32_and_nat _ _ hq hm, u32_and_nat _ _ hx hm, by omega, u32_or_nat _ _ ha hc, hq, ha, hb, hc, swap_lt s m x hx⟩
theorem rb_any (x : Nat) (hx : x < 4294967296) (w : World) :
    Calls Tryd.prog 69 #[.int .u32 (x : Int)] w fun e w' => e = .returned (.int .u32 (((swap 256 16711935 x) / 65536 ||| (swap 256 16711935 x) * 65536 % 4294967296 : Nat) : Int)) ∧ w = w' := by
  obtain ⟨q, a, b, c, y, ey, h1, h2, h3, h4, h5, bq, ba, bb, bc, bdy⟩ := swap_parts 256 16711935 x (by decide) hx (by decide)
  rw [← ey]
  clear ey
  obtain ⟨p, hp⟩ : ∃ p, p = y / 65536 := ⟨_, rfl⟩
  obtain ⟨r, hr⟩ : ∃ p, p = y * 65536 % 4294967296 := ⟨_, rfl⟩
  have h6 : (y : Int) / 65536 = (p : Int) := by omega
  have h7 : (y : Int) * 65536 % 4294967296 = (r : Int) := by omega
  have h8 := u32_or_nat p r (by omega) (by omega)
  have bp : p < 4294967296 := by omega
  have br : r < 4294967296 := by omega
  rw [← hp, ← hr]
  clear hp hr
  obtain ⟨z, ez⟩ : ∃ z, p ||| r = z := ⟨_, rfl⟩
  rw [ez] at h8 ⊢
  clear ez
  have h2 : bits .and .u32 (q : Int) 16711935 = (a : Int) := h2
  have h3 : bits .and .u32 (x : Int) 16711935 = (b : Int) := h3
  have h1 : (x : Int) / 256 = (q : Int) := h1
  have h4 : (b : Int) * 256 % 4294967296 = (c : Int) := h4
  go_enter Tryd.func69, Tryd.ntmps69
  go_wp2
  go_ret
  first | exact ⟨rfl, rfl⟩ | simp
set_option maxHeartbeats 1000000 in
theorem rev_any (x : Nat) (hx : x < 4294967296) (w : World) :
    Calls Tryd.prog 58 #[.int .u32 (x : Int)] w fun e w' => e = .returned (.int .u32 ((rev32 x : Nat) : Int)) ∧ w = w' := by
  obtain ⟨q, a, b, c, y, ey, h1, h2, h3, h4, h5, bq, ba, bb, bc, bdy⟩ := swap_parts 2 1431655765 x (by decide) hx (by decide)
  obtain ⟨q', a', b', c', y', ey', h1', h2', h3', h4', h5', bq', ba', bb', bc', by'⟩ := swap_parts 4 858993459 y (by decide) bdy (by decide)
  obtain ⟨q2, a2, b2, c2, y2, ey2, k1, k2, k3, k4, k5, bq2, ba2, bb2, bc2, by2⟩ := swap_parts 16 252645135 y' (by decide) by' (by decide)
  have KR := rb_any y2 by2 w
  have ER : Hid (rev32 x = ((swap 256 16711935 y2) / 65536 ||| (swap 256 16711935 y2) * 65536 % 4294967296)) := by
    show _ = _
    unfold rev32
    rw [ey2, ey', ey]
  obtain ⟨R, eR⟩ : ∃ R, ((swap 256 16711935 y2) / 65536 ||| (swap 256 16711935 y2) * 65536 % 4294967296) = R := ⟨_, rfl⟩
  rw [eR] at KR ER
  rw [ER.out]
  clear eR ER ey ey' ey2
  have h2 : bits .and .u32 (q : Int) 1431655765 = (a : Int) := h2
  have h3 : bits .and .u32 (x : Int) 1431655765 = (b : Int) := h3
  have h1 : (x : Int) / 2 = (q : Int) := h1
  have h4 : (b : Int) * 2 % 4294967296 = (c : Int) := h4
  have h2' : bits .and .u32 (q' : Int) 858993459 = (a' : Int) := h2'
  have h3' : bits .and .u32 (y : Int) 858993459 = (b' : Int) := h3'
  have h1' : (y : Int) / 4 = (q' : Int) := h1'
  have h4' : (b' : Int) * 4 % 4294967296 = (c' : Int) := h4'
  have k2 : bits .and .u32 (q2 : Int) 252645135 = (a2 : Int) := k2
  have k3 : bits .and .u32 (y' : Int) 252645135 = (b2 : Int) := k3
  have k1 : (y' : Int) / 16 = (q2 : Int) := k1
  have k4 : (b2 : Int) * 16 % 4294967296 = (c2 : Int) := k4
  go_enter Tryd.func58, Tryd.ntmps58
  go_wp2_with fail
  go_at_call 69
  refine KR.mono ?_
  rintro e w' ⟨rfl, rfl⟩
  go_wp2_with fail
  go_ret
  first | exact ⟨rfl, rfl⟩ | simp
/-- A code turned round, as a number of its bits. -/
def highOf (c k : Nat) : Nat := numOf (turned c k)
theorem rev_five : (List.range 32).all (fun c => rev32 c / 2 ^ 27 == highOf c 5) = true := by decide +kernel
theorem rev_seven : (List.range 128).all (fun c => rev32 c / 2 ^ 25 == highOf c 7) = true := by decide +kernel
theorem rev_eight : (List.range 256).all (fun c => rev32 c / 2 ^ 24 == highOf c 8) = true := by decide +kernel
theorem rev_nine : (List.range 512).all (fun c => rev32 c / 2 ^ 23 == highOf c 9) = true := by decide +kernel
theorem rev_is (c k : Nat) (hk : k = 5 ∨ k = 7 ∨ k = 8 ∨ k = 9) (hc : c < 2 ^ k) : rev32 c / 2 ^ (32 - k) = highOf c k := by
  rcases hk with rfl | rfl | rfl | rfl
  · simpa using List.all_eq_true.1 rev_five c (List.mem_range.2 hc)
  · simpa using List.all_eq_true.1 rev_seven c (List.mem_range.2 hc)
  · simpa using List.all_eq_true.1 rev_eight c (List.mem_range.2 hc)
  · simpa using List.all_eq_true.1 rev_nine c (List.mem_range.2 hc)
theorem rev32_lt (x : Nat) (hx : x < 4294967296) : rev32 x < 4294967296 := by
  have h := swap_lt 256 16711935 _ (swap_lt 16 252645135 _ (swap_lt 4 858993459 _ (swap_lt 2 1431655765 x hx)))
  unfold rev32
  simp only
  exact or_lt32 _ _ (by omega) (Nat.mod_lt _ (by decide))
set_option maxHeartbeats 1000000 in
theorem high_any (c k : Nat) (hk : k = 5 ∨ k = 7 ∨ k = 8 ∨ k = 9) (hc : c < 2 ^ k) (w : World) :
    Calls Tryd.prog 46 #[.int .u32 (c : Int), .int .i64 (k : Int)] w fun e w' => e = .returned (.tuple #[.int .u32 (highOf c k : Nat), .int .i64 (k : Int)]) ∧ w = w' := by
  have hr := rev_is c k hk hc
  have hc32 : c < 4294967296 := by rcases hk with rfl | rfl | rfl | rfl <;> omega
  have hl := rev32_lt c hc32
  have KR := rev_any c hc32 w
  obtain ⟨R, eR⟩ : ∃ R, rev32 c = R := ⟨_, rfl⟩
  obtain ⟨H, eH⟩ : ∃ R, highOf c k = R := ⟨_, rfl⟩
  rw [eR] at hr hl KR
  rw [eH] at hr ⊢
  clear eR eH hc
  rcases hk with rfl | rfl | rfl | rfl
  all_goals
    first
    | have hd : (R : Int) / 134217728 = (H : Int) := by simp at hr; omega
    | have hd : (R : Int) / 33554432 = (H : Int) := by simp at hr; omega
    | have hd : (R : Int) / 16777216 = (H : Int) := by simp at hr; omega
    | have hd : (R : Int) / 8388608 = (H : Int) := by simp at hr; omega
    clear hr
    go_enter Tryd.func46, Tryd.ntmps46
    go_wp2_with fail
    go_at_call 58
    refine KR.mono ?_
    rintro e w' ⟨rfl, rfl⟩
    go_wp2_with fail
    refine bodyPost_ret (v := .tuple #[.int .u32 (H : Int), .int .i64 _]) (by simp [results, Tryd.results46, asAddr, go_sem]) rfl ⟨rfl, rfl⟩
theorem fixedSym_is (n : Nat) : fixedSym n = (if n < 144 then turned (48 + n) 8 else if n < 256 then turned (400 + n - 144) 9 else if n < 280 then turned (n - 256) 7 else turned (192 + n - 280) 8) := by
  unfold fixedSym
  by_cases h1 : n < 144
  · rw [if_pos h1, if_pos (by omega)]
  rw [if_neg h1, if_neg (by omega)]
  by_cases h2 : n < 256
  · rw [if_pos h2, if_pos (by omega)]
  rw [if_neg h2, if_neg (by omega)]
  by_cases h3 : n < 280
  · rw [if_pos h3, if_pos (by omega)]
  · rw [if_neg h3, if_neg (by omega)]
set_option maxHeartbeats 1000000 in
theorem fixed_any (n : Nat) (hn : n < 288) (w : World) :
    Calls Tryd.prog 44 #[.int .u32 (n : Int)] w fun e w' => e = .returned (.tuple #[.int .u32 (numOf (fixedSym n) : Nat), .int .i64 ((fixedSym n).length : Int)]) ∧ w = w' := by
  rw [fixedSym_is]
  have n0 : (0 : Int) ≤ (n : Int) := by omega
  by_cases h1 : n < 144
  · rw [if_pos h1, turned_length]
    have d1 : decide ((n : Int) < 144) = true := decide_eq_true (by omega)
    have K := high_any (48 + n) 8 (by omega) (by omega) w
    obtain ⟨H, eH⟩ : ∃ R, highOf (48 + n) 8 = R := ⟨_, rfl⟩
    rw [show numOf (turned (48 + n) 8) = H from eH]
    rw [eH] at K
    clear eH
    obtain ⟨c, ec⟩ : ∃ c, 48 + n = c := ⟨_, rfl⟩
    rw [ec] at K
    have ha : 48 + (n : Int) = (c : Int) := by omega
    have hcw : c < 4294967296 := by omega
    clear ec
    go_enter Tryd.func44, Tryd.ntmps44
    go_wp2_with fail
    go_at_call 46
    refine K.mono ?_
    rintro e w' ⟨rfl, rfl⟩
    go_wp2_with fail
    refine bodyPost_ret (v := .tuple #[.int .u32 (H : Int), .int .i64 _]) (by simp [results, Tryd.results44, asAddr, go_sem]) rfl ⟨rfl, rfl⟩
  rw [if_neg h1]
  have d1 : decide ((n : Int) < 144) = false := decide_eq_false (by omega)
  by_cases h2 : n < 256
  · rw [if_pos h2, turned_length]
    have d2 : decide ((n : Int) < 256) = true := decide_eq_true (by omega)
    have K := high_any (400 + n - 144) 9 (by omega) (by omega) w
    obtain ⟨H, eH⟩ : ∃ R, highOf (400 + n - 144) 9 = R := ⟨_, rfl⟩
    rw [show numOf (turned (400 + n - 144) 9) = H from eH]
    rw [eH] at K
    clear eH
    obtain ⟨c, ec⟩ : ∃ c, 400 + n - 144 = c := ⟨_, rfl⟩
    rw [ec] at K
    have ha : 400 + (n : Int) - 144 = (c : Int) := by omega
    have hcw : c < 4294967296 := by omega
    clear ec
    go_enter Tryd.func44, Tryd.ntmps44
    go_wp2_with fail
    go_at_call 46
    refine K.mono ?_
    rintro e w' ⟨rfl, rfl⟩
    go_wp2_with fail
    refine bodyPost_ret (v := .tuple #[.int .u32 (H : Int), .int .i64 _]) (by simp [results, Tryd.results44, asAddr, go_sem]) rfl ⟨rfl, rfl⟩
  rw [if_neg h2]
  have d2 : decide ((n : Int) < 256) = false := decide_eq_false (by omega)
  by_cases h3 : n < 280
  · rw [if_pos h3, turned_length]
    have d3 : decide ((n : Int) < 280) = true := decide_eq_true (by omega)
    have K := high_any (n - 256) 7 (by omega) (by omega) w
    obtain ⟨H, eH⟩ : ∃ R, highOf (n - 256) 7 = R := ⟨_, rfl⟩
    rw [show numOf (turned (n - 256) 7) = H from eH]
    rw [eH] at K
    clear eH
    obtain ⟨c, ec⟩ : ∃ c, n - 256 = c := ⟨_, rfl⟩
    rw [ec] at K
    have ha : (n : Int) - 256 = (c : Int) := by omega
    have hcw : c < 4294967296 := by omega
    clear ec
    go_enter Tryd.func44, Tryd.ntmps44
    go_wp2_with fail
    go_at_call 46
    refine K.mono ?_
    rintro e w' ⟨rfl, rfl⟩
    go_wp2_with fail
    refine bodyPost_ret (v := .tuple #[.int .u32 (H : Int), .int .i64 _]) (by simp [results, Tryd.results44, asAddr, go_sem]) rfl ⟨rfl, rfl⟩
  rw [if_neg h3, turned_length]
  have d3 : decide ((n : Int) < 280) = false := decide_eq_false (by omega)
  have K := high_any (192 + n - 280) 8 (by omega) (by omega) w
  obtain ⟨H, eH⟩ : ∃ R, highOf (192 + n - 280) 8 = R := ⟨_, rfl⟩
  rw [show numOf (turned (192 + n - 280) 8) = H from eH]
  rw [eH] at K
  clear eH
  obtain ⟨c, ec⟩ : ∃ c, 192 + n - 280 = c := ⟨_, rfl⟩
  rw [ec] at K
  have ha : 192 + (n : Int) - 280 = (c : Int) := by omega
  have hcw : c < 4294967296 := by omega
  clear ec
  go_enter Tryd.func44, Tryd.ntmps44
  go_wp2_with fail
  go_at_call 46
  refine K.mono ?_
  rintro e w' ⟨rfl, rfl⟩
  go_wp2_with fail
  refine bodyPost_ret (v := .tuple #[.int .u32 (H : Int), .int .i64 _]) (by simp [results, Tryd.results44, asAddr, go_sem]) rfl ⟨rfl, rfl⟩
/-! ### Groups -/
/-- The closure that grouped makes of a group whose size lies in the block g. -/
def groupOf (g : Nat) : Value := .func (Fn.func 57) #[] #[.pointer (some ⟨g, 0, none⟩)]
theorem grouped_any (G : Nat) (w : World) :
    Calls Tryd.prog 43 #[.int .i64 (G : Int)] w fun e w' => e = .returned (groupOf w.heap.size) ∧ w' = w.alloc (.cells #[.int .i64 (G : Int)] 3) := by
  go_enter Tryd.func43, Tryd.ntmps43
  go_wp2_with fail
  go_ret
  simp [groupOf]
/-- A number's group: as many bits as it has behind the code. -/
def Extra (G n e : Nat) : Prop := n / 2 ^ e < 2 * G ∧ (e = 0 ∨ 2 * G ≤ n / 2 ^ (e - 1))
theorem extra_low {G n e j : Nat} (h : Extra G n e) (hj : j < e) : 2 * G ≤ n / 2 ^ j := by
  rcases h.2 with h0 | h0
  · omega
  · refine Nat.le_trans h0 ?_
    exact Nat.div_le_div_left (Nat.pow_le_pow_right (by decide) (by omega)) (Nat.two_pow_pos _)
theorem low_bits (n j : Nat) (hj : j ≤ 62) (hn : n < 9223372036854775808) : bits .and .i64 (n : Int) ((2 : Int) ^ j - 1) = ((n % 2 ^ j : Nat) : Int) := by
  have h1 : 1 ≤ 2 ^ j := Nat.one_le_two_pow
  have h2 : 2 ^ j ≤ 2 ^ 62 := Nat.pow_le_pow_right (by decide) hj
  have hp : (2 : Int) ^ j - 1 = ((2 ^ j - 1 : Nat) : Int) := by
    rw [Int.natCast_sub h1, Int.natCast_pow]
    rfl
  rw [hp]
  have key : (BitVec.ofInt 64 (n : Int) &&& BitVec.ofInt 64 ((2 ^ j - 1 : Nat) : Int)).toNat = n % 2 ^ j := by
    rw [BitVec.toNat_and, BitVec.toNat_ofInt, BitVec.toNat_ofInt]
    have e1 : ((n : Int) % ((2 ^ 64 : Nat) : Int)).toNat = n := by omega
    have e2 : (((2 ^ j - 1 : Nat) : Int) % ((2 ^ 64 : Nat) : Int)).toNat = 2 ^ j - 1 := by omega
    rw [e1, e2, Nat.and_two_pow_sub_one_eq_mod]
  show IntKind.i64.wrap ((BitVec.ofInt 64 (n : Int) &&& BitVec.ofInt 64 ((2 ^ j - 1 : Nat) : Int)).toNat : Nat) = _
  rw [key, IntKind.wrap_i64]
  have := Nat.mod_le n (2 ^ j)
  omega
theorem mask_whole (j : Nat) (hj : j ≤ 20) : wrap64 ((2 : Int) ^ j) = (2 : Int) ^ j ∧ wrap64 ((2 : Int) ^ j - 1) = (2 : Int) ^ j - 1 := by
  have h3 : 2 ^ j ≤ 1048576 := Nat.le_trans (Nat.pow_le_pow_right (by decide) hj) (by decide)
  have hp : (2 : Int) ^ j = ((2 ^ j : Nat) : Int) := by rw [Int.natCast_pow]; rfl
  rw [hp]
  generalize 2 ^ j = p at *
  constructor
  · unfold wrap64; omega
  · unfold wrap64; omega
set_option maxHeartbeats 2000000 in
theorem group_any (G n e g : Nat) (hG : G ≤ 4) (hn : n ≤ 1048576) (he : e ≤ 20) (hx : Extra G n e) (W : World) (hc : W.cell? ⟨g, 0, none⟩ = some (.int .i64 (G : Int))) :
    Calls Tryd.prog 57 #[.int .i64 (n : Int), .pointer (some ⟨g, 0, none⟩)] W fun r w' => r = .returned (.tuple #[.int .u32 ((G * e + n / 2 ^ e : Nat) : Int), .int .i64 (e : Int), .int .u32 ((n % 2 ^ e : Nat) : Int)]) ∧ ∃ k, w' = W.drewN k := by
  have HX := Lib.hid hx
  clear hx
  have hge : G * e ≤ 80 := Nat.le_trans (Nat.mul_le_mul hG he) (by decide)
  have hql : n / 2 ^ e ≤ n := Nat.div_le_self _ _
  have hrl : n % 2 ^ e ≤ n := Nat.mod_le _ _
  have hand := low_bits n e (by omega) (by omega)
  obtain ⟨q, eq⟩ : ∃ q, n / 2 ^ e = q := ⟨_, rfl⟩
  obtain ⟨r, er⟩ : ∃ q, n % 2 ^ e = q := ⟨_, rfl⟩
  obtain ⟨m, em⟩ : ∃ q, G * e = q := ⟨_, rfl⟩
  have hmi : (G : Int) * (e : Int) = (m : Int) := by rw [← em]; rfl
  have EQ := Lib.hid eq
  rw [eq] at hql
  rw [er] at hand hrl
  rw [em] at hge
  rw [eq, er, em]
  clear eq er em
  go_enter Tryd.func57, Tryd.ntmps57
  go_wp2_with fail
  go_loopw [6] (fun s6 wr => ∃ j : Nat, j ≤ e ∧ s6 = .int .i64 (j : Int) ∧ ∃ k, wr = W.drewN k) (fun s6 _ => e - (intOf s6).toNat)
  case atStart => exact ⟨0, Nat.zero_le _, rfl, 0, rfl⟩
  case round =>
    obtain ⟨j, hj, rfl, k, rfl⟩ := hrel
    have hq : (W.drewN k).cell? ⟨g, 0, none⟩ = some (.int .i64 (G : Int)) := hc
    have hnd : (n : Int) / (2 : Int) ^ j = ((n / 2 ^ j : Nat) : Int) := by
      rw [Int.natCast_ediv, Int.natCast_pow]
      rfl
    by_cases hlt : j < e
    · have hlow := extra_low HX.out hlt
      have hql : n / 2 ^ j ≤ n := Nat.div_le_self _ _
      obtain ⟨q, eq⟩ : ∃ q, n / 2 ^ j = q := ⟨_, rfl⟩
      rw [eq] at hnd hlow hql
      have hd : decide (2 * (G : Int) ≤ (q : Int)) = true := decide_eq_true (by omega)
      clear eq
      go_wp2_with fail
      go_quiet (fail)
      go_wp2_with fail
      go_roundw
      case rel => exact ⟨j + 1, by omega, by go_num, _, rfl⟩
      case measure => simp [intOf]; omega
    · obtain rfl : j = e := by omega
      have hlow := HX.out.1
      rw [EQ.out] at hnd hlow
      have hd : decide (2 * (G : Int) ≤ (q : Int)) = false := decide_eq_false (by omega)
      go_wp2_with fail
      go_quiet (fail)
      go_wp2_with fail
      go_quiet (fail)
      go_wp2_with fail
      obtain ⟨hw1, hw2⟩ := mask_whole j he
      have hr32 : (r : Int) % 4294967296 = (r : Int) := by omega
      refine bodyPost_ret (v := .tuple #[.int .u32 ((m + q : Nat) : Int), .int .i64 (j : Int), .int .u32 (r : Int)]) (by simp [results, Tryd.results57, asAddr, go_sem]; rw [hw1, hw2, hand, hr32]) rfl ⟨rfl, _, (by rw [World.drewN_drewN, World.drewN_drewN])⟩
end Go.Proofs.YtbhmjppnhlmefaaDoor.Fx
