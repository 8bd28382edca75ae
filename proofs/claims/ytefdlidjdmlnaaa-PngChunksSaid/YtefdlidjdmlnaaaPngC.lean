/-
  CRC over a list of bytes: the code's own, and the document's. The conditions are that the sum is of its kind and the list reads as bytes.
-/
import Derived.WalkKit
import Derived.Laws.Bits64
import Derived.Laws.BitsAllLaws
import Derived.Lib.Hide
import Derived.Handy
import Derived.Deep.WholeRow
import Derived.Test.YtefdlidjdmlnaaaZlP
namespace Go.Proofs.Ytefdlidjdmlnaaa.Ad.Cr
open Go Go.RowKit Go.Joins
set_option linter.unusedVariables false
def sh (c : Nat) : Nat := c / 2 ^^^ (if c % 2 = 1 then 3988292384 else 0)
def shn : Nat → Nat → Nat
  | 0, c => c
  | k + 1, c => shn k (sh c)
def crcByte (c b : Nat) : Nat := shn 8 (c ^^^ b)
def reg (c : Nat) (l : List Nat) : Nat := l.foldl crcByte c
def crc (s : Nat) (l : List Nat) : Nat := 4294967295 - reg (4294967295 - s) l
theorem sh_if (c : Nat) : sh c = if c % 2 = 1 then c / 2 ^^^ 3988292384 else c / 2 := by
  unfold sh
  split
  · rfl
  · rw [Nat.xor_zero]
theorem xor_below {a b : Nat} (ha : a < 4294967296) (hb : b < 4294967296) : a ^^^ b < 4294967296 := by
  have h : a ^^^ b < 2 ^ 32 := Nat.xor_lt_two_pow (by omega) (by omega)
  omega
theorem sh_below {c : Nat} (h : c < 4294967296) : sh c < 4294967296 := by
  unfold sh
  refine xor_below (by omega) ?_
  split <;> omega
theorem shn_below (k : Nat) {c : Nat} (h : c < 4294967296) : shn k c < 4294967296 := by
  induction k generalizing c with
  | zero => exact h
  | succ k ih => exact ih (sh_below h)
theorem crcByte_below {c b : Nat} (hc : c < 4294967296) (hb : b < 4294967296) : crcByte c b < 4294967296 := shn_below 8 (xor_below hc hb)
theorem reg_below {c : Nat} {l : List Nat} (hc : c < 4294967296) (hl : ∀ b ∈ l, b < 256) : reg c l < 4294967296 := by
  unfold reg
  induction l generalizing c with
  | nil => exact hc
  | cons b l ih =>
    rw [List.foldl_cons]
    exact ih (crcByte_below hc (by have := hl b (by simp); omega)) (fun d hd => hl d (by simp [hd]))
theorem reg_cons (c b : Nat) (l : List Nat) : reg c (b :: l) = reg (crcByte c b) l := by
  unfold reg
  rw [List.foldl_cons]
theorem reg_append (c : Nat) (l m : List Nat) : reg c (l ++ m) = reg (reg c l) m := by
  unfold reg
  rw [List.foldl_append]
theorem reg_nil (c : Nat) : reg c [] = c := by
  unfold reg
  rw [List.foldl_nil]
theorem xor_mod (a b : Nat) : (a ^^^ b) % 2 = (a % 2 + b % 2) % 2 := by
  have h := Nat.xor_mod_two_pow (a := a) (b := b) (n := 1)
  rw [Nat.pow_one] at h
  rw [h]
  rcases Nat.mod_two_eq_zero_or_one a with ha | ha <;> rcases Nat.mod_two_eq_zero_or_one b with hb | hb <;> rw [ha, hb] <;> rfl
theorem xor_half (a b : Nat) : (a ^^^ b) / 2 = a / 2 ^^^ b / 2 := by
  have h := Nat.xor_div_two (a := a) (b := b)
  exact h
theorem xor_swap (a b c d : Nat) : (a ^^^ b) ^^^ (c ^^^ d) = (a ^^^ c) ^^^ (b ^^^ d) := by
  rw [Nat.xor_assoc, Nat.xor_assoc, ← Nat.xor_assoc b c d, Nat.xor_comm b c, Nat.xor_assoc c b d]
theorem sh_xor (a b : Nat) : sh (a ^^^ b) = sh a ^^^ sh b := by
  unfold sh
  rw [xor_half, xor_mod, xor_swap]
  congr 1
  rcases Nat.mod_two_eq_zero_or_one a with ha | ha <;> rcases Nat.mod_two_eq_zero_or_one b with hb | hb <;> rw [ha, hb] <;> rfl
theorem shn_xor (k a b : Nat) : shn k (a ^^^ b) = shn k a ^^^ shn k b := by
  induction k generalizing a b with
  | zero => rfl
  | succ k ih => rw [shn, shn, shn, sh_xor, ih]
theorem sh_zero : sh 0 = 0 := by decide
theorem shn_zero (k : Nat) : shn k 0 = 0 := by
  induction k with
  | zero => rfl
  | succ k ih => rw [shn, sh_zero, ih]
theorem xor_same {a b : Nat} (h : a ^^^ b = 0) : a = b := by
  have e : a ^^^ b ^^^ b = a := by rw [Nat.xor_assoc, Nat.xor_self, Nat.xor_zero]
  rw [← e, h, Nat.zero_xor]
theorem sh_none {c : Nat} (h : c < 4294967296) (hz : sh c = 0) : c = 0 := by
  unfold sh at hz
  by_cases h2 : c % 2 = 1
  · rw [if_pos h2] at hz
    have := xor_same hz
    omega
  · rw [if_neg h2, Nat.xor_zero] at hz
    omega
theorem shn_none (k : Nat) {c : Nat} (h : c < 4294967296) (hz : shn k c = 0) : c = 0 := by
  induction k generalizing c with
  | zero => exact hz
  | succ k ih => exact sh_none h (ih (sh_below h) hz)
theorem shn_add (k j c : Nat) : shn (k + j) c = shn j (shn k c) := by
  induction k generalizing c with
  | zero => rw [Nat.zero_add, shn]
  | succ k ih => rw [Nat.succ_add, shn, shn, ih]
theorem sh_even (c : Nat) : sh (c * 2) = c := by
  unfold sh
  rw [if_neg (by omega), Nat.xor_zero]
  omega
theorem shn_even (k c : Nat) : shn k (c * 2 ^ k) = c := by
  induction k with
  | zero => rw [shn, Nat.pow_zero, Nat.mul_one]
  | succ k ih => rw [shn, Nat.pow_succ, ← Nat.mul_assoc, sh_even, ih]
theorem crcByte_xor (c d a b : Nat) : crcByte (c ^^^ d) (a ^^^ b) = crcByte c a ^^^ crcByte d b := by
  unfold crcByte
  rw [xor_swap, shn_xor]
theorem flip_xor {a : Nat} (h : a < 4294967296) : 4294967295 - a = a ^^^ 4294967295 := by
  have h1 := Nat.xor_comm a 4294967295
  have : a ^^^ (2 ^ 32 - 1) = 2 ^ 32 - 1 - a := by
    apply Nat.eq_of_testBit_eq
    intro i
    rw [Nat.testBit_xor, Nat.testBit_two_pow_sub_one, show 2 ^ 32 - 1 - a = 2 ^ 32 - (a + 1) from by omega, Nat.testBit_two_pow_sub_succ (by omega)]
    by_cases hi : i < 32
    · simp [hi]
    · have : a.testBit i = false := Nat.testBit_lt_two_pow (Nat.lt_of_lt_of_le (show a < 2 ^ 32 by omega) (Nat.pow_le_pow_right (by decide) (by omega)))
      simp [hi, this]
  exact this.symm
theorem xor_small {a b : Nat} (k : Nat) (ha : a < 2 ^ k) (hb : b < 2 ^ k) : a ^^^ b < 2 ^ k := Nat.xor_lt_two_pow ha hb
theorem byte_xor {a b : Nat} (ha : a < 256) (hb : b < 256) : a ^^^ b < 256 := xor_small 8 ha hb
theorem crc_below (s : Nat) (l : List Nat) : crc s l < 4294967296 := by
  unfold crc
  omega
theorem crc_nil {s : Nat} (hs : s < 4294967296) : crc s [] = s := by
  unfold crc
  rw [reg_nil]
  omega
theorem crc_table (c b : Nat) (hb : b < 256) : crcByte c b = shn 8 ((c % 256) ^^^ b) ^^^ c / 256 := by
  have e : c ^^^ b = ((c % 256) ^^^ b) ^^^ (c / 256) * 2 ^ 8 := by
    apply Nat.eq_of_testBit_eq
    intro i
    rw [Nat.testBit_xor, Nat.testBit_xor, Nat.testBit_xor, Nat.testBit_mul_two_pow, show (256 : Nat) = 2 ^ 8 from rfl, Nat.testBit_mod_two_pow, Nat.testBit_div_two_pow]
    by_cases hi : i < 8
    · have h8 : ¬ 8 ≤ i := by omega
      simp [hi, h8]
    · have h8 : 8 ≤ i := by omega
      have hz : b.testBit i = false := Nat.testBit_lt_two_pow (Nat.lt_of_lt_of_le (show b < 2 ^ 8 from hb) (Nat.pow_le_pow_right (by decide) h8))
      rw [hz, show i - 8 + 8 = i by omega]
      simp [hi, h8]
  unfold crcByte
  rw [e, shn_xor, shn_even]
theorem reg_step (c : Nat) (zs : List Nat) (k : Nat) (hk : k < zs.length) : reg c (zs.take (k + 1)) = crcByte (reg c (zs.take k)) (zs.getD k 0) := take_next _ _ _ _ hk
theorem shn_next (j : Nat) (c : Nat) (hj : j < 8) : shn (8 - j) c = shn (8 - (j + 1)) (sh c) := by
  rw [show 8 - j = (8 - (j + 1)) + 1 from by omega, shn]
theorem sh_odd {X : Nat} (h : X < 4294967296) (h2 : X % 2 = 1) : bits .xor .u32 ((X : Int) / 2) 3988292384 = (sh X : Nat) := by
  rw [sh_if, if_pos h2]
  have := u32_xor_nat (X / 2) 3988292384 (by omega) (by decide)
  rw [← this, Int.natCast_ediv]
  rfl
set_option maxRecDepth 100000 in
set_option maxHeartbeats 1000000 in
theorem rcrc_row (s b off cap len : Nat) (zs : List Nat) (w : World) (hs : s ≤ 4294967295) (hz : zs.length = len) (hbig : len ≤ 140737488355328) (h8 : bytes zs) (hc : ∀ j, j < len → w.cell? ⟨b, off + j, none⟩ = some (.int .u8 (zs.getD j 0 : Nat))) :
    Calls Try.prog 46 #[.int .u32 (s : Int), .slice (some ⟨b, off, none⟩) len cap] w fun e w' => e = .returned (.int .u32 (crc s zs : Nat)) ∧ w = w' := by
  have HZ := Lib.hid hz
  have HC := Lib.hid hc
  have HB := Lib.hid (bytes_get h8)
  have HT : Hid (∀ k, reg (4294967295 - s) (zs.take k) < 4294967296) := fun k => reg_below (by omega) (fun b hb => h8 b (List.mem_of_mem_take hb))
  clear hz hc h8
  have HA : Hid (crc s zs = 4294967295 - reg (4294967295 - s) zs) := rfl
  have h2 : crc s zs ≤ 4294967295 := by have := crc_below s zs; omega
  generalize crc s zs = A at *
  have HN : Hid (reg (4294967295 - s) (zs.take 0) = 4294967295 - s) := by
    show reg (4294967295 - s) (zs.take 0) = 4294967295 - s
    rw [List.take_zero, reg_nil]
  have e0 : 4294967295 - (s : Int) = ((4294967295 - s : Nat) : Int) := by omega
  have b0 : 4294967295 - s ≤ 4294967295 := by omega
  generalize 4294967295 - s = P at *
  go_enter Try.func46, Try.ntmps46
  go_wp2
  go_loop [5, 6] (fun x i => ∃ k : Nat, k ≤ len ∧ x = .int .u32 (reg P (zs.take k) : Nat) ∧ i = .int .i64 k) (fun _ i => len - (intOf i).toNat)
  case atStart => exact ⟨0, Nat.zero_le _, by rw [HN.out], rfl⟩
  case round =>
    obtain ⟨k, hk, rfl, rfl⟩ := hrel
    have hX := HT.out k
    have hb := HB.out k
    have HK : Hid (k < len → w.cell? ⟨b, off + k, none⟩ = some (.int .u8 (zs.getD k 0 : Nat))) := HC.out k
    have HE : Hid (k < len → reg P (zs.take (k + 1)) = crcByte (reg P (zs.take k)) (zs.getD k 0)) := fun h => reg_step P zs k (by rw [HZ.out]; exact h)
    have HF : Hid (k = len → 4294967295 - reg P (zs.take k) = A) := fun h => by rw [h, ← HZ.out, List.take_length, HA.out]
    generalize reg P (zs.take k) = X at *
    generalize zs.getD k 0 = Z at *
    by_cases hlt : k < len
    · have hd : decide ((k : Int) < (len : Int)) = true := decide_eq_true (by omega)
      have hcell := HK.out hlt
      have HE := Lib.hid (HE.out hlt)
      have hx := u32_xor_nat X Z (by omega) (by omega)
      have bx : X ^^^ Z ≤ 4294967295 := by have := xor_below (a := X) (b := Z) (by omega) (by omega); omega
      have HR : Hid (shn (8 - 0) (X ^^^ Z) = crcByte X Z) := rfl
      generalize crcByte X Z = R at *
      generalize X ^^^ Z = Y at *
      go_wp2
      go_loop [5, 7] (fun x i => ∃ j Y : Nat, j ≤ 8 ∧ Y ≤ 4294967295 ∧ Hid (shn (8 - j) Y = R) ∧ x = .int .u32 (Y : Int) ∧ i = .int .i64 j) (fun _ i => 8 - (intOf i).toNat)
      case atStart => exact ⟨0, Y, by omega, by omega, HR, rfl, rfl⟩
      case round =>
        clear hx HR bx
        obtain ⟨j, Y, hj, hY, HY, rfl, rfl⟩ := hrel
        by_cases hj8 : j = 8
        · subst hj8
          have hd8 : decide ((8 : Int) < 8) = false := decide_eq_false (by omega)
          have hy : Y = R := HY.out
          subst hy
          go_wp2
          go_round
          case rel => exact ⟨k + 1, by omega, by rw [HE.out], by go_num⟩
          case measure => simp [intOf]; omega
        · have hdj : decide ((j : Int) < 8) = true := decide_eq_true (by omega)
          have HX := Lib.hid (shn_next j Y (by omega))
          have hs1 := sh_below (c := Y) (by omega)
          have hj7 : j ≤ 7 := by omega
          by_cases h2 : Y % 2 = 1
          · have ht : ((Y : Int) % 2 == 1) = true := by simp; omega
            have hq := sh_odd (X := Y) (by omega) h2
            generalize sh Y = V at *
            go_wp2
            go_round
            case rel => exact ⟨j + 1, V, by omega, by omega, by rw [← HX.out]; exact HY, by first | rfl | rw [hq], by go_num⟩
            case measure => simp [intOf]; omega
          · have ht : ((Y : Int) % 2 == 1) = false := by simp; omega
            have hq : (Y : Int) / 2 = (sh Y : Nat) := by rw [sh_if, if_neg h2]; omega
            generalize sh Y = V at *
            go_wp2
            go_round
            case rel => exact ⟨j + 1, V, by omega, by omega, by rw [← HX.out]; exact HY, by first | rfl | rw [hq], by go_num⟩
            case measure => simp [intOf]; omega
    · have hd : decide ((k : Int) < (len : Int)) = false := decide_eq_false (by omega)
      have he : k = len := by omega
      have ha : 4294967295 - (X : Int) = (A : Int) := by
        have := HF.out he
        omega
      go_wp2
      go_ret
      exact ⟨rfl, rfl⟩
set_option maxRecDepth 100000 in
set_option maxHeartbeats 1000000 in
theorem rcrc_nil (s : Nat) (o : Option Addr) (cap : Nat) (w : World) (hs : s ≤ 4294967295) :
    Calls Try.prog 46 #[.int .u32 (s : Int), .slice o 0 cap] w fun e w' => e = .returned (.int .u32 (crc s [] : Nat)) ∧ w = w' := by
  have hA : 4294967295 - (4294967295 - (s : Int)) = (crc s [] : Nat) := by
    rw [crc_nil (by omega)]
    omega
  have h2 : crc s [] ≤ 4294967295 := by have := crc_below s []; omega
  generalize crc s [] = A at *
  go_enter Try.func46, Try.ntmps46
  go_wp2
  go_rounds 1
  all_goals go_wp2
  all_goals go_ret
  all_goals exact ⟨rfl, rfl⟩
theorem rcrc_any (s : Nat) (v : Value) (zs : List Nat) (w : World) (hs : s ≤ 4294967295) (hr : reads w v zs) (h8 : bytes zs) (hl : zs.length ≤ 140737488355328) :
    Calls Try.prog 46 #[.int .u32 (s : Int), v] w fun e w' => e = .returned (.int .u32 (crc s zs : Nat)) ∧ w = w' := by
  rcases hr with ⟨⟨o, cap, rfl, ho⟩, rfl⟩ | ⟨b, off, cap, rfl, hle, hlt, hc⟩
  · exact rcrc_nil s o cap w hs
  · exact rcrc_row s b off cap zs.length zs w hs rfl hl h8 hc
def ti (B i : Nat) : Array Value := (Array.range 256).map fun j => .int .u32 (if j % (2 * B) = 0 ∨ (j % B = 0 ∧ j < i) then ((shn 8 j : Nat) : Int) else 0)
def full : Array Value := (Array.range 256).map fun j => .int .u32 ((shn 8 j : Nat) : Int)
theorem ti_size (B i : Nat) : (ti B i).size = 256 := by simp [ti]
theorem full_size : full.size = 256 := by simp [full]
theorem ti_get (B i j : Nat) (hj : j < 256) : (ti B i)[j]? = some (.int .u32 (if j % (2 * B) = 0 ∨ (j % B = 0 ∧ j < i) then ((shn 8 j : Nat) : Int) else 0)) := by
  simp [ti, hj]
theorem full_get (j : Nat) (hj : j < 256) : full[j]? = some (.int .u32 ((shn 8 j : Nat) : Int)) := by
  simp [full, hj]
theorem full_cells : full.all (·.oneCell') = true := by
  rw [Array.all_eq_true]
  intro i hi
  simp [full, Value.oneCell']
def pow7 (B : Nat) : Prop := B = 128 ∨ B = 64 ∨ B = 32 ∨ B = 16 ∨ B = 8 ∨ B = 4 ∨ B = 2 ∨ B = 1
theorem ti_ext {B i C k : Nat} (h : ∀ j, j < 256 → ((j % (2 * B) = 0 ∨ (j % B = 0 ∧ j < i)) ↔ (j % (2 * C) = 0 ∨ (j % C = 0 ∧ j < k)))) : ti B i = ti C k := by
  unfold ti
  apply Array.ext
  · simp
  · intro j h1 h2
    have hj : j < 256 := by simpa using h1
    simp only [Array.getElem_map, Array.getElem_range]
    simp only [h j hj]
theorem ti_next {B : Nat} (hB : pow7 B) (h1 : B ≠ 1) : ti B 256 = ti (B / 2) 0 := by
  refine ti_ext fun j hj => ?_
  rcases hB with rfl | rfl | rfl | rfl | rfl | rfl | rfl | rfl <;> omega
theorem ti_last : ti 1 256 = full := by
  unfold ti full
  apply Array.ext
  · simp
  · intro j h1 h2
    have hj : j < 256 := by simpa using h1
    simp only [Array.getElem_map, Array.getElem_range]
    rw [if_pos (.inr ⟨Nat.mod_one _, hj⟩)]
theorem ti_set {B i : Nat} (hB : pow7 B) (hi : i < 256) (hm : i % (2 * B) = 0) : (ti B i).setIfInBounds (i + B) (.int .u32 ((shn 8 (i + B) : Nat) : Int)) = ti B (i + 2 * B) := by
  have hk : i + B < 256 := by rcases hB with rfl | rfl | rfl | rfl | rfl | rfl | rfl | rfl <;> omega
  have hkm : (i + B) % B = 0 := by rcases hB with rfl | rfl | rfl | rfl | rfl | rfl | rfl | rfl <;> omega
  apply Array.ext
  · rw [Array.size_setIfInBounds, ti_size, ti_size]
  · intro j h1 h2
    have hj : j < 256 := by rw [ti_size] at h2; exact h2
    rw [Array.getElem_setIfInBounds (by rw [ti_size]; exact hj)]
    by_cases e : i + B = j
    · subst e
      rw [if_pos rfl]
      have hb0 : 0 < B := by rcases hB with rfl | rfl | rfl | rfl | rfl | rfl | rfl | rfl <;> omega
      simp only [ti, Array.getElem_map, Array.getElem_range]
      rw [if_pos (.inr ⟨hkm, by omega⟩)]
    · rw [if_neg e]
      have hiff : (j % (2 * B) = 0 ∨ (j % B = 0 ∧ j < i)) ↔ (j % (2 * B) = 0 ∨ (j % B = 0 ∧ j < i + 2 * B)) := by
        rcases hB with rfl | rfl | rfl | rfl | rfl | rfl | rfl | rfl <;> omega
      simp only [ti, Array.getElem_map, Array.getElem_range]
      simp only [hiff]
theorem xor_add {B i : Nat} (hB : pow7 B) (hi : i < 256) (hm : i % (2 * B) = 0) : i ^^^ B = i + B := by
  rcases hB with rfl | rfl | rfl | rfl | rfl | rfl | rfl | rfl
  · exact (show ∀ i, i < 256 → i % (2 * 128) = 0 → i ^^^ 128 = i + 128 by decide +kernel) i hi hm
  · exact (show ∀ i, i < 256 → i % (2 * 64) = 0 → i ^^^ 64 = i + 64 by decide +kernel) i hi hm
  · exact (show ∀ i, i < 256 → i % (2 * 32) = 0 → i ^^^ 32 = i + 32 by decide +kernel) i hi hm
  · exact (show ∀ i, i < 256 → i % (2 * 16) = 0 → i ^^^ 16 = i + 16 by decide +kernel) i hi hm
  · exact (show ∀ i, i < 256 → i % (2 * 8) = 0 → i ^^^ 8 = i + 8 by decide +kernel) i hi hm
  · exact (show ∀ i, i < 256 → i % (2 * 4) = 0 → i ^^^ 4 = i + 4 by decide +kernel) i hi hm
  · exact (show ∀ i, i < 256 → i % (2 * 2) = 0 → i ^^^ 2 = i + 2 by decide +kernel) i hi hm
  · exact (show ∀ i, i < 256 → i % (2 * 1) = 0 → i ^^^ 1 = i + 1 by decide +kernel) i hi hm
theorem shn_sum {B i : Nat} (hB : pow7 B) (hi : i < 256) (hm : i % (2 * B) = 0) : shn 8 (i + B) = shn 8 i ^^^ shn 8 B := by
  rw [← xor_add hB hi hm, shn_xor]
theorem sh_shn (k c : Nat) : sh (shn k c) = shn (k + 1) c := by
  rw [shn_add k 1 c, shn, shn]
theorem shn_half (B : Nat) : sh (shn 8 (2 * B)) = shn 8 B := by
  have e : shn 8 (2 * B) = shn 7 B := by
    rw [show (8 : Nat) = 7 + 1 from rfl, shn, Nat.mul_comm, sh_even]
  rw [e, sh_shn]
theorem shn_first : shn 8 (2 * 128) = 1 := by decide +kernel
theorem info_tbl : (Try.prog.info? 116).map (fun i => (i.zero, i.size)) = some (some (.agg (ti 128 0)), 256) := by kernel_rfl
theorem set_new (w : World) (c : Array Value) (t : TypeId) (j : Nat) (v : Value) : (w.alloc (.cells c t)).setCell ⟨w.heap.size, j, none⟩ v = w.alloc (.cells (c.setIfInBounds j v) t) := by
  rw [setCell_eq_setRow _ w.heap.size j c t (0, 0) v (heap_alloc_last w _), World.setRow_alloc_new]
theorem wp_load_row {P : Program} {o : Oper} {a : Act} {K : Act → World → Prop} {Q : Exit → Act → World → Prop} {w : World} {t : TypeId} {p : Operand} {v x : Value} (ho : o.op = .load t p) (hp : a.eval p = x)
    (hrun : (Instr.loadAt t x).run P w = .ok v w) (h : K (a.put o.dst v) w) : o.wp P a w K Q := by
  unfold Oper.wp
  have : (execOp a.eval o).run P w = .ok (.value v) w := by simp [execOp, ho, hp, hrun, Result.andThen]
  rw [this]
  exact h
theorem wp_store_row {P : Program} {o : Oper} {a : Act} {K : Act → World → Prop} {Q : Exit → Act → World → Prop} {w w' : World} {t : TypeId} {p q : Operand} {v x : Value} (ho : o.op = .store t p q) (hp : a.eval p = x) (hq : a.eval q = v)
    (hrun : (Instr.storeAt t x v).run P w = .ok () w') (h : K (a.put o.dst undef) w') : o.wp P a w K Q := by
  unfold Oper.wp
  have : (execOp a.eval o).run P w = .ok .skip w' := by simp [execOp, ho, hp, hq, hrun, Result.andThen]
  rw [this]
  exact h
theorem load_row (w : World) (g : Nat) (cs : Array Value) (hg : w.heap[g]? = some (.cells cs 116 (0, 0))) (hs : cs.size = 256) :
    (Instr.loadAt 116 (.pointer (some ⟨g, 0, none⟩))).run Try.prog w = .ok (.agg cs) w := by
  simp only [Instr.loadAt, Instr.sureAddr, Sem.run_bind, Sem.run_pure, Result.andThen]
  exact run_loadVar_row w g 116 116 cs (0, 0) _ hg Try.underlying116 rfl (by rw [hs]; exact (zero_of_info info_tbl).2)
theorem store_row (w : World) (g : Nat) (old cs : Array Value) (hg : w.heap[g]? = some (.cells old 116 (0, 0))) (ho : old.size = 256) (hs : cs.size = 256) (h1 : cs.all (·.oneCell') = true) :
    (Instr.storeAt 116 (.pointer (some ⟨g, 0, none⟩)) (.agg cs)).run Try.prog w = .ok () (w.setRow g cs) := by
  simp only [Instr.storeAt, Instr.sureAddr, Sem.run_bind, Sem.run_pure, Result.andThen]
  exact run_storeVar_row w g 116 116 old cs hg (by rw [hs]; exact (zero_of_info info_tbl).2) (by omega) h1
theorem below_setRow {B g : Nat} {a w : World} (h : Below B a w) (hg : B ≤ g) (cs : Array Value) : Below B a (w.setRow g cs) := by
  refine ⟨h.os, h.tape, h.output, ?_, fun k hk => ?_⟩
  · show a.heap.size ≤ (w.heap.modify g _).size
    rw [Array.size_modify]
    exact h.size
  · show (w.heap.modify g _)[k]? = _
    rw [Array.getElem?_modify, if_neg (by omega)]
    exact h.block k hk
set_option maxRecDepth 100000 in
set_option maxHeartbeats 1000000 in
theorem halved_any (C D : Nat) (h : sh C = D) (hC : C ≤ 4294967295) (w : World) :
    Calls Try.prog 82 #[.int .u32 (C : Int)] w fun e w' => e = .returned (.int .u32 (D : Int)) ∧ w = w' := by
  have hand := u32_and_nat C 1 (by omega) (by decide)
  rw [Nat.and_one_is_mod] at hand
  have hand : bits .and .u32 (C : Int) 1 = ((C % 2 : Nat) : Int) := hand
  have b2 : C % 2 ≤ 1 := by omega
  by_cases h2 : C % 2 = 1
  · have hq := sh_odd (X := C) (by omega) h2
    rw [h] at hq
    rw [h2] at hand
    have ht : (((1 : Nat) : Int) == 1) = true := by decide
    go_enter Try.func82, Try.ntmps82
    go_wp2
    go_ret
    exact ⟨rfl, rfl⟩
  · have hq : (C : Int) / 2 = (D : Nat) := by rw [← h, sh_if, if_neg h2]; omega
    rw [show C % 2 = 0 by omega] at hand
    have ht : (((0 : Nat) : Int) == 1) = false := by decide
    go_enter Try.func82, Try.ntmps82
    go_wp2
    go_ret
    exact ⟨rfl, rfl⟩
theorem pow7_half {B : Nat} (hB : pow7 B) : pow7 (B / 2) ∧ B ≠ 1 ∨ B = 1 := by
  unfold pow7 at *
  rcases hB with rfl | rfl | rfl | rfl | rfl | rfl | rfl | rfl <;> simp
set_option maxHeartbeats 4000000 in
set_option maxRecDepth 100000 in
theorem rests_any (w : World) :
    Calls Try.prog 65 #[] w fun e w' => e = .returned (.agg full) ∧ Below w.heap.size w w' := by
  obtain ⟨hz, hi⟩ := zero_of_info info_tbl
  generalize e0 : ti 128 0 = Z at hz
  have E0 := Lib.hid e0
  clear e0
  go_enter Try.func65, Try.ntmps65
  go_wp2_with fail
  obtain ⟨w1, ew1⟩ : ∃ w1, w1 = w.alloc (.cells Z 116) := ⟨_, rfl⟩
  have hs1 : w.heap.size + 1 = w1.heap.size := by
    rw [ew1]
    show _ = (w.heap.push _).size
    simp
  have hb1 : Below w.heap.size w w1 := by
    rw [ew1]
    exact (Below.refl _ _).alloc (Nat.le_refl _) _
  have hres : w1.heap[w.heap.size]? = some (.cells Z 116 (0, 0)) := by
    rw [ew1]
    exact heap_alloc_last w _
  rw [← ew1, hs1]
  clear ew1
  have hblk : (w1.alloc (.cells Z 116)).heap[w1.heap.size]? = some (.cells Z 116 (0, 0)) := heap_alloc_last w1 _
  have hb2 : Below w1.heap.size w1 (w1.alloc (.cells Z 116)) := (Below.refl _ _).alloc (Nat.le_refl _) _
  go_loopw [2, 3] (fun c b wr => ∃ B C : Nat, ∃ T, c = .int .u32 (C : Int) ∧ b = .int .i64 (B : Int) ∧ B ≤ 128 ∧ C ≤ 4294967295 ∧ wr.heap[w1.heap.size]? = some (.cells T 116 (0, 0)) ∧ Below w1.heap.size w1 wr ∧ Hid (pow7 B ∧ C = shn 8 (2 * B) ∧ T = ti B 0 ∨ B = 0 ∧ T = full)) (fun _ b _ => (intOf b).toNat)
  case atStart => exact ⟨128, 1, Z, rfl, rfl, by omega, by omega, hblk, hb2, .inl ⟨.inl rfl, shn_first.symm, E0.out.symm⟩⟩
  case round =>
    clear hblk hb2
    obtain ⟨B, C, T, rfl, rfl, hB, hC, hblk, hbl, HH⟩ := hrel
    by_cases hB0 : 0 < B
    · have hd : decide ((0 : Int) < (B : Int)) = true := decide_eq_true (by omega)
      obtain ⟨hp, hCe, rfl⟩ := HH.out.resolve_right (by omega)
      have HP := Lib.hid hp
      have hD := shn_below 8 (c := B) (by omega)
      have HS : Hid (sh C = shn 8 B) := by
        show sh C = shn 8 B
        rw [hCe, shn_half]
      obtain ⟨D, eD⟩ : ∃ D, shn 8 B = D := ⟨_, rfl⟩
      rw [eD] at HS hD
      have HD := Lib.hid eD
      obtain ⟨K, eK⟩ : ∃ K : Nat, 2 * B = K := ⟨_, rfl⟩
      have hK : 2 * (B : Int) = (K : Int) := by omega
      have bK : K ≤ 256 := by omega
      have HK := Lib.hid eK
      have HH' := Lib.hid (pow7_half hp)
      clear hp hCe eD HH
      go_wp2_with (go_at_call 82; refine (halved_any C D HS.out hC _).mono ?_; rintro e w' ⟨rfl, rfl⟩)
      go_loopw [4] (fun i wr => ∃ I : Nat, I ≤ 256 ∧ i = .int .i64 (I : Int) ∧ Hid (I % K = 0) ∧ wr.heap[w1.heap.size]? = some (.cells (ti B I) 116 (0, 0)) ∧ Below w1.heap.size w1 wr) (fun i _ => 256 - (intOf i).toNat)
      case atStart => exact ⟨0, Nat.zero_le _, rfl, Nat.zero_mod _, hblk, hbl⟩
      case round =>
        clear hblk hbl
        obtain ⟨I, hI, rfl, HM, hblk, hbl⟩ := hrel
        by_cases hlt : I < 256
        · have hd2 : decide ((I : Int) < 256) = true := decide_eq_true (by omega)
          have hm : I % (2 * B) = 0 := by rw [HK.out]; exact HM.out
          have hcell : Hid (wr.cell? ⟨w1.heap.size, I, none⟩ = some (.int .u32 ((shn 8 I : Nat) : Int))) := by
            show _ = _
            rw [cell_of_block hblk I, ti_get B I I hlt, if_pos (.inl hm)]
          have hsum := shn_sum HP.out hlt hm
          have hJ : I + B < 256 ∧ I + K ≤ 256 ∧ (I + K) % K = 0 := by
            have h1 := HM.out
            have h2 := HK.out
            have h3 := HP.out
            clear hcell hsum
            unfold pow7 at h3
            rcases h3 with rfl | rfl | rfl | rfl | rfl | rfl | rfl | rfl <;> subst h2 <;> omega
          have hcellJ := (cell_of_block hblk (I + B)).trans (ti_get B I (I + B) hJ.1)
          have hset := ti_set HP.out hlt hm
          rw [HK.out] at hset
          have b1 := shn_below 8 (c := I) (by omega)
          have b2 := shn_below 8 (c := I + B) (by omega)
          have hq := u32_xor_nat (shn 8 I) D (by omega) (by omega)
          rw [← HD.out, ← hsum] at hq
          rw [HD.out] at hq
          have hfr := unfrozen_of_block hblk (I + B)
          have HB := Lib.hid (block_setCell (i := I + B) hblk (.int .u32 ((shn 8 (I + B) : Nat) : Int)))
          rw [hset] at HB
          clear hset hm hsum
          have hcell := hcell.out
          generalize (if (I + B) % (2 * B) = 0 ∨ ((I + B) % B = 0 ∧ I + B < I) then ((shn 8 (I + B) : Nat) : Int) else 0) = OLD at *
          generalize shn 8 I = X at *
          generalize shn 8 (I + B) = Y at *
          obtain ⟨hJ1, hJ2, hJ3⟩ := hJ
          have HJ3 := Lib.hid hJ3
          clear hJ3
          have eJ : (I : Int) + (B : Int) = ((I + B : Nat) : Int) := by omega
          have eL : (I : Int) + (K : Int) = ((I + K : Nat) : Int) := by omega
          generalize I + B = J at *
          generalize I + K = L at *
          have hj0 : (0 : Int) ≤ (J : Int) := by omega
          have hj1 : (J : Int) < 256 := by omega
          have hI0 : (0 : Int) ≤ (I : Int) := by omega
          have hI1 : (I : Int) < 256 := by omega
          have hLI : I < L := by omega
          go_wp2_with fail
          go_roundw
          case rel => exact ⟨L, by omega, rfl, HJ3.out, HB.out, hbl.setCell (p := ⟨w1.heap.size, J, none⟩) (Nat.le_refl _) _⟩
          case measure => simp [intOf]; omega
        · have hd2 : decide ((I : Int) < 256) = false := decide_eq_false (by omega)
          obtain rfl : I = 256 := by omega
          have hE : (B : Int) / 2 = ((B / 2 : Nat) : Int) := by omega
          have hE2 : Int.tdiv (B : Int) 2 = ((B / 2 : Nat) : Int) := by rw [Int.tdiv_eq_ediv_of_nonneg (by omega)]; omega
          have hlt2 : B / 2 < B := by omega
          have HT : Hid (∃ T, ti B 256 = T ∧ (pow7 (B / 2) ∧ D = shn 8 (2 * (B / 2)) ∧ T = ti (B / 2) 0 ∨ B / 2 = 0 ∧ T = full)) := by
            refine ⟨_, rfl, ?_⟩
            rcases HH'.out with ⟨h, h1⟩ | h
            · refine .inl ⟨h, ?_, ti_next HP.out h1⟩
              rw [← HD.out]
              have h3 := HP.out
              unfold pow7 at h3
              rcases h3 with rfl | rfl | rfl | rfl | rfl | rfl | rfl | rfl <;> first | rfl | omega
            · subst h
              exact .inr ⟨rfl, ti_last⟩
          obtain ⟨T2, eT2, HT2⟩ := HT.out
          rw [eT2] at hblk
          have HT2 := Lib.hid HT2
          clear HT eT2
          generalize B / 2 = E at *
          go_wp2_with fail
          go_roundw
          case rel => exact ⟨E, D, T2, rfl, rfl, by omega, by omega, hblk, hbl, HT2.out⟩
          case measure => simp [intOf]; omega
    · have hd : decide ((0 : Int) < (B : Int)) = false := decide_eq_false (by omega)
      obtain rfl : B = 0 := by omega
      obtain ⟨_, rfl⟩ := HH.out.resolve_left (fun h => by have := h.1; unfold pow7 at this; omega)
      clear HH
      go_wp2_with fail
      refine wp_load_row rfl rfl (load_row wr w1.heap.size full hblk full_size) ?_
      have hres2 : wr.heap[w.heap.size]? = some (.cells Z 116 (0, 0)) := (hbl.block w.heap.size (by omega)).trans hres
      have hsize := full_size
      have hst : (storeCells ⟨w.heap.size, 0, none⟩ full.toList).run Try.prog wr = .ok () (wr.setRow w.heap.size full) := by
        have h := run_storeCells_from (P := Try.prog) w.heap.size 116 full.toList 0 Z wr hres2 (by rw [← E0.out, ti_size]; simp [full_size]) (fun v hv => (Array.all_eq_true_iff_forall_mem.1 full_cells) v (by simpa using hv))
        simpa using h
      have hblk2 : (wr.setRow w.heap.size full).heap[w.heap.size]? = some (.cells full 116 (0, 0)) := setRow_heap wr w.heap.size Z _ 116 (0, 0) hres2
      have hfin : Below w.heap.size w (wr.setRow w.heap.size full) := below_setRow (hb1.trans (hbl.mono hb1.size)) (Nat.le_refl _) _
      have HLD : Hid ((loadVar 116 ⟨w.heap.size, 0, none⟩).run Try.prog (wr.setRow w.heap.size full) = .ok (.agg full) (wr.setRow w.heap.size full)) := run_loadVar_row _ w.heap.size 116 116 full (0, 0) _ hblk2 Try.underlying116 rfl (by rw [full_size]; exact hi)
      generalize eT : full = T at *
      have ET := Lib.hid eT
      clear eT
      go_wp2_with fail
      refine bodyPost_ret (v := .agg T) ?_ rfl ⟨by rw [ET.out], hfin⟩
      exact results_cell_row (P := Try.prog) (p := 0) (ty := 116) (d := _) rfl _ _ w.heap.size 116 T (0, 0) rfl hblk2 Try.underlying116 rfl (by rw [← ET.out, full_size]; exact hi)
theorem not_code (x : Nat) (hx : x ≤ 4294967295) : bits .xor .u32 IntKind.u32.max (x : Int) = ((4294967295 - x : Nat) : Int) := by
  have h := u32_xor_nat 4294967295 x (by decide) (by omega)
  rw [Nat.xor_comm, ← flip_xor (show x < 4294967296 by omega)] at h
  exact h
theorem byte_code (x : Nat) : IntKind.u8.wrap (x : Int) = ((x % 256 : Nat) : Int) := by
  rw [IntKind.wrap_u8']
  omega
set_option maxHeartbeats 4000000 in
set_option maxRecDepth 100000 in
theorem crc_row (s b off cap len : Nat) (zs : List Nat) (w : World) (hs : s ≤ 4294967295) (hz : zs.length = len) (hbig : len ≤ 140737488355328) (h8 : bytes zs) (hlt : b < w.heap.size) (hc : ∀ j, j < len → w.cell? ⟨b, off + j, none⟩ = some (.int .u8 (zs.getD j 0 : Nat))) :
    Calls Try.prog 50 #[.int .u32 (s : Int), .slice (some ⟨b, off, none⟩) len cap] w fun e w' => e = .returned (.int .u32 (crc s zs : Nat)) ∧ Below w.heap.size w w' := by
  obtain ⟨hzero, hi⟩ := zero_of_info info_tbl
  obtain ⟨Z, eZ⟩ : ∃ Z, ti 128 0 = Z := ⟨_, rfl⟩
  rw [eZ] at hzero
  have E0 := Lib.hid eZ
  clear eZ
  have HC := Lib.hid hc
  have HZ := Lib.hid hz
  have HB := Lib.hid (bytes_get h8)
  have HT : Hid (∀ k, reg (4294967295 - s) (zs.take k) < 4294967296) := fun k => reg_below (by omega) (fun b hb => h8 b (List.mem_of_mem_take hb))
  clear hc hz h8
  have HA : Hid (crc s zs = 4294967295 - reg (4294967295 - s) zs) := rfl
  have h2 : crc s zs ≤ 4294967295 := by have := crc_below s zs; omega
  generalize crc s zs = A at *
  have HN : Hid (reg (4294967295 - s) (zs.take 0) = 4294967295 - s) := by
    show reg (4294967295 - s) (zs.take 0) = 4294967295 - s
    rw [List.take_zero, reg_nil]
  have e0 := not_code s hs
  have b0 : 4294967295 - s ≤ 4294967295 := by omega
  generalize 4294967295 - s = P at *
  go_enter Try.func50, Try.ntmps50
  go_wp2_with fail
  go_at_call 65
  refine (rests_any w).mono ?_
  rintro e w1 ⟨rfl, hb1⟩
  have hsize := full_size
  have hst : ∀ W : World, (storeCells ⟨W.heap.size, 0, none⟩ (full).toList).run Try.prog (W.alloc (.cells Z 116)) = .ok () (W.alloc (.cells (full) 116)) := fun W => run_storeCells_new W 116 Z (full) (by rw [hsize]; exact hi) (by rw [hsize, ← E0.out, ti_size]) (full_cells)
  have HCELL : Hid (∀ j, j < 256 → (w1.alloc (.cells (full) 116)).cell? ⟨w1.heap.size, j, none⟩ = some (.int .u32 ((shn 8 j : Nat) : Int))) := fun j hj => by
    rw [cell_of_block (heap_alloc_last w1 _), full_get j hj]
  have hb2 : Below w.heap.size w (w1.alloc (.cells (full) 116)) := hb1.alloc hb1.size _
  generalize full = T at *
  go_wp2_with fail
  obtain ⟨w2, e2⟩ : ∃ w2, w2 = w1.alloc (.cells T 116) := ⟨_, rfl⟩
  rw [← e2] at hb2 HCELL ⊢
  clear e2 hst hsize hzero hi hb1 E0
  go_loop [6, 14] (fun x i => ∃ k : Nat, k ≤ len ∧ x = .int .u32 (reg P (zs.take k) : Nat) ∧ i = .int .i64 k) (fun _ i => len - (intOf i).toNat)
  case atStart => exact ⟨0, Nat.zero_le _, by first | rw [HN.out] | rw [HN.out, e0], rfl⟩
  case round =>
    obtain ⟨k, hk, rfl, rfl⟩ := hrel
    have hX := HT.out k
    have hb := HB.out k
    have HK : Hid (k < len → w2.cell? ⟨b, off + k, none⟩ = some (.int .u8 (zs.getD k 0 : Nat))) := fun h => (hb2.cell (p := ⟨b, off + k, none⟩) hlt).trans (HC.out k h)
    have HE : Hid (k < len → reg P (zs.take (k + 1)) = crcByte (reg P (zs.take k)) (zs.getD k 0)) := fun h => reg_step P zs k (by rw [HZ.out]; exact h)
    have HF : Hid (k = len → 4294967295 - reg P (zs.take k) = A) := fun h => by rw [h, ← HZ.out, List.take_length, HA.out]
    generalize reg P (zs.take k) = X at *
    generalize zs.getD k 0 = Y at *
    by_cases hlk : k < len
    · have hd : decide ((k : Int) < (len : Int)) = true := decide_eq_true (by omega)
      have hcell := HK.out hlk
      have HE := Lib.hid (HE.out hlk)
      have HTB := Lib.hid (crc_table X Y (by omega))
      have hw8 := byte_code X
      have hx8 := u8_xor_nat (X % 256) Y (by omega) (by omega)
      have bI := byte_xor (a := X % 256) (b := Y) (by omega) (by omega)
      have bS := shn_below 8 (c := (X % 256) ^^^ Y) (by omega)
      have htc := HCELL.out ((X % 256) ^^^ Y) bI
      have hq := u32_xor_nat (X / 256) (shn 8 ((X % 256) ^^^ Y)) (by omega) (by omega)
      rw [Nat.xor_comm (X / 256), ← HTB.out, Int.natCast_ediv] at hq
      have hq : bits .xor .u32 ((X : Int) / 256) ((shn 8 ((X % 256) ^^^ Y) : Nat) : Int) = ((crcByte X Y : Nat) : Int) := hq
      have bR := crcByte_below (c := X) (b := Y) (by omega) (by omega)
      clear HTB
      generalize crcByte X Y = R at *
      generalize shn 8 ((X % 256) ^^^ Y) = S at *
      generalize (X % 256) ^^^ Y = I at *
      generalize X % 256 = L at *
      go_wp2
      go_round
      case rel => exact ⟨k + 1, by omega, by first | rw [HE.out] | rw [HE.out, hq], by go_num⟩
      case measure => simp [intOf]; omega
    · have hd : decide ((k : Int) < (len : Int)) = false := decide_eq_false (by omega)
      have he : k = len := by omega
      have ha := not_code X (by omega)
      rw [HF.out he] at ha
      go_wp2
      go_ret
      exact ⟨rfl, hb2⟩
set_option maxHeartbeats 4000000 in
set_option maxRecDepth 100000 in
theorem crc_none (s : Nat) (o : Option Addr) (cap : Nat) (w : World) (hs : s ≤ 4294967295) :
    Calls Try.prog 50 #[.int .u32 (s : Int), .slice o 0 cap] w fun e w' => e = .returned (.int .u32 (crc s [] : Nat)) ∧ Below w.heap.size w w' := by
  obtain ⟨hzero, hi⟩ := zero_of_info info_tbl
  obtain ⟨Z, eZ⟩ : ∃ Z, ti 128 0 = Z := ⟨_, rfl⟩
  rw [eZ] at hzero
  have E0 := Lib.hid eZ
  clear eZ
  have e0 := not_code s hs
  have e1 := not_code (4294967295 - s) (by omega)
  have hA : 4294967295 - (4294967295 - s) = crc s [] := by
    rw [crc_nil (by omega)]
    omega
  rw [hA] at e1
  have h2 : crc s [] ≤ 4294967295 := by have := crc_below s []; omega
  generalize crc s [] = A at *
  have b0 : 4294967295 - s ≤ 4294967295 := by omega
  clear hA
  generalize 4294967295 - s = P at *
  go_enter Try.func50, Try.ntmps50
  go_wp2_with fail
  go_at_call 65
  refine (rests_any w).mono ?_
  rintro e w1 ⟨rfl, hb1⟩
  have hsize := full_size
  have hst : ∀ W : World, (storeCells ⟨W.heap.size, 0, none⟩ (full).toList).run Try.prog (W.alloc (.cells Z 116)) = .ok () (W.alloc (.cells (full) 116)) := fun W => run_storeCells_new W 116 Z (full) (by rw [hsize]; exact hi) (by rw [hsize, ← E0.out, ti_size]) (full_cells)
  have hb2 : Below w.heap.size w (w1.alloc (.cells (full) 116)) := hb1.alloc hb1.size _
  generalize full = T at *
  go_wp2_with fail
  obtain ⟨w2, e2⟩ : ∃ w2, w2 = w1.alloc (.cells T 116) := ⟨_, rfl⟩
  rw [← e2] at hb2 ⊢
  clear e2 hst hsize hzero hi hb1 E0
  refine wp_loop_rounds 1 ?_
  rw [rounds_succ]
  go_wp2
  go_ret
  exact ⟨rfl, hb2⟩
theorem code (s : Nat) (v : Value) (zs : List Nat) (w : World) (hs : s ≤ 4294967295) (h : Fx.bytesIn w v zs) (h8 : ∀ x ∈ zs, x < 256) (hl : zs.length ≤ 140737488355328) :
    Calls Try.prog 50 #[.int .u32 (s : Int), v] w fun e w' => e = .returned (.int .u32 (crc s zs : Nat)) ∧ Below w.heap.size w w' := by
  rcases of_listed h with ⟨⟨o, cap, rfl, ho⟩, rfl⟩ | ⟨b, off, cap, rfl, hle, hlt, hc⟩
  · exact crc_none s o cap w hs
  · exact crc_row s b off cap zs.length zs w hs rfl hl h8 hlt hc
theorem ref (s : Nat) (v : Value) (zs : List Nat) (w : World) (hs : s ≤ 4294967295) (h : Fx.bytesIn w v zs) (h8 : ∀ x ∈ zs, x < 256) (hl : zs.length ≤ 140737488355328) :
    Calls Try.prog 46 #[.int .u32 (s : Int), v] w fun e w' => e = .returned (.int .u32 (crc s zs : Nat)) ∧ w = w' :=
  rcrc_any s v zs w hs (of_listed h) h8 hl
end Go.Proofs.Ytefdlidjdmlnaaa.Ad.Cr
