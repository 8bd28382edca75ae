/-
  Adler over a list of bytes: the code's own, and the document's. The conditions are that the sum is of its kind and the list reads as bytes.
  What inflate tells are bytes: plain. No condition.
  Plain zlib: a stream's bytes, heads, what a stream says. No condition but those that are said.
-/
import Derived.WalkKit
import Derived.Laws.Bits64
import Derived.Laws.BitsAllLaws
import Derived.Lib.Hide
import Derived.Handy
import Derived.Test.YtefdlidjdmlnaaaRegion
import Derived.Test.YtefdlidjdmlnaaaInfR
namespace Go.Proofs.Ytefdlidjdmlnaaa.Ad
open Go Go.RowKit
set_option linter.unusedVariables false
/-- Adler: its halves. -/
def adlerByte (p : Nat × Nat) (b : Nat) : Nat × Nat := ((p.1 + b) % 65521, (p.2 + (p.1 + b) % 65521) % 65521)
def halves (s : Nat) : Nat × Nat := (s % 65536 % 65521, s / 65536 % 65521)
def adlerReg (p : Nat × Nat) (l : List Nat) : Nat × Nat := l.foldl adlerByte p
def joined (p : Nat × Nat) : Nat := p.2 * 65536 + p.1
def adler (s : Nat) (l : List Nat) : Nat := joined (adlerReg (halves s) l)
theorem adlerReg_cons (p : Nat × Nat) (b : Nat) (l : List Nat) : adlerReg p (b :: l) = adlerReg (adlerByte p b) l := by
  unfold adlerReg
  rw [List.foldl_cons]
theorem adlerReg_nil (p : Nat × Nat) : adlerReg p [] = p := by
  unfold adlerReg
  rw [List.foldl_nil]
theorem adlerReg_append (p : Nat × Nat) (l m : List Nat) : adlerReg p (l ++ m) = adlerReg (adlerReg p l) m := by
  unfold adlerReg
  rw [List.foldl_append]
def small (p : Nat × Nat) : Prop := p.1 < 65521 ∧ p.2 < 65521
theorem adlerByte_small (p : Nat × Nat) (b : Nat) : small (adlerByte p b) := ⟨Nat.mod_lt _ (by decide), Nat.mod_lt _ (by decide)⟩
theorem adlerReg_small {p : Nat × Nat} (h : small p) (l : List Nat) : small (adlerReg p l) := by
  induction l generalizing p with
  | nil => rw [adlerReg_nil]; exact h
  | cons b l ih => rw [adlerReg_cons]; exact ih (adlerByte_small p b)
theorem halves_small (s : Nat) : small (halves s) := ⟨Nat.mod_lt _ (by decide), Nat.mod_lt _ (by decide)⟩
theorem joined_below {p : Nat × Nat} (h : small p) : joined p < 4294967296 := by
  have h1 := h.1
  have h2 := h.2
  unfold joined
  omega
theorem halves_joined {p : Nat × Nat} (h : small p) : halves (joined p) = p := by
  have h1 := h.1
  have h2 := h.2
  obtain ⟨x, y⟩ := p
  unfold halves joined
  simp only at h1 h2 ⊢
  refine Prod.ext ?_ ?_
  · show (y * 65536 + x) % 65536 % 65521 = x
    omega
  · show (y * 65536 + x) / 65536 % 65521 = y
    omega
theorem adler_below (s : Nat) (l : List Nat) : adler s l < 4294967296 := joined_below (adlerReg_small (halves_small s) l)
theorem adler_append (s : Nat) (l m : List Nat) : adler (adler s l) m = adler s (l ++ m) := by
  unfold adler
  rw [halves_joined (adlerReg_small (halves_small s) l), adlerReg_append]
/-- A slice's value that reads as these bytes. -/
def reads (w : World) (v : Value) (zs : List Nat) : Prop :=
  ((∃ o cap, v = .slice o 0 cap ∧ (o = none → cap = 0)) ∧ zs = []) ∨ ∃ b off cap, v = .slice (some ⟨b, off, none⟩) zs.length cap ∧ zs.length ≤ cap ∧ b < w.heap.size ∧ ∀ j, j < zs.length → w.cell? ⟨b, off + j, none⟩ = some (.int .u8 (zs.getD j 0 : Nat))
def bytes (zs : List Nat) : Prop := ∀ b ∈ zs, b < 256
theorem bytes_get {zs : List Nat} (h : bytes zs) (j : Nat) : zs.getD j 0 ≤ 255 := by
  by_cases hj : j < zs.length
  · have : zs.getD j 0 = zs[j] := by simp [List.getD, hj]
    rw [this]
    have := h _ (List.getElem_mem hj)
    omega
  · have : zs.getD j 0 = 0 := by simp [List.getD, hj]
    omega
theorem take_next {α : Type} (f : α → Nat → α) (x : α) (zs : List Nat) (k : Nat) (hk : k < zs.length) : (zs.take (k + 1)).foldl f x = f ((zs.take k).foldl f x) (zs.getD k 0) := by
  rw [List.take_add_one, List.foldl_append, List.getElem?_eq_getElem hk, Option.toList_some, List.foldl_cons, List.foldl_nil]
  simp only [List.getD, List.getElem?_eq_getElem hk, Option.getD_some]
theorem adler_step (p : Nat × Nat) (zs : List Nat) (k : Nat) (hk : k < zs.length) : adlerReg p (zs.take (k + 1)) = adlerByte (adlerReg p (zs.take k)) (zs.getD k 0) := take_next _ _ _ _ hk
theorem ret_u32 {a b : Int} (h : a = b) : Ending.returned (.int .u32 a) = Ending.returned (.int .u32 b) := by rw [h]
theorem wrap_u32_nat (n : Nat) (h : n < 4294967296) : IntKind.u32.wrap (n : Int) = (n : Int) := by
  rw [IntKind.wrap_u32']
  omega
set_option maxRecDepth 100000 in
set_option maxHeartbeats 1000000 in
theorem radler_row (s b off cap len : Nat) (zs : List Nat) (w : World) (hs : s ≤ 4294967295) (hz : zs.length = len) (hbig : len ≤ 140737488355328) (h8 : bytes zs) (hc : ∀ j, j < len → w.cell? ⟨b, off + j, none⟩ = some (.int .u8 (zs.getD j 0 : Nat))) :
    Calls Try.prog 45 #[.int .u32 (s : Int), .slice (some ⟨b, off, none⟩) len cap] w fun e w' => e = .returned (.int .u32 (adler s zs : Nat)) ∧ w = w' := by
  have HZ := Lib.hid hz
  have HC := Lib.hid hc
  have HB := Lib.hid (bytes_get h8)
  clear hz hc h8
  have h0 := (halves_small s).1
  have h1 := (halves_small s).2
  have e0 : (s : Int) % 65536 % 65521 = ((halves s).1 : Nat) := by
    unfold halves
    show _ = ((s % 65536 % 65521 : Nat) : Int)
    omega
  have e1 : (s : Int) / 65536 % 65521 = ((halves s).2 : Nat) := by
    unfold halves
    show _ = ((s / 65536 % 65521 : Nat) : Int)
    omega
  have HA : Hid (adler s zs = joined (adlerReg (halves s) zs)) := rfl
  have HS := Lib.hid (halves_small s)
  have h2 : adler s zs ≤ 4294967295 := by have := adler_below s zs; omega
  generalize adler s zs = A at *
  have HT : Hid (∀ k, small (adlerReg (halves s) (zs.take k))) := fun k => adlerReg_small HS.out _
  have HN : Hid (adlerReg (halves s) (zs.take 0) = halves s) := by
    show adlerReg (halves s) (zs.take 0) = halves s
    rw [List.take_zero, adlerReg_nil]
  generalize halves s = P at *
  go_enter Try.func45, Try.ntmps45
  go_wp2
  go_loop [5, 6, 7] (fun x y i => ∃ k : Nat, k ≤ len ∧ x = .int .u32 ((adlerReg P (zs.take k)).1 : Nat) ∧ y = .int .u32 ((adlerReg P (zs.take k)).2 : Nat) ∧ i = .int .i64 k) (fun _ _ i => len - (intOf i).toNat)
  case atStart => exact ⟨0, Nat.zero_le _, by rw [HN.out, e0], by rw [HN.out, e1], rfl⟩
  case round =>
    obtain ⟨k, hk, rfl, rfl, rfl⟩ := hrel
    have hX := (HT.out k).1
    have hY := (HT.out k).2
    have hb := HB.out k
    have HK : Hid (k < len → w.cell? ⟨b, off + k, none⟩ = some (.int .u8 (zs.getD k 0 : Nat))) := HC.out k
    have HE : Hid (k < len → adlerReg P (zs.take (k + 1)) = adlerByte (adlerReg P (zs.take k)) (zs.getD k 0)) := fun h => adler_step P zs k (by rw [HZ.out]; exact h)
    have HF : Hid (k = len → joined (adlerReg P (zs.take k)) = A) := fun h => by rw [h, ← HZ.out, List.take_length, HA.out]
    generalize adlerReg P (zs.take k) = Q at *
    generalize zs.getD k 0 = Z at *
    obtain ⟨X, Y⟩ := Q
    simp only at hX hY
    by_cases hlt : k < len
    · have hd : decide ((k : Int) < (len : Int)) = true := decide_eq_true (by omega)
      have hcell := HK.out hlt
      have HE := Lib.hid (HE.out hlt)
      obtain ⟨X1, ex, HX1, bx⟩ : ∃ X1 : Nat, ((X : Int) + (Z : Int)) % 65521 = (X1 : Int) ∧ Hid (X1 = (X + Z) % 65521) ∧ X1 < 65521 := ⟨(X + Z) % 65521, by omega, rfl, by omega⟩
      obtain ⟨Y1, ey, HY1, by1⟩ : ∃ Y1 : Nat, ((Y : Int) + (X1 : Int)) % 65521 = (Y1 : Int) ∧ Hid (Y1 = (Y + X1) % 65521) ∧ Y1 < 65521 := ⟨(Y + X1) % 65521, by omega, rfl, by omega⟩
      go_wp2
      go_round
      case rel => exact ⟨k + 1, by omega, by rw [HE.out, ex, HX1.out]; rfl, by rw [HE.out, ey, HY1.out, HX1.out]; rfl, by go_num⟩
      case measure => simp [intOf]; omega
    · have hd : decide ((k : Int) < (len : Int)) = false := decide_eq_false (by omega)
      have he : k = len := by omega
      have ha : (Y : Int) * 65536 + (X : Int) = (A : Int) := by
        have := HF.out he
        unfold joined at this
        simp only at this
        omega
      go_wp2
      go_ret
      exact ⟨rfl, rfl⟩
set_option maxRecDepth 100000 in
set_option maxHeartbeats 1000000 in
theorem radler_nil (s : Nat) (o : Option Addr) (cap : Nat) (w : World) (hs : s ≤ 4294967295) :
    Calls Try.prog 45 #[.int .u32 (s : Int), .slice o 0 cap] w fun e w' => e = .returned (.int .u32 (adler s [] : Nat)) ∧ w = w' := by
  have hA : (s : Int) / 65536 % 65521 * 65536 + (s : Int) % 65536 % 65521 = (adler s [] : Nat) := by
    unfold adler
    rw [adlerReg_nil]
    show _ = ((s / 65536 % 65521 * 65536 + s % 65536 % 65521 : Nat) : Int)
    omega
  have h2 : adler s [] ≤ 4294967295 := by have := adler_below s []; omega
  generalize adler s [] = A at *
  go_enter Try.func45, Try.ntmps45
  go_wp2
  go_rounds 1
  all_goals go_wp2
  all_goals go_ret
  all_goals exact ⟨rfl, rfl⟩
theorem radler_any (s : Nat) (v : Value) (zs : List Nat) (w : World) (hs : s ≤ 4294967295) (hr : reads w v zs) (h8 : bytes zs) (hl : zs.length ≤ 140737488355328) :
    Calls Try.prog 45 #[.int .u32 (s : Int), v] w fun e w' => e = .returned (.int .u32 (adler s zs : Nat)) ∧ w = w' := by
  rcases hr with ⟨⟨o, cap, rfl, ho⟩, rfl⟩ | ⟨b, off, cap, rfl, hle, hlt, hc⟩
  · exact radler_nil s o cap w hs
  · exact radler_row s b off cap zs.length zs w hs rfl hl h8 hc
theorem low_code (s : Nat) (hs : s ≤ 4294967295) : bits .and .u32 (s : Int) 65535 = ((s % 65536 : Nat) : Int) := by
  have := u32_and_nat s 65535 (by omega) (by decide)
  rw [show (65535 : Nat) = 2 ^ 16 - 1 from rfl, Nat.and_two_pow_sub_one_eq_mod] at this
  exact this
theorem join_code (x y : Nat) (hx : x < 65521) (hy : y < 65521) : bits .or .u32 (IntKind.u32.wrap ((y : Int) * 65536)) (x : Int) = ((y * 65536 + x : Nat) : Int) := by
  have e : IntKind.u32.wrap ((y : Int) * 65536) = ((y * 65536 : Nat) : Int) := by
    rw [IntKind.wrap_u32']
    omega
  rw [e, u32_or_nat _ _ (by omega) (by omega)]
  congr 1
  have := Nat.shiftLeft_add_eq_or_of_lt (show x < 2 ^ 16 by omega) y
  rw [Nat.shiftLeft_eq] at this
  exact this.symm
theorem join_code2 (x y : Nat) (hx : x < 65521) (hy : y < 65521) : bits .or .u32 ((y : Int) * 65536) (x : Int) = ((y * 65536 + x : Nat) : Int) := by
  have h := join_code x y hx hy
  rw [IntKind.wrap_u32', Int.emod_eq_of_lt (by omega) (by omega)] at h
  exact h
set_option maxRecDepth 100000 in
theorem slice_to (b off n cap h : Nat) (i : Int) (hi : (h : Int) = i) (hh : h ≤ cap) (hc : 0 < cap) (w : World) :
    (Instr.slice 36 (.slice (some ⟨b, off, none⟩) n cap) none (some (.int .i64 i)) none).run Try.prog w = .ok (.slice (some ⟨b, off, none⟩) h cap) w := by
  subst hi
  have hs : (sizeOf (Try.prog.elem 36)).run Try.prog w = .ok 1 w := by rfl
  rw [run_slice_h w 36 (some ⟨b, off, none⟩) n cap Try.underlying36 .i64 h (by omega) (by omega), hs]
  have hadd : (⟨b, off, none⟩ : Addr).add 0 = ⟨b, off, none⟩ := by unfold Addr.add; split <;> simp_all
  have hne : ¬ cap = 0 := by omega
  simp [sliced, Result.andThen, hadd, hne]
def rawByte (p : Nat × Nat) (b : Nat) : Nat × Nat := (p.1 + b, p.2 + (p.1 + b))
def raw (p : Nat × Nat) (l : List Nat) : Nat × Nat := l.foldl rawByte p
theorem raw_cons (p : Nat × Nat) (b : Nat) (l : List Nat) : raw p (b :: l) = raw (rawByte p b) l := by
  unfold raw
  rw [List.foldl_cons]
theorem raw_nil (p : Nat × Nat) : raw p [] = p := by
  unfold raw
  rw [List.foldl_nil]
theorem raw_mod (p : Nat × Nat) (l : List Nat) : ((raw p l).1 % 65521, (raw p l).2 % 65521) = adlerReg (p.1 % 65521, p.2 % 65521) l := by
  induction l generalizing p with
  | nil => rw [raw_nil, adlerReg_nil]
  | cons b l ih =>
    rw [raw_cons, ih, adlerReg_cons]
    congr 1
    unfold rawByte adlerByte
    simp only
    refine Prod.ext ?_ ?_
    · show (p.1 + b) % 65521 = (p.1 % 65521 + b) % 65521
      omega
    · show (p.2 + (p.1 + b)) % 65521 = (p.2 % 65521 + (p.1 % 65521 + b) % 65521) % 65521
      omega
theorem raw_small {p : Nat × Nat} (h : small p) (l : List Nat) : ((raw p l).1 % 65521, (raw p l).2 % 65521) = adlerReg p l := by
  rw [raw_mod, Nat.mod_eq_of_lt h.1, Nat.mod_eq_of_lt h.2]
theorem raw_step (p : Nat × Nat) (zs : List Nat) (k : Nat) (hk : k < zs.length) : raw p (zs.take (k + 1)) = rawByte (raw p (zs.take k)) (zs.getD k 0) := take_next _ _ _ _ hk
theorem raw_most (p : Nat × Nat) (l : List Nat) (hl : bytes l) : (raw p l).1 ≤ p.1 + 255 * l.length ∧ 2 * (raw p l).2 ≤ 2 * p.2 + 2 * (p.1 * l.length) + 255 * (l.length * (l.length + 1)) := by
  induction l generalizing p with
  | nil => rw [raw_nil]; simp
  | cons b l ih =>
    have h := ih (rawByte p b) (fun d hd => hl d (by simp [hd]))
    have hb := hl b (by simp)
    rw [raw_cons, List.length_cons]
    generalize raw (rawByte p b) l = q at *
    unfold rawByte at h
    simp only at h
    generalize l.length = n at *
    refine ⟨by omega, ?_⟩
    have h2 := h.2
    have e1 : (p.1 + b) * n = p.1 * n + b * n := Nat.add_mul _ _ _
    have e2 : p.1 * (n + 1) = p.1 * n + p.1 := by rw [Nat.mul_add, Nat.mul_one]
    have e3 : (n + 1) * (n + 1 + 1) = n * (n + 1) + 2 * (n + 1) := by rw [Nat.mul_add, Nat.mul_one, Nat.add_mul, Nat.one_mul]; omega
    have e4 : b * n ≤ 255 * n := Nat.mul_le_mul_right n (by omega)
    rw [e1] at h2
    rw [e2, e3]
    generalize p.1 * n = u at *
    generalize b * n = v at *
    generalize n * (n + 1) = t at *
    omega
theorem raw_below {p : Nat × Nat} (h : small p) (l : List Nat) (hl : bytes l) (hn : l.length ≤ 5552) : (raw p l).1 ≤ 4294967295 ∧ (raw p l).2 ≤ 4294967295 := by
  have h1 := raw_most p l hl
  have h2 := h.1
  have h3 := h.2
  generalize raw p l = q at *
  generalize l.length = n at *
  have e1 : p.1 * n ≤ 65520 * 5552 := Nat.mul_le_mul (by omega) hn
  have e2 : n * (n + 1) ≤ 5552 * 5553 := Nat.mul_le_mul hn (by omega)
  generalize p.1 * n = u at *
  generalize n * (n + 1) = t at *
  omega
theorem adler_piece {P : Nat × Nat} (h : small P) (zs : List Nat) (k m : Nat) : adlerReg P (zs.take (k + m)) = ((raw (adlerReg P (zs.take k)) ((zs.drop k).take m)).1 % 65521, (raw (adlerReg P (zs.take k)) ((zs.drop k).take m)).2 % 65521) := by
  rw [raw_small (adlerReg_small h _), ← adlerReg_append, List.take_add]
def lenOf : Value → Nat
  | .slice _ n _ => n
  | _ => 0
set_option maxRecDepth 100000 in
theorem min_two (a : Nat) (w : World) : (Builtin.min_ #[3, 3] 3 #[.int .i64 (a : Int), .int .i64 5552]).run Try.prog w = .ok (.int .i64 ((min a 5552 : Nat) : Int)) w := by
  have e : ((min a 5552 : Nat) : Int) = (if (5552 : Int) < (a : Int) then 5552 else (a : Int)) := by
    omega
  rw [e]
  simp [Builtin.min_, Builtin.min2]
set_option maxRecDepth 100000 in
theorem slice_from (b o n cap m : Nat) (hm : m ≤ n) (hc : n ≤ cap) : ∃ o2, (∀ w, (Instr.slice 36 (.slice (some ⟨b, o, none⟩) n cap) (some (.int .i64 (m : Int))) none none).run Try.prog w = .ok (.slice (some ⟨b, o2, none⟩) (n - m) (cap - m)) w) ∧ (m < cap → o2 = o + m) := by
  have hs : ∀ w, (sizeOf (Try.prog.elem 36)).run Try.prog w = .ok 1 w := fun w => by rfl
  have hadd : (⟨b, o, none⟩ : Addr).add m = ⟨b, o + m, none⟩ := by unfold Addr.add; split <;> simp_all
  by_cases h : cap = m
  · refine ⟨o, fun w => ?_, fun h2 => by omega⟩
    rw [run_slice_l w 36 (some ⟨b, o, none⟩) n cap Try.underlying36 .i64 m (by omega) (by omega), hs]
    simp [sliced, Result.andThen, h]
  · refine ⟨o + m, fun w => ?_, fun _ => rfl⟩
    rw [run_slice_l w 36 (some ⟨b, o, none⟩) n cap Try.underlying36 .i64 m (by omega) (by omega), hs]
    simp [sliced, Result.andThen, hadd, h]
set_option maxHeartbeats 4000000 in
set_option maxRecDepth 100000 in
theorem adler_row (s b off cap len : Nat) (zs : List Nat) (w : World) (hs : s ≤ 4294967295) (hz : zs.length = len) (hbig : len ≤ 140737488355328) (hle : len ≤ cap) (h8 : bytes zs) (hc : ∀ j, j < len → w.cell? ⟨b, off + j, none⟩ = some (.int .u8 (zs.getD j 0 : Nat))) :
    Calls Try.prog 62 #[.int .u32 (s : Int), .slice (some ⟨b, off, none⟩) len cap] w fun e w' => e = .returned (.int .u32 (adler s zs : Nat)) ∧ w = w' := by
  have HZ := Lib.hid hz
  have HC := Lib.hid hc
  have H8 := Lib.hid h8
  clear hz hc h8
  have hlow := low_code s hs
  have bL : s % 65536 < 65536 := by omega
  have h0 := (halves_small s).1
  have h1 := (halves_small s).2
  have e0 : ((s % 65536 : Nat) : Int) % 65521 = ((halves s).1 : Nat) := by
    unfold halves
    show _ = ((s % 65536 % 65521 : Nat) : Int)
    omega
  have e1 : (s : Int) / 65536 % 65521 = ((halves s).2 : Nat) := by
    unfold halves
    show _ = ((s / 65536 % 65521 : Nat) : Int)
    omega
  have HA : Hid (adler s zs = joined (adlerReg (halves s) zs)) := rfl
  have HS := Lib.hid (halves_small s)
  have h2 : adler s zs ≤ 4294967295 := by have := adler_below s zs; omega
  generalize adler s zs = A at *
  have HT : Hid (∀ k, small (adlerReg (halves s) (zs.take k))) := fun k => adlerReg_small HS.out _
  have HN : Hid (adlerReg (halves s) (zs.take 0) = halves s) := by
    show adlerReg (halves s) (zs.take 0) = halves s
    rw [List.take_zero, adlerReg_nil]
  generalize halves s = P at *
  generalize s % 65536 = L at *
  go_enter Try.func62, Try.ntmps62
  go_wp2
  go_loop [1, 5, 6] (fun v x y => ∃ k n o c : Nat, k + n = len ∧ n ≤ c ∧ v = .slice (some ⟨b, o, none⟩) n c ∧ Hid (0 < n → o = off + k) ∧ x = .int .u32 ((adlerReg P (zs.take k)).1 : Nat) ∧ y = .int .u32 ((adlerReg P (zs.take k)).2 : Nat)) (fun v _ _ => lenOf v)
  case atStart => exact ⟨0, len, off, cap, by omega, hle, rfl, fun _ => rfl, by first | rw [HN.out, e0] | rw [HN.out], by first | rw [HN.out, e1] | rw [HN.out]⟩
  case round =>
    clear hlow bL e0 e1 h0 h1
    obtain ⟨k, n, o, c, hkn, hnc, rfl, HO, rfl, rfl⟩ := hrel
    have hX := (HT.out k).1
    have hY := (HT.out k).2
    by_cases hn0 : 0 < n
    · have hd : decide ((0 : Int) < (n : Int)) = true := decide_eq_true (by omega)
      obtain ⟨m, em⟩ : ∃ m, min n 5552 = m := ⟨_, rfl⟩
      have hmin := min_two n
      rw [em] at hmin
      have hm0 : 0 < m := by omega
      have hm1 : m ≤ 5552 := by omega
      have hmn : m ≤ n := by omega
      clear em
      have hsl := slice_to b o n c m (m : Int) rfl (by omega) (by omega)
      obtain ⟨o2, hfrom, ho2⟩ := slice_from b o n c m hmn hnc
      have HO2 := Lib.hid ho2
      clear ho2
      have ho := HO.out hn0
      have HK : Hid (∀ i, i < m → w.cell? ⟨b, o + i, none⟩ = some (.int .u8 (((zs.drop k).take m).getD i 0 : Nat))) := fun i hi => by
        rw [ho, Nat.add_assoc, HC.out (k + i) (by omega)]
        congr 2
        simp [List.getD, List.getElem?_drop, hi]
      have HB : Hid (bytes ((zs.drop k).take m)) := fun d hd => H8.out d (List.mem_of_mem_drop (List.mem_of_mem_take hd))
      have HLN : Hid (((zs.drop k).take m).length = m) := by
        show _ = _
        have := HZ.out
        rw [List.length_take, List.length_drop]
        omega
      have HPC := Lib.hid (adler_piece HS.out zs k m)
      have HRB : Hid (∀ i, i ≤ m → (raw (adlerReg P (zs.take k)) (((zs.drop k).take m).take i)).1 ≤ 4294967295 ∧ (raw (adlerReg P (zs.take k)) (((zs.drop k).take m).take i)).2 ≤ 4294967295) := fun i hi => raw_below (HT.out k) _ (fun d hd => HB.out d (List.mem_of_mem_take hd)) (by rw [List.length_take]; omega)
      have HSM := Lib.hid (HT.out (k + m))
      clear ho
      generalize (zs.drop k).take m = ps at *
      generalize adlerReg P (zs.take k) = Q at *
      go_wp2
      go_loop [5, 6, 26] (fun x y i => ∃ j : Nat, j ≤ m ∧ x = .int .u32 ((raw Q (ps.take j)).1 : Nat) ∧ y = .int .u32 ((raw Q (ps.take j)).2 : Nat) ∧ i = .int .i64 j) (fun _ _ i => m - (intOf i).toNat)
      case atStart => exact ⟨0, Nat.zero_le _, by rw [List.take_zero, raw_nil], by rw [List.take_zero, raw_nil], rfl⟩
      case round =>
        obtain ⟨j, hj, rfl, rfl, rfl⟩ := hrel
        have hxy := HRB.out j hj
        have hb := bytes_get HB.out j
        have HE : Hid (j < m → raw Q (ps.take (j + 1)) = rawByte (raw Q (ps.take j)) (ps.getD j 0) ∧ (raw Q (ps.take (j + 1))).1 ≤ 4294967295 ∧ (raw Q (ps.take (j + 1))).2 ≤ 4294967295) := fun h => ⟨raw_step Q ps j (by rw [HLN.out]; exact h), HRB.out (j + 1) h⟩
        by_cases hjm : j < m
        · have hd2 : decide ((j : Int) < (m : Int)) = true := decide_eq_true (by omega)
          have hcell := HK.out j hjm
          obtain ⟨hE, hE1, hE2⟩ := HE.out hjm
          rw [hE] at hE1 hE2
          have HE := Lib.hid hE
          clear hE
          generalize raw Q (ps.take j) = R at *
          generalize ps.getD j 0 = Z at *
          obtain ⟨X, Y⟩ := R
          unfold rawByte at hE1 hE2
          simp only at hxy hE1 hE2
          have ex : (X : Int) + (Z : Int) = ((X + Z : Nat) : Int) := by omega
          have ey : (Y : Int) + ((X + Z : Nat) : Int) = ((Y + (X + Z) : Nat) : Int) := by omega
          have HR : Hid (raw Q (ps.take (j + 1)) = (X + Z, Y + (X + Z))) := HE.out
          clear HE
          generalize Y + (X + Z) = Y1 at *
          generalize X + Z = X1 at *
          go_wp2
          go_round
          case rel => exact ⟨j + 1, by omega, by rw [HR.out], by rw [HR.out], by go_num⟩
          case measure => simp [intOf]; omega
        · have hd2 : decide ((j : Int) < (m : Int)) = false := decide_eq_false (by omega)
          obtain rfl : j = m := by omega
          have ht : ps.take j = ps := by rw [List.take_of_length_le (by rw [HLN.out]; exact Nat.le_refl _)]
          rw [ht] at hxy
          rw [ht]
          clear ht HE
          generalize raw Q ps = R at *
          obtain ⟨X, Y⟩ := R
          simp only at hxy
          have HF : Hid ((adlerReg P (zs.take (k + j))).1 = X % 65521 ∧ (adlerReg P (zs.take (k + j))).2 = Y % 65521) := by
            have := HPC.out
            exact ⟨by rw [this], by rw [this]⟩
          have em1 : (X : Int) % 65521 = ((X % 65521 : Nat) : Int) := by omega
          have em2 : (Y : Int) % 65521 = ((Y % 65521 : Nat) : Int) := by omega
          generalize X % 65521 = X1 at *
          generalize Y % 65521 = Y1 at *
          go_wp2
          go_round
          case rel => exact ⟨k + j, n - j, o2, c - j, by omega, by omega, rfl, fun h => by rw [HO2.out (by omega), HO.out (by omega)]; omega, by first | rw [HF.out.1, em1] | rw [HF.out.1], by first | rw [HF.out.2, em2] | rw [HF.out.2]⟩
          case measure => simp [lenOf]; omega
    · have hd : decide ((0 : Int) < (n : Int)) = false := decide_eq_false (by omega)
      have he : k = len := by omega
      have HF : Hid (joined (adlerReg P (zs.take k)) = A) := by
        show _ = _
        rw [he, ← HZ.out, List.take_length, HA.out]
      generalize adlerReg P (zs.take k) = Q at *
      obtain ⟨X, Y⟩ := Q
      simp only at hX hY
      have j1 := join_code X Y hX hY
      have j2 := join_code2 X Y hX hY
      have hA := HF.out
      unfold joined at hA
      simp only at hA
      rw [hA] at j1 j2
      clear hA
      go_wp2
      go_ret
      exact ⟨rfl, rfl⟩
set_option maxRecDepth 100000 in
set_option maxHeartbeats 1000000 in
theorem adler_none (s : Nat) (o : Option Addr) (cap : Nat) (w : World) (hs : s ≤ 4294967295) :
    Calls Try.prog 62 #[.int .u32 (s : Int), .slice o 0 cap] w fun e w' => e = .returned (.int .u32 (adler s [] : Nat)) ∧ w = w' := by
  have hlow := low_code s hs
  have bL : s % 65536 < 65536 := by omega
  have h0 := (halves_small s).1
  have h1 := (halves_small s).2
  have j1 := join_code (halves s).1 (halves s).2 h0 h1
  have j2 := join_code2 (halves s).1 (halves s).2 h0 h1
  have hA : (halves s).2 * 65536 + (halves s).1 = adler s [] := by
    unfold adler
    rw [adlerReg_nil]
    rfl
  have e0 : ((s % 65536 : Nat) : Int) % 65521 = ((halves s).1 : Nat) := by
    unfold halves
    show _ = ((s % 65536 % 65521 : Nat) : Int)
    omega
  have e1 : (s : Int) / 65536 % 65521 = ((halves s).2 : Nat) := by
    unfold halves
    show _ = ((s / 65536 % 65521 : Nat) : Int)
    omega
  have h2 := adler_below s []
  rw [hA] at j1 j2
  generalize adler s [] = A at *
  generalize s % 65536 = L at *
  clear hA
  generalize (halves s).1 = X at *
  generalize (halves s).2 = Y at *
  go_enter Try.func62, Try.ntmps62
  go_wp2
  refine wp_loop_rounds 1 ?_
  rw [rounds_succ]
  go_wp2
  go_ret
  exact ⟨rfl, rfl⟩
theorem of_listed {w : World} {v : Value} {zs : List Nat} (h : Fx.bytesIn w v zs) : reads w v zs := by
  rcases h with h | ⟨b, off, cap, rfl, hlt, hle, hc⟩
  · exact .inl h
  · refine .inr ⟨b, off, cap, rfl, hle, hlt, fun j hj => ?_⟩
    rw [hc j _ (List.getElem?_eq_getElem hj)]
    simp [Fx.byteVal, List.getD, hj]
theorem code (s : Nat) (v : Value) (zs : List Nat) (w : World) (hs : s ≤ 4294967295) (h : Fx.bytesIn w v zs) (h8 : ∀ x ∈ zs, x < 256) (hl : zs.length ≤ 140737488355328) :
    Calls Try.prog 62 #[.int .u32 (s : Int), v] w fun e w' => e = .returned (.int .u32 (adler s zs : Nat)) ∧ w = w' := by
  rcases of_listed h with ⟨⟨o, cap, rfl, ho⟩, rfl⟩ | ⟨b, off, cap, rfl, hle, hlt, hc⟩
  · exact adler_none s o cap w hs
  · exact adler_row s b off cap zs.length zs w hs rfl hl hle h8 hc
theorem ref (s : Nat) (v : Value) (zs : List Nat) (w : World) (hs : s ≤ 4294967295) (h : Fx.bytesIn w v zs) (h8 : ∀ x ∈ zs, x < 256) (hl : zs.length ≤ 140737488355328) :
    Calls Try.prog 45 #[.int .u32 (s : Int), v] w fun e w' => e = .returned (.int .u32 (adler s zs : Nat)) ∧ w = w' :=
  radler_any s v zs w hs (of_listed h) h8 hl
end Go.Proofs.Ytefdlidjdmlnaaa.Ad
namespace Go.Proofs.Ytefdlidjdmlnaaa.Fx
open Go
set_option linter.unusedVariables false
/-- What goes out behind bytes are bytes. -/
def Fits8 {α : Type} (x : Way α) : Prop := ∀ f L m s a t, x.run f L m s = some (.ok a t) → (∀ z ∈ s.out, z < 256) → ∀ z ∈ t.out, z < 256
theorem fits_pure {α : Type} (a : α) : Fits8 (Way.pure a) := fun f L m s b t h hs => by
  cases h
  exact hs
theorem fits_fail {α : Type} (e : Nat) : Fits8 (Way.fail e : Way α) := fun f L m s b t h hs => by cases h
theorem fits_get (k : Nat) : Fits8 (Way.get k) := fun f L m s b t h hs => by
  unfold Way.get at h
  simp only [Option.some.injEq] at h
  split at h
  · cases h
  · cases h
    exact hs
theorem fits_align : Fits8 Way.align := fun f L m s b t h hs => by
  cases h
  exact hs
theorem fits_room (n : Nat) : Fits8 (Way.room n) := fun f L m s b t h hs => by
  unfold Way.room at h
  simp only [Option.some.injEq] at h
  split at h
  · cases h
  · cases h
    exact hs
theorem fits_put (x : List Nat → Nat) (hx : ∀ o, (∀ z ∈ o, z < 256) → x o < 256) : Fits8 (Way.put x) := fun f L m s b t h hs => by
  unfold Way.put at h
  simp only [Option.some.injEq] at h
  split at h
  · cases h
  · cases h
    intro z hz
    rcases List.mem_append.1 hz with h' | h'
    · exact hs z h'
    · obtain rfl := List.mem_singleton.1 h'
      exact hx _ hs
theorem fits_behind (d : Nat) : Fits8 (Way.behind d) := fun f L m s b t h hs => by
  unfold Way.behind at h
  simp only [Option.some.injEq] at h
  split at h
  · cases h
  · cases h
    exact hs
theorem fits_bind {α β : Type} {x : Way α} {k : α → Way β} (hx : Fits8 x) (hk : ∀ a, Fits8 (k a)) : Fits8 (x.bind k) := fun f L m s b t h hs => by
  obtain ⟨a, u, h1, h2⟩ := Way.bind_ok h
  exact hk a _ _ _ _ _ _ h2 (hx _ _ _ _ _ _ h1 hs)
theorem fits_get8 {β : Type} {k : Nat → Way β} (hk : ∀ a, a < 256 → Fits8 (k a)) : Fits8 ((Way.get 8).bind k) := fun f L m s b t h hs => by
  obtain ⟨a, u, h1, h2⟩ := Way.bind_ok h
  have ha : a < 256 := by
    unfold Way.get at h1
    simp only [Option.some.injEq] at h1
    split at h1
    · cases h1
    · cases h1
      exact numAt_below L s.pos 8
  exact hk a ha _ _ _ _ _ _ h2 (fits_get 8 _ _ _ _ _ _ h1 hs)
theorem fits_loop {α β : Type} {step : β → Way (β ⊕ α)} (h : ∀ b, Fits8 (step b)) (b : β) : Fits8 (Way.loop step b) := by
  intro f L m s a t hr hs
  have key : ∀ n b s, Way.rounds step f L m n b s = some (.ok a t) → (∀ z ∈ s.out, z < 256) → ∀ z ∈ t.out, z < 256 := by
    intro n
    induction n with
    | zero => intro b s hr; cases hr
    | succ n ih =>
      intro b s hr hs
      rcases Way.rounds_ok hr with h1 | ⟨b', u, h1, h2⟩
      · exact h b _ _ _ _ _ _ h1 hs
      · exact ih b' u h2 (h b _ _ _ _ _ _ h1 hs)
  exact key f b s hr hs
theorem fits_refuse (c : Prop) [Decidable c] (e : Nat) : Fits8 (refuseW c e) := by
  unfold refuseW
  split
  · exact fits_fail e
  · exact fits_pure ()
theorem fits_sym (c : Cds) (n l code first place : Nat) : Fits8 (symFrom c n l code first place) := by
  induction n generalizing l code first place with
  | zero => exact fits_fail 10
  | succ n ih =>
    refine fits_bind (fits_get 1) fun b => ?_
    split
    · exact fits_pure _
    · exact ih _ _ _ _
theorem fits_symW (c : Cds) : Fits8 (symW c) := fits_sym c _ _ _ _ _
theorem fits_grouped (a b : Nat) : Fits8 (groupedW a b) := fits_bind (fits_get _) fun _ => fits_pure _
theorem fits_length (x : Nat) : Fits8 (lengthW x) := fits_bind (fits_refuse _ _) fun _ => by
  split
  · exact fits_pure _
  · exact fits_bind (fits_grouped _ _) fun _ => fits_pure _
theorem fits_distance (c : Cds) : Fits8 (distanceW c) := fits_bind (fits_symW c) fun _ => fits_bind (fits_refuse _ _) fun _ => fits_bind (fits_grouped _ _) fun _ => fits_pure _
theorem getD_small (o : List Nat) (i : Nat) (h : ∀ z ∈ o, z < 256) : o.getD i 0 < 256 := by
  rw [List.getD_eq_getElem?_getD]
  cases hi : o[i]? with
  | none => simp
  | some z => exact h z (List.mem_of_getElem? hi)
theorem fits_copy (d n : Nat) : Fits8 (copyW d n) := by
  induction n with
  | zero => exact fits_pure ()
  | succ n ih => exact fits_bind (fits_put _ fun o ho => getD_small o _ ho) fun _ => ih
theorem fits_match (n d : Nat) : Fits8 (matchW n d) := fits_bind (fits_behind d) fun _ => fits_bind (fits_room n) fun _ => fits_copy d n
theorem fits_symbols (p : Cds × Cds) : Fits8 (symbolsW p) := fits_loop (fun _ => fits_bind (fits_symW _) fun x => by
  split
  · rename_i hx
    exact fits_bind (fits_room 1) fun _ => fits_bind (fits_put _ fun _ _ => hx) fun _ => fits_pure _
  · split
    · exact fits_pure _
    · exact fits_bind (fits_length x) fun n => fits_bind (fits_distance _) fun d => fits_bind (fits_match n d) fun _ => fits_pure _) ()
theorem fits_bytes (n : Nat) : Fits8 (bytesW n) := by
  induction n with
  | zero => exact fits_pure ()
  | succ n ih => exact fits_get8 fun a ha => fits_bind (fits_put _ fun _ _ => ha) fun _ => ih
theorem fits_stored : Fits8 storedW := fits_bind fits_align fun _ => fits_bind (fits_get 16) fun n => fits_bind (fits_get 16) fun k => fits_bind (fits_refuse _ _) fun _ => fits_bind (fits_room n) fun _ => fits_bytes n
theorem fits_own (n i : Nat) (own : List Nat) : Fits8 (ownFrom n i own) := by
  induction n generalizing i own with
  | zero => exact fits_pure _
  | succ n ih => exact fits_bind (fits_get 3) fun _ => ih _ _
theorem fits_add (want : Nat) (ls : List Nat) (l n : Nat) : Fits8 (addW want ls l n) := fits_bind (fits_refuse _ _) fun _ => fits_pure _
theorem fits_lengths (c : Cds) (want : Nat) : Fits8 (lengthsW c want) := fits_loop (fun ls => by
  unfold lenStep
  split
  · refine fits_bind (fits_symW c) fun x => ?_
    split
    · exact fits_bind (fits_get 2) fun _ => fits_bind (fits_refuse _ _) fun _ => fits_bind (fits_add _ _ _ _) fun _ => fits_pure _
    · split
      · exact fits_bind (fits_get 3) fun _ => fits_bind (fits_add _ _ _ _) fun _ => fits_pure _
      · split
        · exact fits_bind (fits_get 7) fun _ => fits_bind (fits_add _ _ _ _) fun _ => fits_pure _
        · exact fits_bind (fits_add _ _ _ _) fun _ => fits_pure _
  · exact fits_pure _) []
theorem fits_ownPair : Fits8 ownPairW := fits_bind (fits_get 5) fun _ => fits_bind (fits_get 5) fun _ => fits_bind (fits_get 4) fun _ => fits_bind (fits_own _ _ _) fun _ => fits_bind (fits_refuse _ _) fun _ => fits_bind (fits_lengths _ _) fun _ =>
  fits_bind (fits_refuse _ _) fun _ => fits_bind (fits_refuse _ _) fun _ => fits_bind (fits_refuse _ _) fun _ => fits_pure _
theorem fits_block : Fits8 blockW := fits_bind (fits_get 2) fun k => by
  split
  · exact fits_stored
  · split
    · exact fits_symbols _
    · split
      · exact fits_bind fits_ownPair fun p => fits_symbols p
      · exact fits_fail 10
theorem fits_blocks : Fits8 blocksW := fits_loop (fun _ => fits_bind (fits_get 1) fun l => fits_bind fits_block fun _ => by
  split
  · exact fits_pure _
  · exact fits_pure _) ()
theorem told_bytes {L : List Bool} {m : Nat} {t : St} (h : Says blocksW L m ⟨0, []⟩ (.ok () t)) : ∀ z ∈ t.out, z < 256 := by
  obtain ⟨f, h⟩ := h
  exact fits_blocks _ _ _ _ _ _ h (fun z hz => by cases hz)
end Go.Proofs.Ytefdlidjdmlnaaa.Fx
namespace Go.Proofs.Ytefdlidjdmlnaaa.Fx
open Go
set_option linter.unusedVariables false
def sumOf (zs : List Nat) : Nat := Ad.adler 1 zs
theorem sumOf_below (zs : List Nat) : sumOf zs ≤ 4294967295 := by
  have := Ad.adler_below 1 zs
  unfold sumOf
  omega
theorem sumOf_more (zs xs : List Nat) : Ad.adler (sumOf zs) xs = sumOf (zs ++ xs) := Ad.adler_append 1 zs xs
theorem sumOf_nil : sumOf [] = 1 := by decide +kernel
/-- A sum's bytes, the highest first. -/
def fourOf (s : Nat) : List Nat := [s / 16777216 % 256, s / 65536 % 256, s / 256 % 256, s % 256]
theorem fourOf_length (s : Nat) : (fourOf s).length = 4 := rfl
theorem fourOf_bytes (s : Nat) : ∀ x ∈ fourOf s, x < 256 := by
  intro x hx
  simp only [fourOf, List.mem_cons, List.not_mem_nil, or_false] at hx
  omega
/-- The stream of some bytes. -/
def streamOf (zs : List Nat) : List Nat := 120 :: 1 :: (wholeOf zs ++ fourOf (sumOf zs))
theorem streamOf_bytes (zs : List Nat) : ∀ x ∈ streamOf zs, x < 256 := by
  intro x hx
  simp only [streamOf, List.mem_cons, List.mem_append] at hx
  rcases hx with rfl | rfl | hx | hx
  · omega
  · omega
  · exact whole_bytes zs x hx
  · exact fourOf_bytes _ x hx
theorem streamOf_length (zs : List Nat) : (streamOf zs).length = (wholeOf zs).length + 6 := by
  simp [streamOf, fourOf_length]
theorem streamOf_most (zs : List Nat) : (streamOf zs).length ≤ zs.length + 5 * max ((zs.length + 4095) / 4096) 1 + 6 ∧ 7 ≤ (streamOf zs).length := by
  have := whole_length zs
  rw [streamOf_length]
  omega
def headOk (x y : Nat) : Bool := x % 16 == 8 && decide (x / 16 ≤ 7) && (256 * x + y) % 31 == 0 && y / 32 % 2 == 0
inductive Opened where
  | bytes (l : List Nat)
  | fault (k : Nat)
/-- What the bytes behind the blocks come to. -/
def sumSays (rest : List Nat) (s : Nat) (out : List Nat) : Opened :=
  if rest.length < 4 then .fault 12 else if rest.take 4 = fourOf s then if 4 < rest.length then .fault 10 else .bytes out else .fault 11
def OpenSays (zs : List Nat) (m : Nat) (r : Opened) : Prop :=
  (zs.length < 2 ∧ r = .fault 12) ∨ ∃ x y bs, zs = x :: y :: bs ∧ ((headOk x y = false ∧ r = .fault 10) ∨ (headOk x y = true ∧
    ((∃ k, Says blocksW (bitsOfBytes bs) m ⟨0, []⟩ (.err k) ∧ r = .fault k) ∨
     (∃ t, Says blocksW (bitsOfBytes bs) m ⟨0, []⟩ (.ok () t) ∧ r = sumSays (bs.drop ((t.pos + 7) / 8)) (sumOf t.out) t.out))))
theorem open_one {zs : List Nat} {m : Nat} {r r' : Opened} (h : OpenSays zs m r) (k : OpenSays zs m r') : r = r' := by
  rcases h with ⟨h1, rfl⟩ | ⟨x, y, bs, rfl, h⟩
  · rcases k with ⟨_, rfl⟩ | ⟨x, y, bs, rfl, _⟩
    · rfl
    · simp only [List.length_cons] at h1
      omega
  · rcases k with ⟨k1, _⟩ | ⟨x', y', bs', e, k⟩
    · simp only [List.length_cons] at k1
      omega
    · simp only [List.cons.injEq] at e
      obtain ⟨rfl, rfl, rfl⟩ := e
      rcases h with ⟨h1, rfl⟩ | ⟨h1, h⟩
      · rcases k with ⟨k1, rfl⟩ | ⟨k1, _⟩
        · rfl
        · rw [h1] at k1; cases k1
      · rcases k with ⟨k1, _⟩ | ⟨k1, k⟩
        · rw [h1] at k1; cases k1
        · rcases h with ⟨a, h, rfl⟩ | ⟨t, h, rfl⟩
          · rcases k with ⟨b, k, rfl⟩ | ⟨t', k, rfl⟩
            · have := Way.says_one h k
              cases this
              rfl
            · have := Way.says_one h k
              cases this
          · rcases k with ⟨b, k, rfl⟩ | ⟨t', k, rfl⟩
            · have := Way.says_one h k
              cases this
            · have := Way.says_one h k
              cases this
              rfl
theorem open_head (x y : Nat) (zs tail : List Nat) (m : Nat) (h8 : ∀ z ∈ zs, z < 256) (hm : zs.length ≤ m) : OpenSays (x :: y :: (wholeOf zs ++ tail)) m (if headOk x y then sumSays tail (sumOf zs) zs else .fault 10) := by
  refine .inr ⟨x, y, _, rfl, ?_⟩
  cases h : headOk x y with
  | false => exact .inl ⟨rfl, rfl⟩
  | true =>
    refine .inr ⟨rfl, .inr ⟨_, back_says zs tail m h8 hm, ?_⟩⟩
    simp only
    rw [(back_length zs).1, List.drop_left]
    rfl
theorem head_120 : headOk 120 1 = true := by decide
theorem open_tail (zs tail : List Nat) (m : Nat) (h8 : ∀ z ∈ zs, z < 256) (hm : zs.length ≤ m) : OpenSays (120 :: 1 :: (wholeOf zs ++ tail)) m (sumSays tail (sumOf zs) zs) := by
  have h := open_head 120 1 zs tail m h8 hm
  rwa [head_120, if_pos rfl] at h
theorem sum_right (s : Nat) (out : List Nat) : sumSays (fourOf s) s out = .bytes out := by
  unfold sumSays
  rw [if_neg (by rw [fourOf_length]; omega), if_pos (List.take_of_length_le (by rw [fourOf_length]; omega)), if_neg (by rw [fourOf_length]; omega)]
theorem sum_more (s x : Nat) (xs out : List Nat) : sumSays (fourOf s ++ x :: xs) s out = .fault 10 := by
  have h4 := fourOf_length s
  unfold sumSays
  rw [if_neg (by rw [List.length_append, h4]; omega), if_pos (by rw [← h4, List.take_left]), if_pos (by rw [List.length_append, h4, List.length_cons]; omega)]
theorem sum_wrong (s : Nat) (l out : List Nat) (hl : l.length = 4) (h : l ≠ fourOf s) : sumSays l s out = .fault 11 := by
  unfold sumSays
  rw [if_neg (by omega), if_neg (by rw [List.take_of_length_le (by omega)]; exact h)]
theorem sum_short (s : Nat) (l out : List Nat) (hl : l.length < 4) : sumSays l s out = .fault 12 := by
  unfold sumSays
  rw [if_pos hl]
theorem open_back (zs : List Nat) (m : Nat) (h8 : ∀ z ∈ zs, z < 256) (hm : zs.length ≤ m) : OpenSays (streamOf zs) m (.bytes zs) := by
  have h := open_tail zs (fourOf (sumOf zs)) m h8 hm
  rwa [sum_right] at h
theorem open_more (zs xs : List Nat) (x m : Nat) (h8 : ∀ z ∈ zs, z < 256) (hm : zs.length ≤ m) : OpenSays (streamOf zs ++ x :: xs) m (.fault 10) := by
  have h := open_tail zs (fourOf (sumOf zs) ++ x :: xs) m h8 hm
  rw [sum_more, ← List.append_assoc] at h
  exact h
theorem open_wrong (zs l : List Nat) (m : Nat) (h8 : ∀ z ∈ zs, z < 256) (hm : zs.length ≤ m) (hl : l.length = 4) (h : l ≠ fourOf (sumOf zs)) : OpenSays (120 :: 1 :: (wholeOf zs ++ l)) m (.fault 11) := by
  have h1 := open_tail zs l m h8 hm
  rwa [sum_wrong _ _ _ hl h] at h1
theorem open_less (zs : List Nat) (m : Nat) (h8 : ∀ z ∈ zs, z < 256) (hm : m < zs.length) : OpenSays (streamOf zs) m (.fault 3) :=
  .inr ⟨120, 1, _, rfl, .inr ⟨head_120, .inl ⟨3, less_bytes (back_says zs (fourOf (sumOf zs)) zs.length h8 (Nat.le_refl _)) (Nat.le_of_lt hm) hm, rfl⟩⟩⟩
theorem open_cut (zs : List Nat) (m q : Nat) (h8 : ∀ z ∈ zs, z < 256) (hm : zs.length ≤ m) (hq : q < (streamOf zs).length) : OpenSays ((streamOf zs).take q) m (.fault 12) := by
  match q, hq with
  | 0, _ => exact .inl ⟨by simp, rfl⟩
  | 1, _ => exact .inl ⟨by simp [streamOf], rfl⟩
  | q + 2, hq =>
    rw [streamOf_length] at hq
    have e : (streamOf zs).take (q + 2) = 120 :: 1 :: (wholeOf zs ++ fourOf (sumOf zs)).take q := by simp [streamOf]
    rw [e]
    obtain ⟨hp, _⟩ := back_length zs
    by_cases hk : q < (wholeOf zs).length
    · have hc := cut_bytes (back_says zs (fourOf (sumOf zs)) m h8 hm) q (by simp only; rw [hp]; exact hk)
      exact .inr ⟨120, 1, _, rfl, .inr ⟨head_120, .inl ⟨12, hc, rfl⟩⟩⟩
    · have e2 : (wholeOf zs ++ fourOf (sumOf zs)).take q = wholeOf zs ++ (fourOf (sumOf zs)).take (q - (wholeOf zs).length) := by
        rw [List.take_append, List.take_of_length_le (by omega)]
      rw [e2]
      have h := open_tail zs ((fourOf (sumOf zs)).take (q - (wholeOf zs).length)) m h8 hm
      rwa [sum_short _ _ _ (by rw [List.length_take]; omega)] at h
end Go.Proofs.Ytefdlidjdmlnaaa.Fx
