/-
  The two calls of package sums. The conditions are that the numbers are of their kinds and the list reads as bytes.
-/
import Derived.Test.YtmbbgppmidogbaaSumsT
import Derived.Test.YtmbbgppmidogbaaSumsNumbersWalk
namespace Go.Proofs.Ytmbbgppmidogbaa.Fx
open Go Go.RowKit Go.Joins
set_option linter.unusedVariables false
theorem not_code (x : Nat) (hx : x ≤ 4294967295) : bits .xor .u32 IntKind.u32.max (x : Int) = ((4294967295 - x : Nat) : Int) := by
  have h := u32_xor_nat 4294967295 x (by decide) (by omega)
  rw [Nat.xor_comm, ← flip_xor (show x < 4294967296 by omega)] at h
  exact h
theorem byte_code (x : Nat) : IntKind.u8.wrap (x : Int) = ((x % 256 : Nat) : Int) := by
  rw [IntKind.wrap_u8']
  omega
set_option maxHeartbeats 4000000 in
set_option maxRecDepth 100000 in
theorem crc_row (s b off cap len : Nat) (zs : List Nat) (w : World) (hs : s ≤ 4294967295) (hz : zs.length = len) (hbig : len ≤ 140737488355328) (h8 : bytes zs) (hlt : b < w.heap.size) (hc : ∀ j, j < len → w.cell? ⟨b, off + j, none⟩ = some (.int .u8 (zs.getD j 0 : Nat))) :
    Calls Try.prog 11 #[.int .u32 (s : Int), .slice (some ⟨b, off, none⟩) len cap] w fun e w' => e = .returned (.int .u32 (crc s zs : Nat)) ∧ Below w.heap.size w w' := by
  obtain ⟨hzero, hi⟩ := zero_of_info info_tbl
  obtain ⟨Z, eZ⟩ : ∃ Z, ti 128 0 = Z := ⟨_, rfl⟩
  rw [eZ] at hzero
  have E0 := Lib.hid eZ
  clear eZ
  have HC := Lib.hid hc
  have HZ := Lib.hid hz
  have HB := Lib.hid (bytes_get h8)
  have HT : Hid (∀ k, reg (4294967295 - s) (zs.take k) < 4294967296) := fun k => reg_below (by omega) (fun b hb => h8 b (List.mem_of_mem_take hb))
  clear hc hz h8
  have HA : Hid (crc s zs = 4294967295 - reg (4294967295 - s) zs) := rfl
  have h2 : crc s zs ≤ 4294967295 := by have := crc_below s zs; omega
  generalize crc s zs = A at *
  have HN : Hid (reg (4294967295 - s) (zs.take 0) = 4294967295 - s) := by
    show reg (4294967295 - s) (zs.take 0) = 4294967295 - s
    rw [List.take_zero, reg_nil]
  have e0 := not_code s hs
  have b0 : 4294967295 - s ≤ 4294967295 := by omega
  generalize 4294967295 - s = P at *
  go_enter Try.func11, Try.ntmps11
  go_wp2_with fail
  go_at_call 17
  refine (rests_any w).mono ?_
  rintro e w1 ⟨rfl, hb1⟩
  have hsize := full_size
  have hst : ∀ W : World, (storeCells ⟨W.heap.size, 0, none⟩ (full).toList).run Try.prog (W.alloc (.cells Z 35)) = .ok () (W.alloc (.cells (full) 35)) := fun W => run_storeCells_new W 35 Z (full) (by rw [hsize]; exact hi) (by rw [hsize, ← E0.out, ti_size]) (full_cells)
  have HCELL : Hid (∀ j, j < 256 → (w1.alloc (.cells (full) 35)).cell? ⟨w1.heap.size, j, none⟩ = some (.int .u32 ((shn 8 j : Nat) : Int))) := fun j hj => by
    rw [cell_of_block (heap_alloc_last w1 _), full_get j hj]
  have hb2 : Below w.heap.size w (w1.alloc (.cells (full) 35)) := hb1.alloc hb1.size _
  generalize full = T at *
  go_wp2_with fail
  obtain ⟨w2, e2⟩ : ∃ w2, w2 = w1.alloc (.cells T 35) := ⟨_, rfl⟩
  rw [← e2] at hb2 HCELL ⊢
  clear e2 hst hsize hzero hi hb1 E0
  go_loop [6, 14] (fun x i => ∃ k : Nat, k ≤ len ∧ x = .int .u32 (reg P (zs.take k) : Nat) ∧ i = .int .i64 k) (fun _ i => len - (intOf i).toNat)
  case atStart => exact ⟨0, Nat.zero_le _, by first | rw [HN.out] | rw [HN.out, e0], rfl⟩
  case round =>
    obtain ⟨k, hk, rfl, rfl⟩ := hrel
    have hX := HT.out k
    have hb := HB.out k
    have HK : Hid (k < len → w2.cell? ⟨b, off + k, none⟩ = some (.int .u8 (zs.getD k 0 : Nat))) := fun h => (hb2.cell (p := ⟨b, off + k, none⟩) hlt).trans (HC.out k h)
    have HE : Hid (k < len → reg P (zs.take (k + 1)) = crcByte (reg P (zs.take k)) (zs.getD k 0)) := fun h => reg_step P zs k (by rw [HZ.out]; exact h)
    have HF : Hid (k = len → 4294967295 - reg P (zs.take k) = A) := fun h => by rw [h, ← HZ.out, List.take_length, HA.out]
    generalize reg P (zs.take k) = X at *
    generalize zs.getD k 0 = Y at *
    by_cases hlk : k < len
    · have hd : decide ((k : Int) < (len : Int)) = true := decide_eq_true (by omega)
      have hcell := HK.out hlk
      have HE := Lib.hid (HE.out hlk)
      have HTB := Lib.hid (crc_table X Y (by omega))
      have hw8 := byte_code X
      have hx8 := u8_xor_nat (X % 256) Y (by omega) (by omega)
      have bI := byte_xor (a := X % 256) (b := Y) (by omega) (by omega)
      have bS := shn_below 8 (c := (X % 256) ^^^ Y) (by omega)
      have htc := HCELL.out ((X % 256) ^^^ Y) bI
      have hq := u32_xor_nat (X / 256) (shn 8 ((X % 256) ^^^ Y)) (by omega) (by omega)
      rw [Nat.xor_comm (X / 256), ← HTB.out, Int.natCast_ediv] at hq
      have hq : bits .xor .u32 ((X : Int) / 256) ((shn 8 ((X % 256) ^^^ Y) : Nat) : Int) = ((crcByte X Y : Nat) : Int) := hq
      have bR := crcByte_below (c := X) (b := Y) (by omega) (by omega)
      clear HTB
      generalize crcByte X Y = R at *
      generalize shn 8 ((X % 256) ^^^ Y) = S at *
      generalize (X % 256) ^^^ Y = I at *
      generalize X % 256 = L at *
      go_wp2
      go_round
      case rel => exact ⟨k + 1, by omega, by first | rw [HE.out] | rw [HE.out, hq], by go_num⟩
      case measure => simp [intOf]; omega
    · have hd : decide ((k : Int) < (len : Int)) = false := decide_eq_false (by omega)
      have he : k = len := by omega
      have ha := not_code X (by omega)
      rw [HF.out he] at ha
      go_wp2
      go_ret
      exact ⟨rfl, hb2⟩
set_option maxHeartbeats 4000000 in
set_option maxRecDepth 100000 in
theorem crc_none (s : Nat) (o : Option Addr) (cap : Nat) (w : World) (hs : s ≤ 4294967295) :
    Calls Try.prog 11 #[.int .u32 (s : Int), .slice o 0 cap] w fun e w' => e = .returned (.int .u32 (crc s [] : Nat)) ∧ Below w.heap.size w w' := by
  obtain ⟨hzero, hi⟩ := zero_of_info info_tbl
  obtain ⟨Z, eZ⟩ : ∃ Z, ti 128 0 = Z := ⟨_, rfl⟩
  rw [eZ] at hzero
  have E0 := Lib.hid eZ
  clear eZ
  have e0 := not_code s hs
  have e1 := not_code (4294967295 - s) (by omega)
  have hA : 4294967295 - (4294967295 - s) = crc s [] := by
    rw [crc_nil (by omega)]
    omega
  rw [hA] at e1
  have h2 : crc s [] ≤ 4294967295 := by have := crc_below s []; omega
  generalize crc s [] = A at *
  have b0 : 4294967295 - s ≤ 4294967295 := by omega
  clear hA
  generalize 4294967295 - s = P at *
  go_enter Try.func11, Try.ntmps11
  go_wp2_with fail
  go_at_call 17
  refine (rests_any w).mono ?_
  rintro e w1 ⟨rfl, hb1⟩
  have hsize := full_size
  have hst : ∀ W : World, (storeCells ⟨W.heap.size, 0, none⟩ (full).toList).run Try.prog (W.alloc (.cells Z 35)) = .ok () (W.alloc (.cells (full) 35)) := fun W => run_storeCells_new W 35 Z (full) (by rw [hsize]; exact hi) (by rw [hsize, ← E0.out, ti_size]) (full_cells)
  have hb2 : Below w.heap.size w (w1.alloc (.cells (full) 35)) := hb1.alloc hb1.size _
  generalize full = T at *
  go_wp2_with fail
  obtain ⟨w2, e2⟩ : ∃ w2, w2 = w1.alloc (.cells T 35) := ⟨_, rfl⟩
  rw [← e2] at hb2 ⊢
  clear e2 hst hsize hzero hi hb1 E0
  refine wp_loop_rounds 1 ?_
  rw [rounds_succ]
  go_wp2
  go_ret
  exact ⟨rfl, hb2⟩
/-! ### Adler, piece by piece -/
def rawByte (p : Nat × Nat) (b : Nat) : Nat × Nat := (p.1 + b, p.2 + (p.1 + b))
def raw (p : Nat × Nat) (l : List Nat) : Nat × Nat := l.foldl rawByte p
theorem raw_cons (p : Nat × Nat) (b : Nat) (l : List Nat) : raw p (b :: l) = raw (rawByte p b) l := by
  unfold raw
  rw [List.foldl_cons]
theorem raw_nil (p : Nat × Nat) : raw p [] = p := by
  unfold raw
  rw [List.foldl_nil]
theorem raw_mod (p : Nat × Nat) (l : List Nat) : ((raw p l).1 % 65521, (raw p l).2 % 65521) = adlerReg (p.1 % 65521, p.2 % 65521) l := by
  induction l generalizing p with
  | nil => rw [raw_nil, adlerReg_nil]
  | cons b l ih =>
    rw [raw_cons, ih, adlerReg_cons]
    congr 1
    unfold rawByte adlerByte
    simp only
    refine Prod.ext ?_ ?_
    · show (p.1 + b) % 65521 = (p.1 % 65521 + b) % 65521
      omega
    · show (p.2 + (p.1 + b)) % 65521 = (p.2 % 65521 + (p.1 % 65521 + b) % 65521) % 65521
      omega
theorem raw_small {p : Nat × Nat} (h : small p) (l : List Nat) : ((raw p l).1 % 65521, (raw p l).2 % 65521) = adlerReg p l := by
  rw [raw_mod, Nat.mod_eq_of_lt h.1, Nat.mod_eq_of_lt h.2]
theorem raw_step (p : Nat × Nat) (zs : List Nat) (k : Nat) (hk : k < zs.length) : raw p (zs.take (k + 1)) = rawByte (raw p (zs.take k)) (zs.getD k 0) := take_next _ _ _ _ hk
theorem raw_most (p : Nat × Nat) (l : List Nat) (hl : bytes l) : (raw p l).1 ≤ p.1 + 255 * l.length ∧ 2 * (raw p l).2 ≤ 2 * p.2 + 2 * (p.1 * l.length) + 255 * (l.length * (l.length + 1)) := by
  induction l generalizing p with
  | nil => rw [raw_nil]; simp
  | cons b l ih =>
    have h := ih (rawByte p b) (fun d hd => hl d (by simp [hd]))
    have hb := hl b (by simp)
    rw [raw_cons, List.length_cons]
    generalize raw (rawByte p b) l = q at *
    unfold rawByte at h
    simp only at h
    generalize l.length = n at *
    refine ⟨by omega, ?_⟩
    have h2 := h.2
    have e1 : (p.1 + b) * n = p.1 * n + b * n := Nat.add_mul _ _ _
    have e2 : p.1 * (n + 1) = p.1 * n + p.1 := by rw [Nat.mul_add, Nat.mul_one]
    have e3 : (n + 1) * (n + 1 + 1) = n * (n + 1) + 2 * (n + 1) := by rw [Nat.mul_add, Nat.mul_one, Nat.add_mul, Nat.one_mul]; omega
    have e4 : b * n ≤ 255 * n := Nat.mul_le_mul_right n (by omega)
    rw [e1] at h2
    rw [e2, e3]
    generalize p.1 * n = u at *
    generalize b * n = v at *
    generalize n * (n + 1) = t at *
    omega
theorem raw_below {p : Nat × Nat} (h : small p) (l : List Nat) (hl : bytes l) (hn : l.length ≤ 5552) : (raw p l).1 ≤ 4294967295 ∧ (raw p l).2 ≤ 4294967295 := by
  have h1 := raw_most p l hl
  have h2 := h.1
  have h3 := h.2
  generalize raw p l = q at *
  generalize l.length = n at *
  have e1 : p.1 * n ≤ 65520 * 5552 := Nat.mul_le_mul (by omega) hn
  have e2 : n * (n + 1) ≤ 5552 * 5553 := Nat.mul_le_mul hn (by omega)
  generalize p.1 * n = u at *
  generalize n * (n + 1) = t at *
  omega
theorem adler_piece {P : Nat × Nat} (h : small P) (zs : List Nat) (k m : Nat) : adlerReg P (zs.take (k + m)) = ((raw (adlerReg P (zs.take k)) ((zs.drop k).take m)).1 % 65521, (raw (adlerReg P (zs.take k)) ((zs.drop k).take m)).2 % 65521) := by
  rw [raw_small (adlerReg_small h _), ← adlerReg_append, List.take_add]
def lenOf : Value → Nat
  | .slice _ n _ => n
  | _ => 0
theorem min_two (a : Nat) (w : World) : (Builtin.min_ #[3, 3] 3 #[.int .i64 (a : Int), .int .i64 5552]).run Try.prog w = .ok (.int .i64 ((min a 5552 : Nat) : Int)) w := by
  have e : ((min a 5552 : Nat) : Int) = (if (5552 : Int) < (a : Int) then 5552 else (a : Int)) := by
    omega
  rw [e]
  simp [Builtin.min_, Builtin.min2]
theorem slice_from (b o n cap m : Nat) (hm : m ≤ n) (hc : n ≤ cap) : ∃ o2, (∀ w, (Instr.slice 22 (.slice (some ⟨b, o, none⟩) n cap) (some (.int .i64 (m : Int))) none none).run Try.prog w = .ok (.slice (some ⟨b, o2, none⟩) (n - m) (cap - m)) w) ∧ (m < cap → o2 = o + m) := by
  have hs : ∀ w, (sizeOf (Try.prog.elem 22)).run Try.prog w = .ok 1 w := fun w => by rfl
  have hadd : (⟨b, o, none⟩ : Addr).add m = ⟨b, o + m, none⟩ := by unfold Addr.add; split <;> simp_all
  by_cases h : cap = m
  · refine ⟨o, fun w => ?_, fun h2 => by omega⟩
    rw [run_slice_l w 22 (some ⟨b, o, none⟩) n cap Try.underlying22 .i64 m (by omega) (by omega), hs]
    simp [sliced, Result.andThen, h]
  · refine ⟨o + m, fun w => ?_, fun _ => rfl⟩
    rw [run_slice_l w 22 (some ⟨b, o, none⟩) n cap Try.underlying22 .i64 m (by omega) (by omega), hs]
    simp [sliced, Result.andThen, hadd, h]
set_option maxHeartbeats 4000000 in
set_option maxRecDepth 100000 in
theorem adler_row (s b off cap len : Nat) (zs : List Nat) (w : World) (hs : s ≤ 4294967295) (hz : zs.length = len) (hbig : len ≤ 140737488355328) (hle : len ≤ cap) (h8 : bytes zs) (hc : ∀ j, j < len → w.cell? ⟨b, off + j, none⟩ = some (.int .u8 (zs.getD j 0 : Nat))) :
    Calls Try.prog 9 #[.int .u32 (s : Int), .slice (some ⟨b, off, none⟩) len cap] w fun e w' => e = .returned (.int .u32 (adler s zs : Nat)) ∧ w = w' := by
  have HZ := Lib.hid hz
  have HC := Lib.hid hc
  have H8 := Lib.hid h8
  clear hz hc h8
  have hlow := low_code s hs
  have bL : s % 65536 < 65536 := by omega
  have h0 := (halves_small s).1
  have h1 := (halves_small s).2
  have e0 : ((s % 65536 : Nat) : Int) % 65521 = ((halves s).1 : Nat) := by
    unfold halves
    show _ = ((s % 65536 % 65521 : Nat) : Int)
    omega
  have e1 : (s : Int) / 65536 % 65521 = ((halves s).2 : Nat) := by
    unfold halves
    show _ = ((s / 65536 % 65521 : Nat) : Int)
    omega
  have HA : Hid (adler s zs = joined (adlerReg (halves s) zs)) := rfl
  have HS := Lib.hid (halves_small s)
  have h2 : adler s zs ≤ 4294967295 := by have := adler_below s zs; omega
  generalize adler s zs = A at *
  have HT : Hid (∀ k, small (adlerReg (halves s) (zs.take k))) := fun k => adlerReg_small HS.out _
  have HN : Hid (adlerReg (halves s) (zs.take 0) = halves s) := by
    show adlerReg (halves s) (zs.take 0) = halves s
    rw [List.take_zero, adlerReg_nil]
  generalize halves s = P at *
  generalize s % 65536 = L at *
  go_enter Try.func9, Try.ntmps9
  go_wp2
  go_loop [1, 5, 6] (fun v x y => ∃ k n o c : Nat, k + n = len ∧ n ≤ c ∧ v = .slice (some ⟨b, o, none⟩) n c ∧ Hid (0 < n → o = off + k) ∧ x = .int .u32 ((adlerReg P (zs.take k)).1 : Nat) ∧ y = .int .u32 ((adlerReg P (zs.take k)).2 : Nat)) (fun v _ _ => lenOf v)
  case atStart => exact ⟨0, len, off, cap, by omega, hle, rfl, fun _ => rfl, by first | rw [HN.out, e0] | rw [HN.out], by first | rw [HN.out, e1] | rw [HN.out]⟩
  case round =>
    clear hlow bL e0 e1 h0 h1
    obtain ⟨k, n, o, c, hkn, hnc, rfl, HO, rfl, rfl⟩ := hrel
    have hX := (HT.out k).1
    have hY := (HT.out k).2
    by_cases hn0 : 0 < n
    · have hd : decide ((0 : Int) < (n : Int)) = true := decide_eq_true (by omega)
      obtain ⟨m, em⟩ : ∃ m, min n 5552 = m := ⟨_, rfl⟩
      have hmin := min_two n
      rw [em] at hmin
      have hm0 : 0 < m := by omega
      have hm1 : m ≤ 5552 := by omega
      have hmn : m ≤ n := by omega
      clear em
      have hsl := slice_to b o n c m (m : Int) rfl (by omega) (by omega)
      obtain ⟨o2, hfrom, ho2⟩ := slice_from b o n c m hmn hnc
      have HO2 := Lib.hid ho2
      clear ho2
      have ho := HO.out hn0
      have HK : Hid (∀ i, i < m → w.cell? ⟨b, o + i, none⟩ = some (.int .u8 (((zs.drop k).take m).getD i 0 : Nat))) := fun i hi => by
        rw [ho, Nat.add_assoc, HC.out (k + i) (by omega)]
        congr 2
        simp [List.getD, List.getElem?_drop, hi]
      have HB : Hid (bytes ((zs.drop k).take m)) := fun d hd => H8.out d (List.mem_of_mem_drop (List.mem_of_mem_take hd))
      have HLN : Hid (((zs.drop k).take m).length = m) := by
        show _ = _
        have := HZ.out
        rw [List.length_take, List.length_drop]
        omega
      have HPC := Lib.hid (adler_piece HS.out zs k m)
      have HRB : Hid (∀ i, i ≤ m → (raw (adlerReg P (zs.take k)) (((zs.drop k).take m).take i)).1 ≤ 4294967295 ∧ (raw (adlerReg P (zs.take k)) (((zs.drop k).take m).take i)).2 ≤ 4294967295) := fun i hi => raw_below (HT.out k) _ (fun d hd => HB.out d (List.mem_of_mem_take hd)) (by rw [List.length_take]; omega)
      have HSM := Lib.hid (HT.out (k + m))
      clear ho
      generalize (zs.drop k).take m = ps at *
      generalize adlerReg P (zs.take k) = Q at *
      go_wp2
      go_loop [5, 6, 26] (fun x y i => ∃ j : Nat, j ≤ m ∧ x = .int .u32 ((raw Q (ps.take j)).1 : Nat) ∧ y = .int .u32 ((raw Q (ps.take j)).2 : Nat) ∧ i = .int .i64 j) (fun _ _ i => m - (intOf i).toNat)
      case atStart => exact ⟨0, Nat.zero_le _, by rw [List.take_zero, raw_nil], by rw [List.take_zero, raw_nil], rfl⟩
      case round =>
        obtain ⟨j, hj, rfl, rfl, rfl⟩ := hrel
        have hxy := HRB.out j hj
        have hb := bytes_get HB.out j
        have HE : Hid (j < m → raw Q (ps.take (j + 1)) = rawByte (raw Q (ps.take j)) (ps.getD j 0) ∧ (raw Q (ps.take (j + 1))).1 ≤ 4294967295 ∧ (raw Q (ps.take (j + 1))).2 ≤ 4294967295) := fun h => ⟨raw_step Q ps j (by rw [HLN.out]; exact h), HRB.out (j + 1) h⟩
        by_cases hjm : j < m
        · have hd2 : decide ((j : Int) < (m : Int)) = true := decide_eq_true (by omega)
          have hcell := HK.out j hjm
          obtain ⟨hE, hE1, hE2⟩ := HE.out hjm
          rw [hE] at hE1 hE2
          have HE := Lib.hid hE
          clear hE
          generalize raw Q (ps.take j) = R at *
          generalize ps.getD j 0 = Z at *
          obtain ⟨X, Y⟩ := R
          unfold rawByte at hE1 hE2
          simp only at hxy hE1 hE2
          have ex : (X : Int) + (Z : Int) = ((X + Z : Nat) : Int) := by omega
          have ey : (Y : Int) + ((X + Z : Nat) : Int) = ((Y + (X + Z) : Nat) : Int) := by omega
          have HR : Hid (raw Q (ps.take (j + 1)) = (X + Z, Y + (X + Z))) := HE.out
          clear HE
          generalize Y + (X + Z) = Y1 at *
          generalize X + Z = X1 at *
          go_wp2
          go_round
          case rel => exact ⟨j + 1, by omega, by rw [HR.out], by rw [HR.out], by go_num⟩
          case measure => simp [intOf]; omega
        · have hd2 : decide ((j : Int) < (m : Int)) = false := decide_eq_false (by omega)
          obtain rfl : j = m := by omega
          have ht : ps.take j = ps := by rw [List.take_of_length_le (by rw [HLN.out]; exact Nat.le_refl _)]
          rw [ht] at hxy
          rw [ht]
          clear ht HE
          generalize raw Q ps = R at *
          obtain ⟨X, Y⟩ := R
          simp only at hxy
          have HF : Hid ((adlerReg P (zs.take (k + j))).1 = X % 65521 ∧ (adlerReg P (zs.take (k + j))).2 = Y % 65521) := by
            have := HPC.out
            exact ⟨by rw [this], by rw [this]⟩
          have em1 : (X : Int) % 65521 = ((X % 65521 : Nat) : Int) := by omega
          have em2 : (Y : Int) % 65521 = ((Y % 65521 : Nat) : Int) := by omega
          generalize X % 65521 = X1 at *
          generalize Y % 65521 = Y1 at *
          go_wp2
          go_round
          case rel => exact ⟨k + j, n - j, o2, c - j, by omega, by omega, rfl, fun h => by rw [HO2.out (by omega), HO.out (by omega)]; omega, by first | rw [HF.out.1, em1] | rw [HF.out.1], by first | rw [HF.out.2, em2] | rw [HF.out.2]⟩
          case measure => simp [lenOf]; omega
    · have hd : decide ((0 : Int) < (n : Int)) = false := decide_eq_false (by omega)
      have he : k = len := by omega
      have HF : Hid (joined (adlerReg P (zs.take k)) = A) := by
        show _ = _
        rw [he, ← HZ.out, List.take_length, HA.out]
      generalize adlerReg P (zs.take k) = Q at *
      obtain ⟨X, Y⟩ := Q
      simp only at hX hY
      have j1 := join_code X Y hX hY
      have j2 := join_code2 X Y hX hY
      have hA := HF.out
      unfold joined at hA
      simp only at hA
      rw [hA] at j1 j2
      clear hA
      go_wp2
      go_ret
      exact ⟨rfl, rfl⟩
set_option maxHeartbeats 1000000 in
theorem adler_none (s : Nat) (o : Option Addr) (cap : Nat) (w : World) (hs : s ≤ 4294967295) :
    Calls Try.prog 9 #[.int .u32 (s : Int), .slice o 0 cap] w fun e w' => e = .returned (.int .u32 (adler s [] : Nat)) ∧ w = w' := by
  have hlow := low_code s hs
  have bL : s % 65536 < 65536 := by omega
  have h0 := (halves_small s).1
  have h1 := (halves_small s).2
  have j1 := join_code (halves s).1 (halves s).2 h0 h1
  have j2 := join_code2 (halves s).1 (halves s).2 h0 h1
  have hA : (halves s).2 * 65536 + (halves s).1 = adler s [] := by
    unfold adler
    rw [adlerReg_nil]
    rfl
  have e0 : ((s % 65536 : Nat) : Int) % 65521 = ((halves s).1 : Nat) := by
    unfold halves
    show _ = ((s % 65536 % 65521 : Nat) : Int)
    omega
  have e1 : (s : Int) / 65536 % 65521 = ((halves s).2 : Nat) := by
    unfold halves
    show _ = ((s / 65536 % 65521 : Nat) : Int)
    omega
  have h2 := adler_below s []
  rw [hA] at j1 j2
  generalize adler s [] = A at *
  generalize s % 65536 = L at *
  clear hA
  generalize (halves s).1 = X at *
  generalize (halves s).2 = Y at *
  go_enter Try.func9, Try.ntmps9
  go_wp2
  refine wp_loop_rounds 1 ?_
  rw [rounds_succ]
  go_wp2
  go_ret
  exact ⟨rfl, rfl⟩
theorem does : Does where
  crc := fun s v zs w hs hr h8 hl => by
    rcases hr with ⟨⟨o, cap, rfl, ho⟩, rfl⟩ | ⟨b, off, cap, rfl, hle, hlt, hc⟩
    · exact crc_none s o cap w hs
    · exact crc_row s b off cap zs.length zs w hs rfl hl h8 hlt hc
  adler := fun s v zs w hs hr h8 hl => by
    rcases hr with ⟨⟨o, cap, rfl, ho⟩, rfl⟩ | ⟨b, off, cap, rfl, hle, hlt, hc⟩
    · exact (adler_none s o cap w hs).mono fun e w' ⟨he, hw⟩ => ⟨he, hw ▸ Below.refl _ _⟩
    · exact (adler_row s b off cap zs.length zs w hs rfl hl hle h8 hc).mono fun e w' ⟨he, hw⟩ => ⟨he, hw ▸ Below.refl _ _⟩
end Go.Proofs.Ytmbbgppmidogbaa.Fx
