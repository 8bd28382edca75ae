/-
  The walk of SumsSteps. The conditions are that the numbers are of their kinds and the list reads as bytes.
-/
import Derived.Test.YtmbbgppmidogbaaSumsA
import Derived.Deep.RegionHeld3
namespace Go.Proofs.Ytmbbgppmidogbaa.Fx
open Go Go.RowKit
set_option linter.unusedVariables false
/-- What Adler comes to, byte by byte. -/
def stepped (s : Nat) (zs : List Nat) (k : Nat) : Nat := if k = 0 then s else adler s (zs.take k)
theorem take_one (zs : List Nat) (k : Nat) (hk : k < zs.length) : zs.take (k + 1) = zs.take k ++ [zs.getD k 0] := by
  rw [List.take_add_one, List.getElem?_eq_getElem hk, Option.toList_some]
  simp [List.getD, hk]
theorem stepped_next (s : Nat) (zs : List Nat) (k : Nat) (hk : k < zs.length) : adler (stepped s zs k) [zs.getD k 0] = stepped s zs (k + 1) := by
  unfold stepped
  rw [if_neg (show ¬ k + 1 = 0 by omega), take_one zs k hk]
  by_cases h : k = 0
  · rw [if_pos h, h, List.take_zero, List.nil_append]
  · rw [if_neg h, adler_append]
theorem stepped_below {s : Nat} (hs : s ≤ 4294967295) (zs : List Nat) (k : Nat) : stepped s zs k ≤ 4294967295 := by
  have := adler_below s (zs.take k)
  unfold stepped
  split <;> omega
theorem bytes_take {zs : List Nat} (h : bytes zs) (k : Nat) : bytes (zs.take k) := fun b hb => h b (List.mem_of_mem_take hb)
theorem crc_next (s : Nat) {zs : List Nat} (h : bytes zs) (k : Nat) (hk : k < zs.length) : crc (crc s (zs.take k)) [zs.getD k 0] = crc s (zs.take (k + 1)) := by
  rw [take_one zs k hk, crc_append _ (bytes_take h k)]
theorem reads_one {W : World} {b off cap : Nat} {zs : List Nat} (hle : 1 ≤ cap) (hlt : b < W.heap.size) (hc : ∀ j, j < zs.length → W.cell? ⟨b, off + j, none⟩ = some (.int .u8 (zs.getD j 0 : Nat))) (k : Nat) (hk : k < zs.length) (w : World) (hb : Below W.heap.size W w) :
    reads w (.slice (some ⟨b, off + k, none⟩) 1 cap) [zs.getD k 0] := by
  refine .inr ⟨b, off + k, cap, rfl, hle, Nat.lt_of_lt_of_le hlt hb.size, fun j hj => ?_⟩
  have hj0 : j = 0 := by simp at hj; omega
  subst hj0
  rw [Nat.add_zero, hb.cell (p := ⟨b, off + k, none⟩) hlt, hc k hk]
  rfl
theorem low_code (s : Nat) (hs : s ≤ 4294967295) : bits .and .u32 (s : Int) 65535 = ((s % 65536 : Nat) : Int) := by
  have := u32_and_nat s 65535 (by omega) (by decide)
  rw [show (65535 : Nat) = 2 ^ 16 - 1 from rfl, Nat.and_two_pow_sub_one_eq_mod] at this
  exact this
theorem join_code (x y : Nat) (hx : x < 65521) (hy : y < 65521) : bits .or .u32 (IntKind.u32.wrap ((y : Int) * 65536)) (x : Int) = ((y * 65536 + x : Nat) : Int) := by
  have e : IntKind.u32.wrap ((y : Int) * 65536) = ((y * 65536 : Nat) : Int) := by
    rw [IntKind.wrap_u32']
    omega
  rw [e, u32_or_nat _ _ (by omega) (by omega)]
  congr 1
  have := Nat.shiftLeft_add_eq_or_of_lt (show x < 2 ^ 16 by omega) y
  rw [Nat.shiftLeft_eq] at this
  exact this.symm
theorem slice_some (b off n cap l h : Nat) (hl : l ≤ h) (hh : h ≤ cap) (hlc : l < cap) (w : World) :
    (Instr.slice 22 (.slice (some ⟨b, off, none⟩) n cap) (some (.int .i64 (l : Int))) (some (.int .i64 (h : Int))) none).run Try.prog w = .ok (.slice (some ⟨b, off + l, none⟩) (h - l) (cap - l)) w := by
  have hs : (sizeOf (Try.prog.elem 22)).run Try.prog w = .ok 1 w := by rfl
  rw [run_slice_lh w 22 (some ⟨b, off, none⟩) n cap Try.underlying22 .i64 .i64 l h (by omega) (by omega) (by omega), hs]
  have hadd : (⟨b, off, none⟩ : Addr).add l = ⟨b, off + l, none⟩ := by unfold Addr.add; split <;> simp_all
  have hne : ¬ cap = l := by omega
  simp [sliced, Result.andThen, hadd, hne]
theorem join_code2 (x y : Nat) (hx : x < 65521) (hy : y < 65521) : bits .or .u32 ((y : Int) * 65536) (x : Int) = ((y * 65536 + x : Nat) : Int) := by
  have h := join_code x y hx hy
  rw [IntKind.wrap_u32', Int.emod_eq_of_lt (by omega) (by omega)] at h
  exact h
theorem below_keep {W w w' : World} (h : Below W.heap.size W w) (k : Below w.heap.size w w') : Below W.heap.size W w' := h.trans (k.mono h.size)
set_option maxHeartbeats 4000000 in
set_option maxRecDepth 100000 in
theorem steps_row (D : Does) (s b off cap n : Nat) (zs : List Nat) (hs : s ≤ 4294967295) (W : World) (hz : zs.length = n) (hn : n ≤ 300) (hcap : n ≤ cap) (hlt : b < W.heap.size) (h8 : bytes zs) (hc : ∀ j, j < zs.length → W.cell? ⟨b, off + j, none⟩ = some (.int .u8 (zs.getD j 0 : Nat))) :
    Calls Try.prog 8 #[.int .u32 (s : Int), .slice (some ⟨b, off, none⟩) n cap] W fun e w' => e = .returned (.bool true) ∧ Below W.heap.size W w' := by
  have hbl := Below.refl W.heap.size W
  have hd : decide ((300 : Int) < (n : Int)) = false := decide_eq_false (by omega)
  have HC := Lib.hid hc
  have H8 := Lib.hid h8
  have HZ := Lib.hid hz
  have HR : Hid (reads W (.slice (some ⟨b, off, none⟩) n cap) zs) := .inr ⟨b, off, cap, by rw [hz], by rw [hz]; exact hcap, hlt, hc⟩
  have HL : Hid (zs.length ≤ 140737488355328) := by show _ ≤ _; omega
  clear hc h8 hz
  have HN : Hid (crc s (zs.take 0) = s) := by
    show crc s (zs.take 0) = s
    rw [List.take_zero, crc_nil (by omega)]
  go_enter Try.func8, Try.ntmps8
  go_wp2_with fail
  go_loopw [5, 6, 7] (fun c a i wr => ∃ k : Nat, k ≤ n ∧ c = .int .u32 (crc s (zs.take k) : Nat) ∧ a = .int .u32 (stepped s zs k : Nat) ∧ i = .int .i64 k ∧ Below W.heap.size W wr) (fun _ _ i _ => n - (intOf i).toNat)
  case atStart => exact ⟨0, Nat.zero_le _, by rw [HN.out], rfl, rfl, hbl⟩
  case round =>
    clear hbl
    obtain ⟨k, hk, rfl, rfl, rfl, hbl⟩ := hrel
    have b1 := crc_below s (zs.take k)
    have b2 := stepped_below hs zs k
    by_cases hkn : k < n
    · have hd2 : decide ((k : Int) < (n : Int)) = true := decide_eq_true (by omega)
      have HO : Hid (∀ w', Below W.heap.size W w' → reads w' (.slice (some ⟨b, off + k, none⟩) 1 (cap - k)) [zs.getD k 0]) := fun w' hb => reads_one (by omega) hlt HC.out k (by rw [HZ.out]; exact hkn) w' hb
      have H1 : Hid (bytes [zs.getD k 0]) := by
        have := bytes_get H8.out k
        intro d hd
        rw [List.mem_singleton.mp hd]
        omega
      have E1 := Lib.hid (crc_next s H8.out k (by rw [HZ.out]; exact hkn))
      have E2 := Lib.hid (stepped_next s zs k (by rw [HZ.out]; exact hkn))
      have hsl := slice_some b off n cap k (k + 1) (by omega) (by omega) (by omega)
      rw [Nat.add_sub_cancel_left, Int.natCast_add] at hsl
      have hsum : IntKind.i64.wrap ((k : Int) + 1) = (k : Int) + ((1 : Nat) : Int) := IntWalk.i64_in _ (by omega)
      simp only [Int.natCast_one] at hsl hsum
      generalize crc s (zs.take k) = C at *
      generalize stepped s zs k = A at *
      generalize zs.getD k 0 = Z at *
      go_wp2_with fail
      go_region_held3 (fun w' => Below W.heap.size W w') (first | (with_reducible assumption) | exact Below.drew (by with_reducible assumption) | exact below_keep (by with_reducible assumption) hnew) (first | (go_at_call 11; refine (D.crc _ _ _ _ (by omega) (HO.out _ (by with_reducible assumption)) H1.out (by simp)).mono ?_; rintro e w' ⟨rfl, hnew⟩) | (go_at_call 9; refine (D.adler _ _ _ _ (by omega) (HO.out _ (by with_reducible assumption)) H1.out (by simp)).mono ?_; rintro e w' ⟨rfl, hnew⟩))
      have hb2 : Below W.heap.size W w' := by with_reducible assumption
      clear hnew
      go_simp
      go_wp2
      go_roundw
      case rel => exact ⟨k + 1, by omega, by rw [E1.out], by rw [E2.out], by go_num, hb2⟩
      case measure => simp [intOf]; omega
    · have hd2 : decide ((k : Int) < (n : Int)) = false := decide_eq_false (by omega)
      obtain rfl : k = n := by omega
      clear hkn hk
      have HT : Hid (zs.take k = zs) := by
        show zs.take k = zs
        rw [← HZ.out, List.take_length]
      have HV : Hid (0 < k → stepped s zs k = adler s zs) := by
        intro hk0
        unfold stepped
        rw [if_neg (by omega), HT.out]
      have HW : Hid (crc s (zs.take k) = crc s zs) := by
        show crc s (zs.take k) = crc s zs
        rw [HT.out]
      rw [HW.out] at b1
      rw [HW.out]
      have hlow := low_code s hs
      have bL : s % 65536 < 65536 := by omega
      have e0 : ((s % 65536 : Nat) : Int) % 65521 = ((halves s).1 : Nat) := by
        unfold halves
        show _ = ((s % 65536 % 65521 : Nat) : Int)
        omega
      have e1 : (s : Int) / 65536 % 65521 = ((halves s).2 : Nat) := by
        unfold halves
        show _ = ((s / 65536 % 65521 : Nat) : Int)
        omega
      have h0 := (halves_small s).1
      have h1 := (halves_small s).2
      generalize s % 65536 = L at *
      have HA : Hid (adler s zs = joined (adlerReg (halves s) zs)) := rfl
      have HT2 : Hid (∀ j, small (adlerReg (halves s) (zs.take j))) := fun j => adlerReg_small (halves_small s) _
      have HN2 : Hid (adlerReg (halves s) (zs.take 0) = halves s) := by
        show adlerReg (halves s) (zs.take 0) = halves s
        rw [List.take_zero, adlerReg_nil]
      have h2 := adler_below s zs
      have HDC := Lib.hid (fun (w : World) (hb : Below W.heap.size W w) => D.crc s _ zs w hs (reads_on hb HR.out) H8.out HL.out)
      have HDA := Lib.hid (fun (w : World) (hb : Below W.heap.size W w) => D.adler s _ zs w hs (reads_on hb HR.out) H8.out HL.out)
      generalize adler s zs = A at *
      generalize crc s zs = C at *
      generalize halves s = P at *
      clear HW HT
      have t1 : ((C : Int) != (C : Int)) = false := by simp
      have t2 : ((A : Int) != (A : Int)) = false := by simp
      have t3 : ((A : Int) == (A : Int)) = true := by simp
      by_cases hk0 : 0 < k
      · have hd3 : decide ((0 : Int) < (k : Int)) = true := decide_eq_true (by omega)
        rw [HV.out hk0]
        clear HV
        go_wp2_with (first | (go_at_call 11; refine (HDC.out _ hbl).mono ?_; rintro e w' ⟨rfl, hnew⟩; replace hbl := below_keep hbl hnew; clear hnew) | (go_at_call 9; refine (HDA.out _ hbl).mono ?_; rintro e w' ⟨rfl, hnew⟩; replace hbl := below_keep hbl hnew; clear hnew))
        go_loop [8, 9, 10] (fun x y i => ∃ j : Nat, j ≤ k ∧ x = .int .u32 ((adlerReg P (zs.take j)).1 : Nat) ∧ y = .int .u32 ((adlerReg P (zs.take j)).2 : Nat) ∧ i = .int .i64 j) (fun _ _ i => k - (intOf i).toNat)
        case atStart => exact ⟨0, Nat.zero_le _, by first | rw [HN2.out, e0] | rw [HN2.out], by first | rw [HN2.out, e1] | rw [HN2.out], rfl⟩
        case round =>
          obtain ⟨j, hj, rfl, rfl, rfl⟩ := hrel
          have hX := (HT2.out j).1
          have hY := (HT2.out j).2
          have hbz := bytes_get H8.out j
          have HE : Hid (j < k → adlerReg P (zs.take (j + 1)) = adlerByte (adlerReg P (zs.take j)) (zs.getD j 0)) := fun h => adler_step P zs j (by rw [HZ.out]; exact h)
          have HF : Hid (j = k → joined (adlerReg P (zs.take j)) = A) := fun h => by rw [h, ← HZ.out, List.take_length, HA.out]
          have HK : Hid (j < k → W.cell? ⟨b, off + j, none⟩ = some (.int .u8 (zs.getD j 0 : Nat))) := fun h => HC.out j (by rw [HZ.out]; exact h)
          generalize adlerReg P (zs.take j) = Q at *
          generalize zs.getD j 0 = Z at *
          obtain ⟨X, Y⟩ := Q
          simp only at hX hY
          by_cases hjk : j < k
          · have hd5 : decide ((j : Int) < (k : Int)) = true := decide_eq_true (by omega)
            have hcell := (hbl.cell (p := ⟨b, off + j, none⟩) hlt).trans (HK.out hjk)
            have HE := Lib.hid (HE.out hjk)
            obtain ⟨X1, ex, HX1, bx⟩ : ∃ X1 : Nat, ((X : Int) + (Z : Int)) % 65521 = (X1 : Int) ∧ Hid (X1 = (X + Z) % 65521) ∧ X1 < 65521 := ⟨(X + Z) % 65521, by omega, rfl, by omega⟩
            obtain ⟨Y1, ey, HY1, by1⟩ : ∃ Y1 : Nat, ((Y : Int) + (X1 : Int)) % 65521 = (Y1 : Int) ∧ Hid (Y1 = (Y + X1) % 65521) ∧ Y1 < 65521 := ⟨(Y + X1) % 65521, by omega, rfl, by omega⟩
            go_wp2
            go_round
            case rel => exact ⟨j + 1, by omega, by rw [HE.out, ex, HX1.out]; rfl, by rw [HE.out, ey, HY1.out, HX1.out]; rfl, by go_num⟩
            case measure => simp [intOf]; omega
          · have hd5 : decide ((j : Int) < (k : Int)) = false := decide_eq_false (by omega)
            obtain rfl : j = k := by omega
            have j1 := join_code X Y hX hY
            have j2 := join_code2 X Y hX hY
            have hA := HF.out rfl
            unfold joined at hA
            simp only at hA
            rw [hA] at j1 j2
            clear hA
            go_wp2_with (first | (go_at_call 9; refine (HDA.out _ hbl).mono ?_; rintro e w' ⟨rfl, hnew⟩; replace hbl := below_keep hbl hnew; clear hnew) | (go_at_call 13; refine (awake_any D _).mono ?_; rintro e w' ⟨rfl, hnew⟩; replace hbl := below_keep hbl hnew; clear hnew))
            go_ret
            exact ⟨rfl, hbl⟩
      · have hd3 : decide ((0 : Int) < (k : Int)) = false := decide_eq_false (by omega)
        clear HV
        generalize stepped s zs k = V at *
        go_wp2_with fail
        go_loop [8, 9, 10] (fun x y i => ∃ j : Nat, j ≤ k ∧ x = .int .u32 ((adlerReg P (zs.take j)).1 : Nat) ∧ y = .int .u32 ((adlerReg P (zs.take j)).2 : Nat) ∧ i = .int .i64 j) (fun _ _ i => k - (intOf i).toNat)
        case atStart => exact ⟨0, Nat.zero_le _, by first | rw [HN2.out, e0] | rw [HN2.out], by first | rw [HN2.out, e1] | rw [HN2.out], rfl⟩
        case round =>
          obtain ⟨j, hj, rfl, rfl, rfl⟩ := hrel
          have hX := (HT2.out j).1
          have hY := (HT2.out j).2
          have hbz := bytes_get H8.out j
          have HE : Hid (j < k → adlerReg P (zs.take (j + 1)) = adlerByte (adlerReg P (zs.take j)) (zs.getD j 0)) := fun h => adler_step P zs j (by rw [HZ.out]; exact h)
          have HF : Hid (j = k → joined (adlerReg P (zs.take j)) = A) := fun h => by rw [h, ← HZ.out, List.take_length, HA.out]
          have HK : Hid (j < k → W.cell? ⟨b, off + j, none⟩ = some (.int .u8 (zs.getD j 0 : Nat))) := fun h => HC.out j (by rw [HZ.out]; exact h)
          generalize adlerReg P (zs.take j) = Q at *
          generalize zs.getD j 0 = Z at *
          obtain ⟨X, Y⟩ := Q
          simp only at hX hY
          by_cases hjk : j < k
          · have hd5 : decide ((j : Int) < (k : Int)) = true := decide_eq_true (by omega)
            have hcell := (hbl.cell (p := ⟨b, off + j, none⟩) hlt).trans (HK.out hjk)
            have HE := Lib.hid (HE.out hjk)
            obtain ⟨X1, ex, HX1, bx⟩ : ∃ X1 : Nat, ((X : Int) + (Z : Int)) % 65521 = (X1 : Int) ∧ Hid (X1 = (X + Z) % 65521) ∧ X1 < 65521 := ⟨(X + Z) % 65521, by omega, rfl, by omega⟩
            obtain ⟨Y1, ey, HY1, by1⟩ : ∃ Y1 : Nat, ((Y : Int) + (X1 : Int)) % 65521 = (Y1 : Int) ∧ Hid (Y1 = (Y + X1) % 65521) ∧ Y1 < 65521 := ⟨(Y + X1) % 65521, by omega, rfl, by omega⟩
            go_wp2
            go_round
            case rel => exact ⟨j + 1, by omega, by rw [HE.out, ex, HX1.out]; rfl, by rw [HE.out, ey, HY1.out, HX1.out]; rfl, by go_num⟩
            case measure => simp [intOf]; omega
          · have hd5 : decide ((j : Int) < (k : Int)) = false := decide_eq_false (by omega)
            obtain rfl : j = k := by omega
            have j1 := join_code X Y hX hY
            have j2 := join_code2 X Y hX hY
            have hA := HF.out rfl
            unfold joined at hA
            simp only at hA
            rw [hA] at j1 j2
            clear hA
            go_wp2_with (first | (go_at_call 9; refine (HDA.out _ hbl).mono ?_; rintro e w' ⟨rfl, hnew⟩; replace hbl := below_keep hbl hnew; clear hnew) | (go_at_call 13; refine (awake_any D _).mono ?_; rintro e w' ⟨rfl, hnew⟩; replace hbl := below_keep hbl hnew; clear hnew))
            go_ret
            exact ⟨rfl, hbl⟩
theorem steps_nil (D : Does) (s : Nat) (o : Option Addr) (cap : Nat) (ho : o = none → cap = 0) (hs : s ≤ 4294967295) (W : World) :
    Calls Try.prog 8 #[.int .u32 (s : Int), .slice o 0 cap] W fun e w' => e = .returned (.bool true) ∧ Below W.heap.size W w' := by
  have hbl := Below.refl W.heap.size W
  have hlow := low_code s hs
  have bL : s % 65536 < 65536 := by omega
  have h0 := (halves_small s).1
  have h1 := (halves_small s).2
  have j1 := join_code (halves s).1 (halves s).2 h0 h1
  have j2 := join_code2 (halves s).1 (halves s).2 h0 h1
  have hA : (halves s).2 * 65536 + (halves s).1 = adler s [] := by
    unfold adler
    rw [adlerReg_nil]
    rfl
  have e0 : ((s % 65536 : Nat) : Int) % 65521 = ((halves s).1 : Nat) := by
    unfold halves
    show _ = ((s % 65536 % 65521 : Nat) : Int)
    omega
  have e1 : (s : Int) / 65536 % 65521 = ((halves s).2 : Nat) := by
    unfold halves
    show _ = ((s / 65536 % 65521 : Nat) : Int)
    omega
  have h2 := adler_below s []
  have HDA := Lib.hid (fun (w : World) => D.adler s (.slice o 0 cap) [] w hs (.inl ⟨⟨o, cap, rfl, ho⟩, rfl⟩) bytes_none (by simp))
  rw [hA] at j1 j2
  generalize adler s [] = A at *
  generalize s % 65536 = L at *
  clear hA
  generalize (halves s).1 = X at *
  generalize (halves s).2 = Y at *
  have t3 : ((A : Int) == (A : Int)) = true := by simp
  go_enter Try.func8, Try.ntmps8
  go_wp2_with fail
  refine wp_loop_rounds 1 ?_
  rw [rounds_succ]
  go_wp2_with fail
  refine wp_loop_rounds 1 ?_
  rw [rounds_succ]
  go_wp2_with fail
  all_goals go_wp2_with (first | (go_at_call 9; refine (HDA.out _).mono ?_; rintro e w' ⟨rfl, hnew⟩; replace hbl := below_keep hbl hnew; clear hnew) | (go_at_call 13; refine (awake_any D _).mono ?_; rintro e w' ⟨rfl, hnew⟩; replace hbl := below_keep hbl hnew; clear hnew))
  all_goals go_ret
  all_goals exact ⟨rfl, hbl⟩
theorem steps_walk (D : Does) (s : Nat) (v : Value) (zs : List Nat) (hs : s ≤ 4294967295) (W : World) (hr : reads W v zs) (h8 : bytes zs) (hcap : ∀ b off len cap, v = .slice (some ⟨b, off, none⟩) len cap → len ≤ cap) :
    Calls Try.prog 8 #[.int .u32 (s : Int), v] W fun e w' => e = .returned (.bool true) ∧ Below W.heap.size W w' := by
  by_cases hl : zs.length ≤ 300
  · rcases hr with ⟨⟨o, cap, rfl, ho⟩, rfl⟩ | ⟨b, off, cap, rfl, hle, hlt, hc⟩
    · exact steps_nil D s o cap ho hs W
    · exact steps_row D s b off cap zs.length zs hs W rfl hl (hcap _ _ _ _ rfl) hlt h8 hc
  · have hbl := Below.refl W.heap.size W
    have hlen := len_reads hr
    have hd : decide ((300 : Int) < (zs.length : Int)) = true := decide_eq_true (by omega)
    clear hl
    generalize zs.length = n at *
    go_enter Try.func8, Try.ntmps8
    go_wp2_with (go_at_call 13; refine (awake_any D _).mono ?_; rintro e w' ⟨rfl, hnew⟩; replace hbl := below_keep hbl hnew; clear hnew)
    go_ret
    exact ⟨rfl, hbl⟩
theorem steps_law (D : Does) (W : World) (s : Nat) (v : Value) (zs : List Nat) (hs : s ≤ 4294967295) (hr : reads W v zs) (h8 : bytes zs) (hcap : ∀ b off len cap, v = .slice (some ⟨b, off, none⟩) len cap → len ≤ cap) :
    Calls Try.prog 8 #[.int .u32 (s : Int), v] W fun e w' => e = .returned (.bool true) ∧ Below W.heap.size W w' := steps_walk D s v zs hs W hr h8 hcap
end Go.Proofs.Ytmbbgppmidogbaa.Fx
