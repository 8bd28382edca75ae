/-
  Lists of bytes in memory; the document's own answers for both sums. The conditions stand in each.
-/
import Derived.WalkKit
import Derived.Laws.Bits64
import Derived.Laws.BitsAllLaws
import Derived.Lib.Hide
import Derived.Handy
import Derived.Test.YtmbbgppmidogbaaRows
import Derived.Test.YtmbbgppmidogbaaSumsP
namespace Go.Proofs.Ytmbbgppmidogbaa.Fx
open Go Go.RowKit
set_option linter.unusedVariables false
/-- A slice's value that reads as these bytes. -/
def reads (w : World) (v : Value) (zs : List Nat) : Prop :=
  ((∃ o cap, v = .slice o 0 cap ∧ (o = none → cap = 0)) ∧ zs = []) ∨ ∃ b off cap, v = .slice (some ⟨b, off, none⟩) zs.length cap ∧ zs.length ≤ cap ∧ b < w.heap.size ∧ ∀ j, j < zs.length → w.cell? ⟨b, off + j, none⟩ = some (.int .u8 (zs.getD j 0 : Nat))
def bytes (zs : List Nat) : Prop := ∀ b ∈ zs, b < 256
theorem bytes_get {zs : List Nat} (h : bytes zs) (j : Nat) : zs.getD j 0 ≤ 255 := by
  by_cases hj : j < zs.length
  · have : zs.getD j 0 = zs[j] := by simp [List.getD, hj]
    rw [this]
    have := h _ (List.getElem_mem hj)
    omega
  · have : zs.getD j 0 = 0 := by simp [List.getD, hj]
    omega
theorem reads_on {w w' : World} {v : Value} {zs : List Nat} (hb : Below w.heap.size w w') (h : reads w v zs) : reads w' v zs := by
  rcases h with h | ⟨b, off, cap, rfl, hle, hlt, hc⟩
  · exact .inl h
  · exact .inr ⟨b, off, cap, rfl, hle, Nat.lt_of_lt_of_le hlt hb.size, fun j hj => (hb.cell (p := ⟨b, off + j, none⟩) hlt).trans (hc j hj)⟩
theorem take_next {α : Type} (f : α → Nat → α) (x : α) (zs : List Nat) (k : Nat) (hk : k < zs.length) : (zs.take (k + 1)).foldl f x = f ((zs.take k).foldl f x) (zs.getD k 0) := by
  rw [List.take_add_one, List.foldl_append, List.getElem?_eq_getElem hk, Option.toList_some, List.foldl_cons, List.foldl_nil]
  simp only [List.getD, List.getElem?_eq_getElem hk, Option.getD_some]
theorem adler_step (p : Nat × Nat) (zs : List Nat) (k : Nat) (hk : k < zs.length) : adlerReg p (zs.take (k + 1)) = adlerByte (adlerReg p (zs.take k)) (zs.getD k 0) := take_next _ _ _ _ hk
theorem reg_step (c : Nat) (zs : List Nat) (k : Nat) (hk : k < zs.length) : reg c (zs.take (k + 1)) = crcByte (reg c (zs.take k)) (zs.getD k 0) := take_next _ _ _ _ hk
theorem ret_u32 {a b : Int} (h : a = b) : Ending.returned (.int .u32 a) = Ending.returned (.int .u32 b) := by rw [h]
theorem wrap_u32_nat (n : Nat) (h : n < 4294967296) : IntKind.u32.wrap (n : Int) = (n : Int) := by
  rw [IntKind.wrap_u32']
  omega
set_option maxHeartbeats 1000000 in
theorem radler_row (s b off cap len : Nat) (zs : List Nat) (w : World) (hs : s ≤ 4294967295) (hz : zs.length = len) (hbig : len ≤ 140737488355328) (h8 : bytes zs) (hc : ∀ j, j < len → w.cell? ⟨b, off + j, none⟩ = some (.int .u8 (zs.getD j 0 : Nat))) :
    Calls Try.prog 10 #[.int .u32 (s : Int), .slice (some ⟨b, off, none⟩) len cap] w fun e w' => e = .returned (.int .u32 (adler s zs : Nat)) ∧ w = w' := by
  have HZ := Lib.hid hz
  have HC := Lib.hid hc
  have HB := Lib.hid (bytes_get h8)
  clear hz hc h8
  have h0 := (halves_small s).1
  have h1 := (halves_small s).2
  have e0 : (s : Int) % 65536 % 65521 = ((halves s).1 : Nat) := by
    unfold halves
    show _ = ((s % 65536 % 65521 : Nat) : Int)
    omega
  have e1 : (s : Int) / 65536 % 65521 = ((halves s).2 : Nat) := by
    unfold halves
    show _ = ((s / 65536 % 65521 : Nat) : Int)
    omega
  have HA : Hid (adler s zs = joined (adlerReg (halves s) zs)) := rfl
  have HS := Lib.hid (halves_small s)
  have h2 : adler s zs ≤ 4294967295 := by have := adler_below s zs; omega
  generalize adler s zs = A at *
  have HT : Hid (∀ k, small (adlerReg (halves s) (zs.take k))) := fun k => adlerReg_small HS.out _
  have HN : Hid (adlerReg (halves s) (zs.take 0) = halves s) := by
    show adlerReg (halves s) (zs.take 0) = halves s
    rw [List.take_zero, adlerReg_nil]
  generalize halves s = P at *
  go_enter Try.func10, Try.ntmps10
  go_wp2
  go_loop [5, 6, 7] (fun x y i => ∃ k : Nat, k ≤ len ∧ x = .int .u32 ((adlerReg P (zs.take k)).1 : Nat) ∧ y = .int .u32 ((adlerReg P (zs.take k)).2 : Nat) ∧ i = .int .i64 k) (fun _ _ i => len - (intOf i).toNat)
  case atStart => exact ⟨0, Nat.zero_le _, by rw [HN.out, e0], by rw [HN.out, e1], rfl⟩
  case round =>
    obtain ⟨k, hk, rfl, rfl, rfl⟩ := hrel
    have hX := (HT.out k).1
    have hY := (HT.out k).2
    have hb := HB.out k
    have HK : Hid (k < len → w.cell? ⟨b, off + k, none⟩ = some (.int .u8 (zs.getD k 0 : Nat))) := HC.out k
    have HE : Hid (k < len → adlerReg P (zs.take (k + 1)) = adlerByte (adlerReg P (zs.take k)) (zs.getD k 0)) := fun h => adler_step P zs k (by rw [HZ.out]; exact h)
    have HF : Hid (k = len → joined (adlerReg P (zs.take k)) = A) := fun h => by rw [h, ← HZ.out, List.take_length, HA.out]
    generalize adlerReg P (zs.take k) = Q at *
    generalize zs.getD k 0 = Z at *
    obtain ⟨X, Y⟩ := Q
    simp only at hX hY
    by_cases hlt : k < len
    · have hd : decide ((k : Int) < (len : Int)) = true := decide_eq_true (by omega)
      have hcell := HK.out hlt
      have HE := Lib.hid (HE.out hlt)
      obtain ⟨X1, ex, HX1, bx⟩ : ∃ X1 : Nat, ((X : Int) + (Z : Int)) % 65521 = (X1 : Int) ∧ Hid (X1 = (X + Z) % 65521) ∧ X1 < 65521 := ⟨(X + Z) % 65521, by omega, rfl, by omega⟩
      obtain ⟨Y1, ey, HY1, by1⟩ : ∃ Y1 : Nat, ((Y : Int) + (X1 : Int)) % 65521 = (Y1 : Int) ∧ Hid (Y1 = (Y + X1) % 65521) ∧ Y1 < 65521 := ⟨(Y + X1) % 65521, by omega, rfl, by omega⟩
      go_wp2
      go_round
      case rel => exact ⟨k + 1, by omega, by rw [HE.out, ex, HX1.out]; rfl, by rw [HE.out, ey, HY1.out, HX1.out]; rfl, by go_num⟩
      case measure => simp [intOf]; omega
    · have hd : decide ((k : Int) < (len : Int)) = false := decide_eq_false (by omega)
      have he : k = len := by omega
      have ha : (Y : Int) * 65536 + (X : Int) = (A : Int) := by
        have := HF.out he
        unfold joined at this
        simp only at this
        omega
      go_wp2
      go_ret
      exact ⟨rfl, rfl⟩
set_option maxHeartbeats 1000000 in
theorem radler_nil (s : Nat) (o : Option Addr) (cap : Nat) (w : World) (hs : s ≤ 4294967295) :
    Calls Try.prog 10 #[.int .u32 (s : Int), .slice o 0 cap] w fun e w' => e = .returned (.int .u32 (adler s [] : Nat)) ∧ w = w' := by
  have hA : (s : Int) / 65536 % 65521 * 65536 + (s : Int) % 65536 % 65521 = (adler s [] : Nat) := by
    unfold adler
    rw [adlerReg_nil]
    show _ = ((s / 65536 % 65521 * 65536 + s % 65536 % 65521 : Nat) : Int)
    omega
  have h2 : adler s [] ≤ 4294967295 := by have := adler_below s []; omega
  generalize adler s [] = A at *
  go_enter Try.func10, Try.ntmps10
  go_wp2
  go_rounds 1
  all_goals go_wp2
  all_goals go_ret
  all_goals exact ⟨rfl, rfl⟩
theorem radler_any (s : Nat) (v : Value) (zs : List Nat) (w : World) (hs : s ≤ 4294967295) (hr : reads w v zs) (h8 : bytes zs) (hl : zs.length ≤ 140737488355328) :
    Calls Try.prog 10 #[.int .u32 (s : Int), v] w fun e w' => e = .returned (.int .u32 (adler s zs : Nat)) ∧ w = w' := by
  rcases hr with ⟨⟨o, cap, rfl, ho⟩, rfl⟩ | ⟨b, off, cap, rfl, hle, hlt, hc⟩
  · exact radler_nil s o cap w hs
  · exact radler_row s b off cap zs.length zs w hs rfl hl h8 hc
theorem shn_next (j : Nat) (c : Nat) (hj : j < 8) : shn (8 - j) c = shn (8 - (j + 1)) (sh c) := by
  rw [show 8 - j = (8 - (j + 1)) + 1 from by omega, shn]
theorem sh_odd {X : Nat} (h : X < 4294967296) (h2 : X % 2 = 1) : bits .xor .u32 ((X : Int) / 2) 3988292384 = (sh X : Nat) := by
  rw [sh_if, if_pos h2]
  have := u32_xor_nat (X / 2) 3988292384 (by omega) (by decide)
  rw [← this, Int.natCast_ediv]
  rfl
set_option maxHeartbeats 1000000 in
theorem rcrc_row (s b off cap len : Nat) (zs : List Nat) (w : World) (hs : s ≤ 4294967295) (hz : zs.length = len) (hbig : len ≤ 140737488355328) (h8 : bytes zs) (hc : ∀ j, j < len → w.cell? ⟨b, off + j, none⟩ = some (.int .u8 (zs.getD j 0 : Nat))) :
    Calls Try.prog 12 #[.int .u32 (s : Int), .slice (some ⟨b, off, none⟩) len cap] w fun e w' => e = .returned (.int .u32 (crc s zs : Nat)) ∧ w = w' := by
  have HZ := Lib.hid hz
  have HC := Lib.hid hc
  have HB := Lib.hid (bytes_get h8)
  have HT : Hid (∀ k, reg (4294967295 - s) (zs.take k) < 4294967296) := fun k => reg_below (by omega) (fun b hb => h8 b (List.mem_of_mem_take hb))
  clear hz hc h8
  have HA : Hid (crc s zs = 4294967295 - reg (4294967295 - s) zs) := rfl
  have h2 : crc s zs ≤ 4294967295 := by have := crc_below s zs; omega
  generalize crc s zs = A at *
  have HN : Hid (reg (4294967295 - s) (zs.take 0) = 4294967295 - s) := by
    show reg (4294967295 - s) (zs.take 0) = 4294967295 - s
    rw [List.take_zero, reg_nil]
  have e0 : 4294967295 - (s : Int) = ((4294967295 - s : Nat) : Int) := by omega
  have b0 : 4294967295 - s ≤ 4294967295 := by omega
  generalize 4294967295 - s = P at *
  go_enter Try.func12, Try.ntmps12
  go_wp2
  go_loop [5, 6] (fun x i => ∃ k : Nat, k ≤ len ∧ x = .int .u32 (reg P (zs.take k) : Nat) ∧ i = .int .i64 k) (fun _ i => len - (intOf i).toNat)
  case atStart => exact ⟨0, Nat.zero_le _, by rw [HN.out], rfl⟩
  case round =>
    obtain ⟨k, hk, rfl, rfl⟩ := hrel
    have hX := HT.out k
    have hb := HB.out k
    have HK : Hid (k < len → w.cell? ⟨b, off + k, none⟩ = some (.int .u8 (zs.getD k 0 : Nat))) := HC.out k
    have HE : Hid (k < len → reg P (zs.take (k + 1)) = crcByte (reg P (zs.take k)) (zs.getD k 0)) := fun h => reg_step P zs k (by rw [HZ.out]; exact h)
    have HF : Hid (k = len → 4294967295 - reg P (zs.take k) = A) := fun h => by rw [h, ← HZ.out, List.take_length, HA.out]
    generalize reg P (zs.take k) = X at *
    generalize zs.getD k 0 = Z at *
    by_cases hlt : k < len
    · have hd : decide ((k : Int) < (len : Int)) = true := decide_eq_true (by omega)
      have hcell := HK.out hlt
      have HE := Lib.hid (HE.out hlt)
      have hx := u32_xor_nat X Z (by omega) (by omega)
      have bx : X ^^^ Z ≤ 4294967295 := by have := xor_below (a := X) (b := Z) (by omega) (by omega); omega
      have HR : Hid (shn (8 - 0) (X ^^^ Z) = crcByte X Z) := rfl
      generalize crcByte X Z = R at *
      generalize X ^^^ Z = Y at *
      go_wp2
      go_loop [5, 7] (fun x i => ∃ j Y : Nat, j ≤ 8 ∧ Y ≤ 4294967295 ∧ Hid (shn (8 - j) Y = R) ∧ x = .int .u32 (Y : Int) ∧ i = .int .i64 j) (fun _ i => 8 - (intOf i).toNat)
      case atStart => exact ⟨0, Y, by omega, by omega, HR, rfl, rfl⟩
      case round =>
        clear hx HR bx
        obtain ⟨j, Y, hj, hY, HY, rfl, rfl⟩ := hrel
        by_cases hj8 : j = 8
        · subst hj8
          have hd8 : decide ((8 : Int) < 8) = false := decide_eq_false (by omega)
          have hy : Y = R := HY.out
          subst hy
          go_wp2
          go_round
          case rel => exact ⟨k + 1, by omega, by rw [HE.out], by go_num⟩
          case measure => simp [intOf]; omega
        · have hdj : decide ((j : Int) < 8) = true := decide_eq_true (by omega)
          have HX := Lib.hid (shn_next j Y (by omega))
          have hs1 := sh_below (c := Y) (by omega)
          have hj7 : j ≤ 7 := by omega
          by_cases h2 : Y % 2 = 1
          · have ht : ((Y : Int) % 2 == 1) = true := by simp; omega
            have hq := sh_odd (X := Y) (by omega) h2
            generalize sh Y = V at *
            go_wp2
            go_round
            case rel => exact ⟨j + 1, V, by omega, by omega, by rw [← HX.out]; exact HY, by first | rfl | rw [hq], by go_num⟩
            case measure => simp [intOf]; omega
          · have ht : ((Y : Int) % 2 == 1) = false := by simp; omega
            have hq : (Y : Int) / 2 = (sh Y : Nat) := by rw [sh_if, if_neg h2]; omega
            generalize sh Y = V at *
            go_wp2
            go_round
            case rel => exact ⟨j + 1, V, by omega, by omega, by rw [← HX.out]; exact HY, by first | rfl | rw [hq], by go_num⟩
            case measure => simp [intOf]; omega
    · have hd : decide ((k : Int) < (len : Int)) = false := decide_eq_false (by omega)
      have he : k = len := by omega
      have ha : 4294967295 - (X : Int) = (A : Int) := by
        have := HF.out he
        omega
      go_wp2
      go_ret
      exact ⟨rfl, rfl⟩
set_option maxHeartbeats 1000000 in
theorem rcrc_nil (s : Nat) (o : Option Addr) (cap : Nat) (w : World) (hs : s ≤ 4294967295) :
    Calls Try.prog 12 #[.int .u32 (s : Int), .slice o 0 cap] w fun e w' => e = .returned (.int .u32 (crc s [] : Nat)) ∧ w = w' := by
  have hA : 4294967295 - (4294967295 - (s : Int)) = (crc s [] : Nat) := by
    rw [crc_nil (by omega)]
    omega
  have h2 : crc s [] ≤ 4294967295 := by have := crc_below s []; omega
  generalize crc s [] = A at *
  go_enter Try.func12, Try.ntmps12
  go_wp2
  go_rounds 1
  all_goals go_wp2
  all_goals go_ret
  all_goals exact ⟨rfl, rfl⟩
theorem rcrc_any (s : Nat) (v : Value) (zs : List Nat) (w : World) (hs : s ≤ 4294967295) (hr : reads w v zs) (h8 : bytes zs) (hl : zs.length ≤ 140737488355328) :
    Calls Try.prog 12 #[.int .u32 (s : Int), v] w fun e w' => e = .returned (.int .u32 (crc s zs : Nat)) ∧ w = w' := by
  rcases hr with ⟨⟨o, cap, rfl, ho⟩, rfl⟩ | ⟨b, off, cap, rfl, hle, hlt, hc⟩
  · exact rcrc_nil s o cap w hs
  · exact rcrc_row s b off cap zs.length zs w hs rfl hl h8 hc
end Go.Proofs.Ytmbbgppmidogbaa.Fx
