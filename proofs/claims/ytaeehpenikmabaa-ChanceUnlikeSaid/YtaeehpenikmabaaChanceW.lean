/-
  The calls of package chance and the document's own answers, each as a function on plain numbers. The conditions are that the numbers are of their kinds.
-/
import Derived.WalkKit
import Derived.Laws.Bits64
import Derived.Lib.Hide
import Derived.Test.YtaeehpenikmabaaRows
import Derived.Test.YtaeehpenikmabaaChanceP
namespace Go.Proofs.Ytaeehpenikmabaa.Fx
open Go Go.RowKit
set_option linter.unusedVariables false
theorem ret_u64 {a b : Int} (h : a = b) : Ending.returned (.int .u64 a) = Ending.returned (.int .u64 b) := by rw [h]
theorem ret_i64 {a b : Int} (h : a = b) : Ending.returned (.int .i64 a) = Ending.returned (.int .i64 b) := by rw [h]
theorem step_code (x : Nat) (hx : x ≤ 18446744073709551615) :
    IntKind.u64.wrap (bits .xor .u64 (x : Int) ((x : Int) / 1073741824) * 13787848793156543929) = ((mixA x : Nat) : Int)
    ∧ IntKind.u64.wrap (bits .xor .u64 (x : Int) ((x : Int) / 134217728) * 10723151780598845931) = ((mixB x : Nat) : Int)
    ∧ bits .xor .u64 (x : Int) ((x : Int) / 2147483648) = ((mixC x : Nat) : Int) := by
  have h : x < 18446744073709551616 := by omega
  have h1 := mixStep_u64 x 1073741824 13787848793156543929 h
  have h2 := mixStep_u64 x 134217728 10723151780598845931 h
  have h3 := xorShift_u64 x 2147483648 h
  unfold mixA mixB mixC
  exact ⟨h1, h2, h3⟩
theorem put_code (x n : Nat) : IntKind.u64.wrap (IntKind.u64.wrap ((x : Int) + (n : Int)) + 11400714819323198485) = (((x + n + 11400714819323198485) % 18446744073709551616 : Nat) : Int) := by
  rw [IntKind.wrap_u64, IntKind.wrap_u64]
  omega
theorem seed_code (n : Nat) : IntKind.u64.wrap ((n : Int) + 11400714819323198485) = (((0 + n + 11400714819323198485) % 18446744073709551616 : Nat) : Int) := by
  rw [IntKind.wrap_u64]
  omega
theorem whole_code (n : Int) : IntKind.u64.wrap n = ((whole n : Nat) : Int) := by
  rw [IntKind.wrap_u64]
  unfold whole
  omega
theorem mix_any (x : Nat) (hx : x ≤ 18446744073709551615) (w : World) :
    Calls Try.prog 11 #[.int .u64 (x : Int)] w fun e w' => e = .returned (.int .u64 (mix x : Nat)) ∧ w = w' := by
  have h1 := (step_code x hx).1
  have b1 := mixA_below x
  have h2 := (step_code (mixA x) (by omega)).2.1
  have b2 := mixB_below (mixA x)
  have h3 := (step_code (mixB (mixA x)) (by omega)).2.2
  have hm : mixC (mixB (mixA x)) = mix x := rfl
  rw [hm] at h3
  generalize mixB (mixA x) = Y at *
  generalize mixA x = X at *
  generalize mix x = Z at *
  clear hm
  go_enter Try.func11, Try.ntmps11
  go_wp2
  go_ret
  exact ⟨rfl, rfl⟩
theorem rmix_any (x : Nat) (hx : x ≤ 18446744073709551615) (w : World) :
    Calls Try.prog 12 #[.int .u64 (x : Int)] w fun e w' => e = .returned (.int .u64 (mix x : Nat)) ∧ w = w' := by
  have h1 := (step_code x hx).1
  have b1 := mixA_below x
  have h2 := (step_code (mixA x) (by omega)).2.1
  have b2 := mixB_below (mixA x)
  have h3 := (step_code (mixB (mixA x)) (by omega)).2.2
  have hm : mixC (mixB (mixA x)) = mix x := rfl
  rw [hm] at h3
  generalize mixB (mixA x) = Y at *
  generalize mixA x = X at *
  generalize mix x = Z at *
  clear hm
  go_enter Try.func12, Try.ntmps12
  go_wp2
  go_ret
  exact ⟨rfl, rfl⟩
theorem take_step (zs : List Nat) (k : Nat) (hk : k < zs.length) : mixed (zs.take (k + 1)) = next (mixed (zs.take k)) (zs.getD k 0) := by
  unfold mixed
  rw [List.take_add_one, List.foldl_append, List.getElem?_eq_getElem hk, Option.toList_some, List.foldl_cons, List.foldl_nil]
  simp only [List.getD, List.getElem?_eq_getElem hk, Option.getD_some]
theorem mixed_below (l : List Nat) : mixed l ≤ 18446744073709551615 := by
  have h : ∀ (l : List Nat) (x : Nat), x < 18446744073709551616 → l.foldl next x < 18446744073709551616 := by
    intro l
    induction l with
    | nil => intro x hx; exact hx
    | cons n l ih => intro x hx; rw [List.foldl_cons]; exact ih _ (next_below _ _)
  have := h l 0 (by decide)
  unfold mixed
  omega
theorem next_put (x n : Nat) : next x n = mix ((x + n + 11400714819323198485) % 18446744073709551616) := rfl
theorem mixed_any (b off len cap : Nat) (zs : List Nat) (w : World) (hz : zs.length = len) (hbig : len ≤ 9223372036854775807) (hs : ∀ j, zs.getD j 0 ≤ 18446744073709551615) (hc : ∀ j, j < len → w.cell? ⟨b, off + j, none⟩ = some (.int .u64 (zs.getD j 0 : Nat))) :
    Calls Try.prog 15 #[.slice (some ⟨b, off, none⟩) len cap] w fun e w' => e = .returned (.int .u64 (mixed zs : Nat)) ∧ w = w' := by
  have HZ := Lib.hid hz
  clear hz
  go_enter Try.func15, Try.ntmps15
  go_wp2
  go_loop [3, 8] (fun t i => ∃ k : Nat, k ≤ len ∧ i = .int .i64 k ∧ t = .int .u64 (mixed (zs.take k) : Nat)) (fun _ i => len - (intOf i).toNat)
  case atStart => exact ⟨0, Nat.zero_le _, rfl, rfl⟩
  case round =>
    obtain ⟨k, hk, rfl, rfl⟩ := hrel
    have hcell : k < len → w.cell? ⟨b, off + k, none⟩ = some (.int .u64 (zs.getD k 0 : Nat)) := fun _ => hc k (by omega)
    have hn := hs k
    have hx := mixed_below (zs.take k)
    have hstep : k < len → mixed (zs.take (k + 1)) = next (mixed (zs.take k)) (zs.getD k 0) := fun h => take_step zs k (by rw [HZ.out]; exact h)
    have hput := put_code (mixed (zs.take k)) (zs.getD k 0)
    have hp : (mixed (zs.take k) + zs.getD k 0 + 11400714819323198485) % 18446744073709551616 ≤ 18446744073709551615 := by omega
    have hmix := next_put (mixed (zs.take k)) (zs.getD k 0)
    generalize (mixed (zs.take k) + zs.getD k 0 + 11400714819323198485) % 18446744073709551616 = P at *
    have hend : k = len → mixed (zs.take k) = mixed zs := fun h => by rw [h, ← HZ.out, List.take_length]
    generalize mixed (zs.take k) = X at *
    generalize zs.getD k 0 = Z at *
    have hstep := Lib.hid hstep
    have hend := Lib.hid hend
    have hmix := Lib.hid hmix
    clear hc hs
    by_cases hlt : k < len
    · have hd : decide ((k : Int) < (len : Int)) = true := decide_eq_true (by omega)
      have hcell := hcell hlt
      have hstep := Lib.hid (hstep.out hlt)
      go_wp2_with (go_at_call 11; refine (mix_any _ (by omega) _).mono ?_; rintro e w' ⟨rfl, rfl⟩)
      go_round
      case rel => exact ⟨k + 1, by omega, by go_num, by rw [hstep.out, hmix.out]⟩
      case measure => simp [intOf]; omega
    · have hd : decide ((k : Int) < (len : Int)) = false := decide_eq_false (by omega)
      have he : k = len := by omega
      go_wp2
      go_ret
      exact ⟨rfl, rfl⟩
theorem undo_code (x : Nat) (hx : x ≤ 18446744073709551615) :
    bits .xor .u64 (bits .xor .u64 (x : Int) ((x : Int) / 2147483648)) ((x : Int) / 4611686018427387904) = ((unC x : Nat) : Int)
    ∧ bits .xor .u64 (bits .xor .u64 (x : Int) ((x : Int) / 134217728)) ((x : Int) / 18014398509481984) = ((unB x : Nat) : Int)
    ∧ bits .xor .u64 (bits .xor .u64 (x : Int) ((x : Int) / 1073741824)) ((x : Int) / 1152921504606846976) = ((unA x : Nat) : Int)
    ∧ IntKind.u64.wrap ((x : Int) * 3573116690164977347) = ((unM x : Nat) : Int) ∧ IntKind.u64.wrap ((x : Int) * 10871156337175269513) = ((unN x : Nat) : Int) := by
  have h : x < 18446744073709551616 := by omega
  have hh : ∀ s t : Nat, bits .xor .u64 (bits .xor .u64 (x : Int) ((x : Int) / (s : Int))) ((x : Int) / (t : Int)) = ((x ^^^ x / s ^^^ x / t : Nat) : Int) := by
    intro s t
    rw [xorShift_u64 x s h, ← Int.natCast_ediv]
    exact bits_xor_u64_nat _ _ (xor_below h (div_below _ h)) (div_below _ h)
  unfold unA unB unC unM unN
  refine ⟨hh 2147483648 4611686018427387904, hh 134217728 18014398509481984, hh 1073741824 1152921504606846976, ?_, ?_⟩
  · rw [IntKind.wrap_u64]
    omega
  · rw [IntKind.wrap_u64]
    omega
theorem unmix_any (x : Nat) (hx : x ≤ 18446744073709551615) (w : World) :
    Calls Try.prog 13 #[.int .u64 (x : Int)] w fun e w' => e = .returned (.int .u64 (unmix x : Nat)) ∧ w = w' := by
  have h1 := (undo_code x hx).1
  have b1 := unC_below (x := x) (by omega)
  have h2 := (undo_code (unC x) (by omega)).2.2.2.1
  have b2 := unM_below (unC x)
  have h3 := (undo_code (unM (unC x)) (by omega)).2.1
  have b3 := unB_below (unM_below (unC x))
  have h4 := (undo_code (unB (unM (unC x))) (by omega)).2.2.2.2
  have b4 := unN_below (unB (unM (unC x)))
  have h5 := (undo_code (unN (unB (unM (unC x)))) (by omega)).2.2.1
  have hm : unA (unN (unB (unM (unC x)))) = unmix x := rfl
  rw [hm] at h5
  generalize unN (unB (unM (unC x))) = X4 at *
  generalize unB (unM (unC x)) = X3 at *
  generalize unM (unC x) = X2 at *
  generalize unC x = X1 at *
  generalize unmix x = Z at *
  clear hm
  go_enter Try.func13, Try.ntmps13
  go_wp2
  go_ret
  exact ⟨rfl, rfl⟩
theorem last_step (x : Nat) (zs : List Int) (k : Nat) (hk : k < zs.length) : lastOf x (zs.take (k + 1)) = next (lastOf x (zs.take k)) (whole (zs.getD k 0)) := by
  unfold lastOf
  rw [List.take_add_one, List.foldl_append, List.getElem?_eq_getElem hk, Option.toList_some, List.foldl_cons, List.foldl_nil]
  simp only [List.getD, List.getElem?_eq_getElem hk, Option.getD_some]
theorem last_any (x b off len cap : Nat) (zs : List Int) (w : World) (hx : x ≤ 18446744073709551615) (hz : zs.length = len) (hbig : len ≤ 9223372036854775807) (hs : ∀ j, -9223372036854775808 ≤ zs.getD j 0 ∧ zs.getD j 0 ≤ 9223372036854775807) (hc : ∀ j, j < len → w.cell? ⟨b, off + j, none⟩ = some (.int .i64 (zs.getD j 0))) :
    Calls Try.prog 14 #[.int .u64 (x : Int), .slice (some ⟨b, off, none⟩) len cap] w fun e w' => e = .returned (.int .u64 (lastOf x zs : Nat)) ∧ w = w' := by
  have HZ := Lib.hid hz
  clear hz
  have hseed := seed_code x
  have hp : (0 + x + 11400714819323198485) % 18446744073709551616 ≤ 18446744073709551615 := by omega
  have hfirst : mix ((0 + x + 11400714819323198485) % 18446744073709551616) = lastOf x (zs.take 0) := by
    unfold lastOf
    rw [List.take_zero, List.foldl_nil, next_put]
  generalize (0 + x + 11400714819323198485) % 18446744073709551616 = P0 at *
  have HF := Lib.hid hfirst
  clear hfirst
  have HC := Lib.hid hc
  clear hc
  go_enter Try.func14, Try.ntmps14
  go_wp2_with (go_at_call 11; refine (mix_any _ (by omega) _).mono ?_; rintro e w' ⟨rfl, rfl⟩)
  go_loop [5, 13] (fun t i => ∃ k : Nat, k ≤ len ∧ i = .int .i64 k ∧ t = .int .u64 (lastOf x (zs.take k) : Nat)) (fun _ i => len - (intOf i).toNat)
  case atStart => exact ⟨0, Nat.zero_le _, rfl, by rw [HF.out]⟩
  case round =>
    obtain ⟨k, hk, rfl, rfl⟩ := hrel
    have hn := hs k
    have HE : Hid (k = len → lastOf x (zs.take k) = lastOf x zs) := fun h => by rw [h, ← HZ.out, List.take_length]
    have HS : Hid (k < len → lastOf x (zs.take (k + 1)) = next (lastOf x (zs.take k)) (whole (zs.getD k 0))) := fun h => last_step x zs k (by rw [HZ.out]; exact h)
    have hX := lastOf_below x (zs.take k)
    have hw := whole_code (zs.getD k 0)
    have bw := whole_below (zs.getD k 0)
    have hput := put_code (lastOf x (zs.take k)) (whole (zs.getD k 0))
    have hP : (lastOf x (zs.take k) + whole (zs.getD k 0) + 11400714819323198485) % 18446744073709551616 ≤ 18446744073709551615 := by omega
    have HM := Lib.hid (next_put (lastOf x (zs.take k)) (whole (zs.getD k 0)))
    have HK : Hid (k < len → w.cell? ⟨b, off + k, none⟩ = some (.int .i64 (zs.getD k 0))) := HC.out k
    generalize (lastOf x (zs.take k) + whole (zs.getD k 0) + 11400714819323198485) % 18446744073709551616 = P at *
    generalize lastOf x (zs.take k) = X at *
    generalize whole (zs.getD k 0) = Y at *
    generalize zs.getD k 0 = Z at *
    clear hs
    by_cases hlt : k < len
    · have hd : decide ((k : Int) < (len : Int)) = true := decide_eq_true (by omega)
      have hcell := HK.out hlt
      have HS := Lib.hid (HS.out hlt)
      go_wp2_with (go_at_call 11; refine (mix_any _ (by omega) _).mono ?_; rintro e w' ⟨rfl, rfl⟩)
      go_round
      case rel => exact ⟨k + 1, by omega, by go_num, by rw [HS.out, HM.out]⟩
      case measure => simp [intOf]; omega
    · have hd : decide ((k : Int) < (len : Int)) = false := decide_eq_false (by omega)
      have he : k = len := by omega
      go_wp2
      go_ret
      rw [HE.out he]
      exact ⟨rfl, rfl⟩
end Go.Proofs.Ytaeehpenikmabaa.Fx
