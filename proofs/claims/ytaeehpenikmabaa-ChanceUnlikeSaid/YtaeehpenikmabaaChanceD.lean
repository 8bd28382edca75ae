/-
  Draws, those of the document too, and the examples that each statement asks (awake). The conditions are that the numbers are of their kinds.
-/
import Derived.Test.YtaeehpenikmabaaChanceW
namespace Go.Proofs.Ytaeehpenikmabaa.Fx
open Go Go.RowKit
set_option linter.unusedVariables false
theorem draw_four (x : Nat) (p s d : Int) : draw x p s d = mixed [x, whole p, whole s, whole d] / 4294967296 := by
  unfold draw
  rw [last_three, mixed_four]
theorem small_code (M : Nat) (h : M ≤ 18446744073709551615) : (M : Int) / 4294967296 = ((M / 4294967296 : Nat) : Int) := by omega
set_option maxHeartbeats 1000000 in
theorem draw_on (x : Nat) (p s d : Int) (hx : x ≤ 18446744073709551615) (hp : -9223372036854775808 ≤ p) (kp : p ≤ 9223372036854775807) (hs : -9223372036854775808 ≤ s) (ks : s ≤ 9223372036854775807) (hd : -9223372036854775808 ≤ d) (kd : d ≤ 9223372036854775807) (W w : World) (hb : Below W.heap.size W w) :
    Calls Try.prog 8 #[.int .u64 (x : Int), .int .i64 p, .int .i64 s, .int .i64 d] w fun e w' => e = .returned (.int .i64 (draw x p s d : Nat)) ∧ Below W.heap.size W w' := by
  have HD := Lib.hid (draw_four x p s d)
  have h1 := whole_code p
  have b1 := whole_below p
  have h2 := whole_code s
  have b2 := whole_below s
  have h3 := whole_code d
  have b3 := whole_below d
  generalize whole p = A at *
  generalize whole s = B at *
  generalize whole d = C at *
  have hm := mixed_below [x, A, B, C]
  have hq := small_code (mixed [x, A, B, C]) hm
  have bq : mixed [x, A, B, C] / 4294967296 ≤ 4294967295 := by omega
  rw [← HD.out] at hq bq
  have HM : Hid (∃ M, M = mixed [x, A, B, C]) := ⟨_, rfl⟩
  generalize draw x p s d = R at *
  have hM : ∀ w' : World, w'.cell? ⟨w.heap.size, 0 + 0, none⟩ = some (.int .u64 (x : Int)) → w'.cell? ⟨w.heap.size, 0 + 1, none⟩ = some (.int .u64 (A : Int)) → w'.cell? ⟨w.heap.size, 0 + 2, none⟩ = some (.int .u64 (B : Int)) → w'.cell? ⟨w.heap.size, 0 + 3, none⟩ = some (.int .u64 (C : Int)) →
      Calls Try.prog 15 #[.slice (some ⟨w.heap.size, 0, none⟩) 4 4] w' fun e w'' => e = .returned (.int .u64 (mixed [x, A, B, C] : Nat)) ∧ w' = w'' := by
    intro w' c0 c1 c2 c3
    refine mixed_any w.heap.size 0 4 4 [x, A, B, C] w' rfl (by omega) (fun j => ?_) (fun j hj => ?_)
    · match j with
      | 0 => exact hx
      | 1 => show A ≤ _; omega
      | 2 => show B ≤ _; omega
      | 3 => show C ≤ _; omega
      | j + 4 => exact Nat.zero_le _
    · match j, hj with
      | 0, _ => exact c0
      | 1, _ => exact c1
      | 2, _ => exact c2
      | 3, _ => exact c3
  generalize mixed [x, A, B, C] = M at *
  have HC := Lib.hid hM
  clear hM HM
  go_enter Try.func8, Try.ntmps8
  go_wp2_with (go_at_call 15; refine (HC.out _ (by simp) (by simp) (by simp) (by simp)).mono ?_; rintro e w' ⟨rfl, rfl⟩)
  go_ret
  exact ⟨rfl, hb.alloc hb.size _⟩
set_option maxHeartbeats 1000000 in
theorem rdraw_any (x : Nat) (p s d : Int) (hx : x ≤ 18446744073709551615) (hp : -9223372036854775808 ≤ p) (kp : p ≤ 9223372036854775807) (hs : -9223372036854775808 ≤ s) (ks : s ≤ 9223372036854775807) (hd : -9223372036854775808 ≤ d) (kd : d ≤ 9223372036854775807) (w : World) :
    Calls Try.prog 9 #[.int .u64 (x : Int), .int .i64 p, .int .i64 s, .int .i64 d] w fun e w' => e = .returned (.int .i64 (draw x p s d : Nat)) ∧ w = w' := by
  have HD : Hid (draw x p s d = _) := draw_four x p s d
  have h1 := whole_code p
  have b1 := whole_below p
  have h2 := whole_code s
  have b2 := whole_below s
  have h3 := whole_code d
  have b3 := whole_below d
  rw [mixed_four] at HD
  generalize whole p = A at *
  generalize whole s = B at *
  generalize whole d = C at *
  have e0 := seed_code x
  have c0 := next_put 0 x
  have d0 : (0 + x + 11400714819323198485) % 18446744073709551616 ≤ 18446744073709551615 := by omega
  have m0 := next_below 0 x
  generalize (0 + x + 11400714819323198485) % 18446744073709551616 = P0 at *
  rw [c0] at HD m0
  clear c0
  have e1 := put_code (mix P0) A
  have c1 := next_put (mix P0) A
  have d1 : (mix P0 + A + 11400714819323198485) % 18446744073709551616 ≤ 18446744073709551615 := by omega
  have m1 := next_below (mix P0) A
  generalize (mix P0 + A + 11400714819323198485) % 18446744073709551616 = P1 at *
  rw [c1] at HD m1
  clear c1
  have e2 := put_code (mix P1) B
  have c2 := next_put (mix P1) B
  have d2 : (mix P1 + B + 11400714819323198485) % 18446744073709551616 ≤ 18446744073709551615 := by omega
  have m2 := next_below (mix P1) B
  generalize (mix P1 + B + 11400714819323198485) % 18446744073709551616 = P2 at *
  rw [c2] at HD m2
  clear c2
  have e3 := put_code (mix P2) C
  have c3 := next_put (mix P2) C
  have d3 : (mix P2 + C + 11400714819323198485) % 18446744073709551616 ≤ 18446744073709551615 := by omega
  have m3 := next_below (mix P2) C
  generalize (mix P2 + C + 11400714819323198485) % 18446744073709551616 = P3 at *
  rw [c3] at HD m3
  clear c3
  have hq := small_code (mix P3) (by omega)
  have bq : mix P3 / 4294967296 ≤ 4294967295 := by omega
  rw [← HD.out] at hq bq
  generalize draw x p s d = R at *
  go_enter Try.func9, Try.ntmps9
  go_wp2_with (go_at_call 12; refine (rmix_any _ (by omega) _).mono ?_; rintro e w' ⟨rfl, rfl⟩)
  go_ret
  exact ⟨rfl, rfl⟩
theorem mix_lit (n : Int) (hn : n = 0 ∨ n = 1) (w : World) : Calls Try.prog 11 #[.int .u64 n] w fun e w' => e = .returned (.int .u64 (if n = 0 then 0 else 6238072747940578789)) ∧ w = w' := by
  rcases hn with rfl | rfl
  · have h := mix_any 0 (by omega) w
    rw [mix_examples.1] at h
    exact h
  · have h := mix_any 1 (by omega) w
    rw [mix_examples.2] at h
    exact h
theorem draw_one (W w : World) (hb : Below W.heap.size W w) : Calls Try.prog 8 #[.int .u64 1, .int .i64 2, .int .i64 3, .int .i64 4] w fun e w' => e = .returned (.int .i64 862728789) ∧ Below W.heap.size W w' := by
  have h := draw_on 1 2 3 4 (by omega) (by omega) (by omega) (by omega) (by omega) (by omega) (by omega) W w hb
  rw [draw_example] at h
  exact h
theorem rdraw_one (w : World) : Calls Try.prog 9 #[.int .u64 1, .int .i64 2, .int .i64 3, .int .i64 4] w fun e w' => e = .returned (.int .i64 862728789) ∧ w = w' := by
  have h := rdraw_any 1 2 3 4 (by omega) (by omega) (by omega) (by omega) (by omega) (by omega) (by omega) w
  rw [draw_example] at h
  exact h
theorem awake_on (W w : World) (hb : Below W.heap.size W w) :
    Calls Try.prog 10 #[] w fun e w' => e = .returned (.bool true) ∧ Below W.heap.size W w' := by
  go_enter Try.func10, Try.ntmps10
  go_wp2_with (first | (go_at_call 11; refine (mix_lit _ (by omega) _).mono ?_; rintro e w' ⟨rfl, rfl⟩) | (go_at_call 8; refine (draw_one W _ hb).mono ?_; clear hb; rintro e w1 ⟨rfl, hb⟩) | (go_at_call 9; refine (rdraw_one _).mono ?_; rintro e w' ⟨rfl, rfl⟩))
  go_ret
  exact ⟨rfl, hb⟩
/-- last, of three numbers that lie in a block. -/
theorem last_new (x b : Nat) (p s d : Int) (w : World) (hx : x ≤ 18446744073709551615) (hp : -9223372036854775808 ≤ p ∧ p ≤ 9223372036854775807) (hs : -9223372036854775808 ≤ s ∧ s ≤ 9223372036854775807) (hd : -9223372036854775808 ≤ d ∧ d ≤ 9223372036854775807)
    (c0 : w.cell? ⟨b, 0, none⟩ = some (.int .i64 p)) (c1 : w.cell? ⟨b, 1, none⟩ = some (.int .i64 s)) (c2 : w.cell? ⟨b, 2, none⟩ = some (.int .i64 d)) :
    Calls Try.prog 14 #[.int .u64 (x : Int), .slice (some ⟨b, 0, none⟩) 3 3] w fun e w' => e = .returned (.int .u64 (lastOf x [p, s, d] : Nat)) ∧ w = w' := by
  refine last_any x b 0 3 3 [p, s, d] w hx rfl (by omega) (fun j => ?_) (fun j hj => ?_)
  · match j with
    | 0 => exact hp
    | 1 => exact hs
    | 2 => exact hd
    | j + 3 => exact ⟨by show (-9223372036854775808 : Int) ≤ 0; omega, by show (0 : Int) ≤ 9223372036854775807; omega⟩
  · match j, hj with
    | 0, _ => exact c0
    | 1, _ => exact c1
    | 2, _ => exact c2
theorem wf_is {n : Int} (h : (Lit.int .i64 n).wf = true) : -9223372036854775808 ≤ n ∧ n ≤ 9223372036854775807 := by
  simp [Lit.wf, IntKind.min, IntKind.max, IntKind.bits, IntKind.signed] at h
  omega
theorem wf_nat {n : Int} (h : (Lit.int .u64 n).wf = true) : ∃ m : Nat, n = (m : Int) ∧ m ≤ 18446744073709551615 := by
  simp [Lit.wf, IntKind.min, IntKind.max, IntKind.bits, IntKind.signed] at h
  exact ⟨n.toNat, by omega, by omega⟩
end Go.Proofs.Ytaeehpenikmabaa.Fx
