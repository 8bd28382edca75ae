/-
  The walk of ChanceUnlike. The conditions are that the numbers are of their kinds.
-/
import Derived.Test.YtaeehpenikmabaaChanceD
namespace Go.Proofs.Ytaeehpenikmabaa.Fx
open Go Go.RowKit
set_option linter.unusedVariables false
theorem last_new_on (x b : Nat) (p s d : Int) (W w : World) (hx : x ≤ 18446744073709551615) (hp : -9223372036854775808 ≤ p ∧ p ≤ 9223372036854775807) (hs : -9223372036854775808 ≤ s ∧ s ≤ 9223372036854775807) (hd : -9223372036854775808 ≤ d ∧ d ≤ 9223372036854775807)
    (hb : Below W.heap.size W w) (c0 : w.cell? ⟨b, 0, none⟩ = some (.int .i64 p)) (c1 : w.cell? ⟨b, 1, none⟩ = some (.int .i64 s)) (c2 : w.cell? ⟨b, 2, none⟩ = some (.int .i64 d)) :
    Calls Try.prog 14 #[.int .u64 (x : Int), .slice (some ⟨b, 0, none⟩) 3 3] w fun e w' => e = .returned (.int .u64 (lastOf x [p, s, d] : Nat)) ∧ Below W.heap.size W w' :=
  (last_new x b p s d w hx hp hs hd c0 c1 c2).mono fun _ _ ⟨he, hw⟩ => ⟨he, hw ▸ hb⟩
set_option maxHeartbeats 8000000 in
theorem unlike_walk (x : Nat) (p s d o : Int) (hx : x ≤ 18446744073709551615) (hp : -9223372036854775808 ≤ p) (kp : p ≤ 9223372036854775807) (hs : -9223372036854775808 ≤ s) (ks : s ≤ 9223372036854775807) (hd : -9223372036854775808 ≤ d) (kd : d ≤ 9223372036854775807) (ho : -9223372036854775808 ≤ o) (ko : o ≤ 9223372036854775807) (W w : World) (hb : Below W.heap.size W w) :
    Calls Try.prog 7 #[.int .u64 (x : Int), .int .i64 p, .int .i64 s, .int .i64 d, .int .i64 o] w fun e w' => e = .returned (.bool true) ∧ Below W.heap.size W w' := by
  have hw := whole_code o
  have bw := whole_below o
  have n1 : whole o ≠ x → lastOf (whole o) [p, s, d] ≠ lastOf x [p, s, d] := fun h k => h (last_seed bw (by omega) k)
  have n2 : o ≠ p → lastOf x [o, s, d] ≠ lastOf x [p, s, d] := fun h k => h (whole_once ho ko hp kp (last_pixel k))
  have n3 : o ≠ s → lastOf x [p, o, d] ≠ lastOf x [p, s, d] := fun h k => h (whole_once ho ko hs ks (last_sample k))
  have n4 : o ≠ d → lastOf x [p, s, o] ≠ lastOf x [p, s, d] := fun h k => h (whole_once ho ko hd kd (last_dim k))
  generalize whole o = O at *
  have b0 := lastOf_below x [p, s, d]
  have b1 := lastOf_below O [p, s, d]
  have b2 := lastOf_below x [o, s, d]
  have b3 := lastOf_below x [p, o, d]
  have b4 := lastOf_below x [p, s, o]
  have H0 := Lib.hid (fun (x : Nat) (hx : x ≤ 18446744073709551615) (b : Nat) (w : World) => last_new_on x b p s d W w hx ⟨hp, kp⟩ ⟨hs, ks⟩ ⟨hd, kd⟩)
  have H2 := Lib.hid (fun (x : Nat) (hx : x ≤ 18446744073709551615) (b : Nat) (w : World) => last_new_on x b o s d W w hx ⟨ho, ko⟩ ⟨hs, ks⟩ ⟨hd, kd⟩)
  have H3 := Lib.hid (fun (x : Nat) (hx : x ≤ 18446744073709551615) (b : Nat) (w : World) => last_new_on x b p o d W w hx ⟨hp, kp⟩ ⟨ho, ko⟩ ⟨hd, kd⟩)
  have H4 := Lib.hid (fun (x : Nat) (hx : x ≤ 18446744073709551615) (b : Nat) (w : World) => last_new_on x b p s o W w hx ⟨hp, kp⟩ ⟨hs, ks⟩ ⟨ho, ko⟩)
  obtain ⟨X0, e0⟩ : ∃ X, lastOf x [p, s, d] = X := ⟨_, rfl⟩
  obtain ⟨X1, e1⟩ : ∃ X, lastOf O [p, s, d] = X := ⟨_, rfl⟩
  obtain ⟨X2, e2⟩ : ∃ X, lastOf x [o, s, d] = X := ⟨_, rfl⟩
  obtain ⟨X3, e3⟩ : ∃ X, lastOf x [p, o, d] = X := ⟨_, rfl⟩
  obtain ⟨X4, e4⟩ : ∃ X, lastOf x [p, s, o] = X := ⟨_, rfl⟩
  rw [e0] at n1 n2 n3 n4 b0
  rw [e1] at n1 b1
  rw [e2] at n2 b2
  rw [e3] at n3 b3
  rw [e4] at n4 b4
  have m1 : ((O : Int) != (x : Int)) = false ∨ ((O : Int) != (x : Int)) = true ∧ ((X1 : Int) == (X0 : Int)) = false := by
    by_cases h : O = x
    · exact .inl (by simp [h])
    · have := n1 h
      exact .inr ⟨by simp; omega, by simp; omega⟩
  have m2 : (o != p) = false ∨ (o != p) = true ∧ ((X2 : Int) == (X0 : Int)) = false := by
    by_cases h : o = p
    · exact .inl (by simp [h])
    · have := n2 h
      exact .inr ⟨by simp; omega, by simp; omega⟩
  have m3 : (o != s) = false ∨ (o != s) = true ∧ ((X3 : Int) == (X0 : Int)) = false := by
    by_cases h : o = s
    · exact .inl (by simp [h])
    · have := n3 h
      exact .inr ⟨by simp; omega, by simp; omega⟩
  have m4 : (o != d) = false ∨ (o != d) = true ∧ ((X4 : Int) == (X0 : Int)) = false := by
    by_cases h : o = d
    · exact .inl (by simp [h])
    · have := n4 h
      exact .inr ⟨by simp; omega, by simp; omega⟩
  clear n1 n2 n3 n4
  rcases m1 with q1 | ⟨q1, r1⟩ <;> rcases m2 with q2 | ⟨q2, r2⟩ <;> rcases m3 with q3 | ⟨q3, r3⟩ <;> rcases m4 with q4 | ⟨q4, r4⟩
  all_goals
    go_enter Try.func7, Try.ntmps7
    go_wp2_with (first | (go_at_call 14; first | (refine (H0.out _ (by omega) _ _ (hb.alloc hb.size _) (by first | (simp; done) | fail) (by first | (simp; done) | fail) (by first | (simp; done) | fail)).mono ?_; clear hb; rintro e w1 ⟨rfl, hb⟩) | (refine (H2.out _ (by omega) _ _ (hb.alloc hb.size _) (by first | (simp; done) | fail) (by first | (simp; done) | fail) (by first | (simp; done) | fail)).mono ?_; clear hb; rintro e w1 ⟨rfl, hb⟩) | (refine (H3.out _ (by omega) _ _ (hb.alloc hb.size _) (by first | (simp; done) | fail) (by first | (simp; done) | fail) (by first | (simp; done) | fail)).mono ?_; clear hb; rintro e w1 ⟨rfl, hb⟩) | (refine (H4.out _ (by omega) _ _ (hb.alloc hb.size _) (by first | (simp; done) | fail) (by first | (simp; done) | fail) (by first | (simp; done) | fail)).mono ?_; clear hb; rintro e w1 ⟨rfl, hb⟩)) | (go_at_call 10; refine (awake_on W _ hb).mono ?_; clear hb; rintro e w1 ⟨rfl, hb⟩))
    go_ret
    exact ⟨rfl, hb⟩
theorem unlike_law (a0 : Int) (a1 : Int) (a2 : Int) (a3 : Int) (a4 : Int) (w0 : (Lit.int .u64 a0).wf = true) (w1 : (Lit.int .i64 a1).wf = true) (w2 : (Lit.int .i64 a2).wf = true) (w3 : (Lit.int .i64 a3).wf = true) (w4 : (Lit.int .i64 a4).wf = true) (w : World) :
    Calls Try.prog 7 #[.int .u64 a0, .int .i64 a1, .int .i64 a2, .int .i64 a3, .int .i64 a4] w fun e w' => e = .returned (.bool true) ∧ Below w.heap.size w w' := by
  obtain ⟨n0, rfl, k0⟩ := wf_nat w0
  obtain ⟨h1, k1⟩ := wf_is w1
  obtain ⟨h2, k2⟩ := wf_is w2
  obtain ⟨h3, k3⟩ := wf_is w3
  obtain ⟨h4, k4⟩ := wf_is w4
  exact unlike_walk n0 a1 a2 a3 a4 k0 h1 k1 h2 k2 h3 k3 h4 k4 w w (Below.refl _ _)
end Go.Proofs.Ytaeehpenikmabaa.Fx
