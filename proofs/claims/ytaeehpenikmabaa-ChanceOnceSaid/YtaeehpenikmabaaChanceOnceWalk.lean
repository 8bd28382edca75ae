/-
  The walk of ChanceOnce. The conditions are that the numbers are of their kinds.
-/
import Derived.Test.YtaeehpenikmabaaChanceD
namespace Go.Proofs.Ytaeehpenikmabaa.Fx
open Go Go.RowKit
set_option linter.unusedVariables false
set_option maxHeartbeats 1000000 in
theorem once_walk (x seed : Nat) (p s d : Int) (kx : x ≤ 18446744073709551615) (hx : seed ≤ 18446744073709551615) (hp : -9223372036854775808 ≤ p) (kp : p ≤ 9223372036854775807) (hs : -9223372036854775808 ≤ s) (ks : s ≤ 9223372036854775807) (hd : -9223372036854775808 ≤ d) (kd : d ≤ 9223372036854775807) (W w : World) (hb : Below W.heap.size W w) :
    Calls Try.prog 5 #[.int .u64 (x : Int), .int .u64 (seed : Int), .int .i64 p, .int .i64 s, .int .i64 d] w fun e w' => e = .returned (.bool true) ∧ Below W.heap.size W w' := by
  have b1 := mix_below x
  have b2 := unmix_below x
  have e1 := unmix_mix (x := x) (by omega)
  have e2 := mix_unmix (x := x) (by omega)
  have b3 := draw_below seed p s d
  have hD : ∀ w : World, Below W.heap.size W w → Calls Try.prog 8 #[.int .u64 (seed : Int), .int .i64 p, .int .i64 s, .int .i64 d] w fun e w' => e = .returned (.int .i64 (draw seed p s d : Nat)) ∧ Below W.heap.size W w' :=
    fun w hb => draw_on seed p s d hx hp kp hs ks hd kd W w hb
  generalize draw seed p s d = D at *
  obtain ⟨Y, eY⟩ : ∃ Y, mix x = Y := ⟨_, rfl⟩
  obtain ⟨Z, eZ⟩ : ∃ Z, unmix x = Z := ⟨_, rfl⟩
  rw [eY] at b1 e1
  rw [eZ] at b2 e2
  have t1 : decide ((0 : Int) ≤ (D : Int)) = true := decide_eq_true (by omega)
  have t2 : decide ((D : Int) < 4294967296) = true := decide_eq_true (by omega)
  have t3 : ((D : Int) == (D : Int)) = true := by simp
  have t4 : ((x : Int) == (x : Int)) = true := by simp
  have HD := Lib.hid hD
  clear hD
  go_enter Try.func5, Try.ntmps5
  go_wp2_with (first | (go_at_call 11; refine (mix_any _ (by omega) _).mono ?_; rintro e w' ⟨rfl, rfl⟩) | (go_at_call 13; refine (unmix_any _ (by omega) _).mono ?_; rintro e w' ⟨rfl, rfl⟩) | (go_at_call 8; refine (HD.out _ hb).mono ?_; clear hb; rintro e w1 ⟨rfl, hb⟩) | (go_at_call 10; refine (awake_on W _ hb).mono ?_; clear hb; rintro e w1 ⟨rfl, hb⟩))
  go_ret
  exact ⟨rfl, hb⟩
theorem once_law (a0 : Int) (a1 : Int) (a2 : Int) (a3 : Int) (a4 : Int) (w0 : (Lit.int .u64 a0).wf = true) (w1 : (Lit.int .u64 a1).wf = true) (w2 : (Lit.int .i64 a2).wf = true) (w3 : (Lit.int .i64 a3).wf = true) (w4 : (Lit.int .i64 a4).wf = true) (w : World) :
    Calls Try.prog 5 #[.int .u64 a0, .int .u64 a1, .int .i64 a2, .int .i64 a3, .int .i64 a4] w fun e w' => e = .returned (.bool true) ∧ Below w.heap.size w w' := by
  obtain ⟨n0, rfl, k0⟩ := wf_nat w0
  obtain ⟨n1, rfl, k1⟩ := wf_nat w1
  obtain ⟨h2, k2⟩ := wf_is w2
  obtain ⟨h3, k3⟩ := wf_is w3
  obtain ⟨h4, k4⟩ := wf_is w4
  exact once_walk n0 n1 a2 a3 a4 k0 k1 h2 k2 h3 k3 h4 k4 w w (Below.refl _ _)
end Go.Proofs.Ytaeehpenikmabaa.Fx
