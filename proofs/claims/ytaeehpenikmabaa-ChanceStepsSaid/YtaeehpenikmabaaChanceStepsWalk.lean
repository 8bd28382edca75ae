/-
  The walk of ChanceSteps. The conditions are that the numbers are of their kinds.
-/
import Derived.Test.YtaeehpenikmabaaChanceD
namespace Go.Proofs.Ytaeehpenikmabaa.Fx
open Go Go.RowKit
set_option linter.unusedVariables false
set_option maxHeartbeats 1000000 in
theorem steps_walk (x : Nat) (p s d : Int) (hx : x ≤ 18446744073709551615) (hp : -9223372036854775808 ≤ p) (kp : p ≤ 9223372036854775807) (hs : -9223372036854775808 ≤ s) (ks : s ≤ 9223372036854775807) (hd : -9223372036854775808 ≤ d) (kd : d ≤ 9223372036854775807) (W w : World) (hb : Below W.heap.size W w) :
    Calls Try.prog 6 #[.int .u64 (x : Int), .int .i64 p, .int .i64 s, .int .i64 d] w fun e w' => e = .returned (.bool true) ∧ Below W.heap.size W w' := by
  have hl := lastOf_below x [p, s, d]
  have hq := small_code (lastOf x [p, s, d]) (by omega)
  have hr : lastOf x [p, s, d] / 4294967296 = draw x p s d := rfl
  have br : lastOf x [p, s, d] / 4294967296 ≤ 4294967295 := by omega
  rw [hr] at hq br
  have hD : ∀ w : World, Below W.heap.size W w → Calls Try.prog 8 #[.int .u64 (x : Int), .int .i64 p, .int .i64 s, .int .i64 d] w fun e w' => e = .returned (.int .i64 (draw x p s d : Nat)) ∧ Below W.heap.size W w' :=
    fun w hb => draw_on x p s d hx hp kp hs ks hd kd W w hb
  have hL := fun (b : Nat) (w : World) => last_new x b p s d w hx ⟨hp, kp⟩ ⟨hs, ks⟩ ⟨hd, kd⟩
  clear hr
  generalize draw x p s d = D at *
  generalize lastOf x [p, s, d] = L at *
  have HD := Lib.hid hD
  have HL := Lib.hid hL
  clear hD hL
  go_enter Try.func6, Try.ntmps6
  go_wp2_with (first | (go_at_call 14; refine (HL.out _ _ (by simp) (by simp) (by simp)).mono ?_; rintro e w' ⟨rfl, rfl⟩; replace hb := hb.alloc hb.size (.cells #[.int .i64 p, .int .i64 s, .int .i64 d] 3)) | (go_at_call 8; refine (HD.out _ hb).mono ?_; clear hb; rintro e w1 ⟨rfl, hb⟩) | (go_at_call 10; refine (awake_on W _ hb).mono ?_; clear hb; rintro e w1 ⟨rfl, hb⟩))
  go_ret
  exact ⟨rfl, hb⟩
theorem steps_law (a0 : Int) (a1 : Int) (a2 : Int) (a3 : Int) (w0 : (Lit.int .u64 a0).wf = true) (w1 : (Lit.int .i64 a1).wf = true) (w2 : (Lit.int .i64 a2).wf = true) (w3 : (Lit.int .i64 a3).wf = true) (w : World) :
    Calls Try.prog 6 #[.int .u64 a0, .int .i64 a1, .int .i64 a2, .int .i64 a3] w fun e w' => e = .returned (.bool true) ∧ Below w.heap.size w w' := by
  obtain ⟨n0, rfl, k0⟩ := wf_nat w0
  obtain ⟨h1, k1⟩ := wf_is w1
  obtain ⟨h2, k2⟩ := wf_is w2
  obtain ⟨h3, k3⟩ := wf_is w3
  exact steps_walk n0 a1 a2 a3 k0 h1 k1 h2 k2 h3 k3 w w (Below.refl _ _)
end Go.Proofs.Ytaeehpenikmabaa.Fx
