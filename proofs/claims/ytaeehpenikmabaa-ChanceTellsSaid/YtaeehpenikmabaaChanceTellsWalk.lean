/-
  The walk of ChanceTells. The conditions are that the numbers are of their kinds.
-/
import Derived.Test.YtaeehpenikmabaaChanceD
namespace Go.Proofs.Ytaeehpenikmabaa.Fx
open Go Go.RowKit
set_option linter.unusedVariables false
set_option maxHeartbeats 1000000 in
theorem tells_walk (x : Nat) (p s d : Int) (hx : x ≤ 18446744073709551615) (hp : -9223372036854775808 ≤ p) (kp : p ≤ 9223372036854775807) (hs : -9223372036854775808 ≤ s) (ks : s ≤ 9223372036854775807) (hd : -9223372036854775808 ≤ d) (kd : d ≤ 9223372036854775807) (W w : World) (hb : Below W.heap.size W w) :
    Calls Try.prog 4 #[.int .u64 (x : Int), .int .i64 p, .int .i64 s, .int .i64 d] w fun e w' => e = .returned (.bool true) ∧ Below W.heap.size W w' := by
  go_enter Try.func4, Try.ntmps4
  go_wp2_with (first | (go_at_call 11; refine (mix_any _ (by omega) _).mono ?_; rintro e w' ⟨rfl, rfl⟩) | (go_at_call 12; refine (rmix_any _ (by omega) _).mono ?_; rintro e w' ⟨rfl, rfl⟩) | (go_at_call 8; refine (draw_on _ _ _ _ (by omega) (by omega) (by omega) (by omega) (by omega) (by omega) (by omega) W _ hb).mono ?_; clear hb; rintro e w1 ⟨rfl, hb⟩) | (go_at_call 9; refine (rdraw_any _ _ _ _ (by omega) (by omega) (by omega) (by omega) (by omega) (by omega) (by omega) _).mono ?_; rintro e w' ⟨rfl, rfl⟩) | (go_at_call 10; refine (awake_on W _ hb).mono ?_; clear hb; rintro e w1 ⟨rfl, hb⟩))
  go_ret
  exact ⟨rfl, hb⟩
theorem tells_law (a0 : Int) (a1 : Int) (a2 : Int) (a3 : Int) (w0 : (Lit.int .u64 a0).wf = true) (w1 : (Lit.int .i64 a1).wf = true) (w2 : (Lit.int .i64 a2).wf = true) (w3 : (Lit.int .i64 a3).wf = true) (w : World) :
    Calls Try.prog 4 #[.int .u64 a0, .int .i64 a1, .int .i64 a2, .int .i64 a3] w fun e w' => e = .returned (.bool true) ∧ Below w.heap.size w w' := by
  obtain ⟨n0, rfl, k0⟩ := wf_nat w0
  obtain ⟨h1, k1⟩ := wf_is w1
  obtain ⟨h2, k2⟩ := wf_is w2
  obtain ⟨h3, k3⟩ := wf_is w3
  exact tells_walk n0 a1 a2 a3 k0 h1 k1 h2 k2 h3 k3 w w (Below.refl _ _)
end Go.Proofs.Ytaeehpenikmabaa.Fx
