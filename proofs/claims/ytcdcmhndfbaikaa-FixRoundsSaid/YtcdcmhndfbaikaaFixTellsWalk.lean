/-
  The walk of FixTells: every call of package fix answers what the document's own answer does. The conditions are that the numbers are of their kinds.
-/
import Derived.Test.YtcdcmhndfbaikaaFixAwake
namespace Go.Proofs.Ytcdcmhndfbaikaa.Fx
open Go Go.RowKit
set_option linter.unusedVariables false
theorem wf_is {n : Int} (h : (Lit.int .i64 n).wf = true) : -9223372036854775808 ≤ n ∧ n ≤ 9223372036854775807 := by
  simp [Lit.wf, IntKind.min, IntKind.max, IntKind.bits, IntKind.signed] at h
  omega
set_option maxHeartbeats 2000000 in
theorem tells_walk (a b n : Int) (wa : (Lit.int .i64 a).wf = true) (wb : (Lit.int .i64 b).wf = true) (wn : (Lit.int .i64 n).wf = true) (W : World) :
    Calls Try.prog 4 #[.int .i64 a, .int .i64 b, .int .i64 n] W fun e w' => e = .returned (.bool true) ∧ Below W.heap.size W w' := by
  obtain ⟨ha, ka⟩ := wf_is wa
  obtain ⟨hb, kb⟩ := wf_is wb
  obtain ⟨hn, kn⟩ := wf_is wn
  clear wa wb wn
  have hbl := Below.refl W.heap.size W
  go_enter Try.func4, Try.ntmps4
  go_wp2_with (first | (go_at_call 14; refine (of_any _ (by omega) (by omega) _).mono ?_; rintro e w' ⟨rfl, rfl⟩) | (go_at_call 15; refine (floor_any _ (by omega) (by omega) _).mono ?_; rintro e w' ⟨rfl, rfl⟩) | (go_at_call 24; refine (add_any _ _ (by omega) (by omega) (by omega) (by omega) _).mono ?_; rintro e w' ⟨rfl, rfl⟩) | (go_at_call 12; refine (sub_any _ _ (by omega) (by omega) (by omega) (by omega) _).mono ?_; rintro e w' ⟨rfl, rfl⟩) | (go_at_call 27; refine (neg_any _ (by omega) (by omega) _).mono ?_; rintro e w' ⟨rfl, rfl⟩) | (go_at_call 13; refine (mul_on _ _ (by omega) (by omega) (by omega) (by omega) W _ hbl).mono ?_; clear hbl; rintro e w1 ⟨rfl, hbl⟩) | (go_at_call 10; refine (div_on _ _ (by omega) (by omega) (by omega) (by omega) W _ hbl).mono ?_; clear hbl; rintro e w1 ⟨rfl, hbl⟩) | (go_at_call 11; refine (sqrt_on _ (by omega) (by omega) W _ hbl).mono ?_; clear hbl; rintro e w1 ⟨rfl, hbl⟩) | (go_at_call 17; refine (sin_on _ (by omega) (by omega) W _ hbl).mono ?_; clear hbl; rintro e w1 ⟨rfl, hbl⟩) | (go_at_call 18; refine (cos_on _ (by omega) (by omega) W _ hbl).mono ?_; clear hbl; rintro e w1 ⟨rfl, hbl⟩) | (go_at_call 22; refine (rof_any _ (by omega) (by omega) _).mono ?_; rintro e w' ⟨rfl, rfl⟩) | (go_at_call 23; refine (rfloor_any _ (by omega) (by omega) _).mono ?_; rintro e w' ⟨rfl, rfl⟩) | (go_at_call 25; refine (radd_any _ _ (by omega) (by omega) (by omega) (by omega) _).mono ?_; rintro e w' ⟨rfl, rfl⟩) | (go_at_call 26; refine (rsub_any _ _ (by omega) (by omega) (by omega) (by omega) _).mono ?_; rintro e w' ⟨rfl, rfl⟩) | (go_at_call 28; refine (rneg_any _ (by omega) (by omega) _).mono ?_; rintro e w' ⟨rfl, rfl⟩) | (go_at_call 29; refine (rmul_any _ _ (by omega) (by omega) (by omega) (by omega) _).mono ?_; rintro e w' ⟨rfl, rfl⟩) | (go_at_call 30; refine (rdiv_any _ _ (by omega) (by omega) (by omega) (by omega) _).mono ?_; rintro e w' ⟨rfl, rfl⟩) | (go_at_call 31; refine (rsqrt_any _ (by omega) (by omega) _).mono ?_; rintro e w' ⟨rfl, rfl⟩) | (go_at_call 20; refine (rsin_any _ (by omega) (by omega) _).mono ?_; rintro e w' ⟨rfl, rfl⟩) | (go_at_call 19; refine (rcos_any _ (by omega) (by omega) _).mono ?_; rintro e w' ⟨rfl, rfl⟩) | (go_at_call 21; refine (awake_on W _ hbl).mono ?_; clear hbl; rintro e w1 ⟨rfl, hbl⟩))
  go_ret
  exact ⟨rfl, hbl⟩
end Go.Proofs.Ytcdcmhndfbaikaa.Fx
