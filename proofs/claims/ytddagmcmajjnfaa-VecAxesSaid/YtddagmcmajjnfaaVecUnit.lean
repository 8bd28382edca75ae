/-
  Unit of package vec. The condition: the numbers are of 64 bits.
-/
import Derived.Test.YtddagmcmajjnfaaVecDot
import Derived.Test.YtddagmcmajjnfaaVecEachU
namespace Go.Proofs.Ytddagmcmajjnfaa.Fx
open Go Go.RowKit
set_option linter.unusedVariables false
theorem vunit_none (ax ay az : Int) (hax : isI ax) (hay : isI ay) (haz : isI az) (h0 : len ax ay az = 0) (w : World) :
    Calls Try.prog 13 #[.agg #[.int .i64 ax, .int .i64 ay, .int .i64 az]] w fun e w' => e = .returned (.agg #[.int .i64 0, .int .i64 0, .int .i64 0]) ∧ Below w.heap.size w w' := by
  go_enter Try.func13, Try.ntmps13
  go_wp2_with (go_at_call 11; refine (vlen _ _ _ (by first | assumption | exact mul_is _ _ | exact add_is _ _ | exact sub_is _ _ | exact neg_is _ | exact div_is _ _ | exact dot_is _ _ _ _ _ _ | exact len_is _ _ _ | exact side_is _ _ _ _) (by first | assumption | exact mul_is _ _ | exact add_is _ _ | exact sub_is _ _ | exact neg_is _ | exact div_is _ _ | exact dot_is _ _ _ _ _ _ | exact len_is _ _ _ | exact side_is _ _ _ _) (by first | assumption | exact mul_is _ _ | exact add_is _ _ | exact sub_is _ _ | exact neg_is _ | exact div_is _ _ | exact dot_is _ _ _ _ _ _ | exact len_is _ _ _ | exact side_is _ _ _ _) _).mono ?_; rintro e w1 ⟨rfl, hb⟩; rw [h0]; clear h0; have hS := one_keep (one_start _ _ _) hb; have HS := Lib.hid hS; obtain ⟨c0, c1, c2, r0, r1, r2, f0, f1, f2, hw, hs⟩ := hS)
  obtain ⟨q0, q1, q2, hB⟩ := one_end (v0 := .int .i64 0) (v1 := .int .i64 0) (v2 := .int .i64 0) HS.out
  exact bodyPost_ret (by simp [results, Try.results13, go_sem, q0, q1, q2, hs]) rfl ⟨rfl, hB.alloc (by simp; omega) _⟩
set_option maxHeartbeats 1000000 in
theorem vunit_some (ax ay az n : Int) (hax : isI ax) (hay : isI ay) (haz : isI az) (hn : isI n) (hne : (n == 0) = false) (h0 : len ax ay az = n) (w : World) :
    Calls Try.prog 13 #[.agg #[.int .i64 ax, .int .i64 ay, .int .i64 az]] w fun e w' => e = .returned (.agg #[.int .i64 (div ax n), .int .i64 (div ay n), .int .i64 (div az n)]) ∧ Below w.heap.size w w' := by
  go_enter Try.func13, Try.ntmps13
  go_wp2_with (first | (go_at_call 11; refine (vlen _ _ _ (by first | assumption | exact mul_is _ _ | exact add_is _ _ | exact sub_is _ _ | exact neg_is _ | exact div_is _ _ | exact dot_is _ _ _ _ _ _ | exact len_is _ _ _ | exact side_is _ _ _ _) (by first | assumption | exact mul_is _ _ | exact add_is _ _ | exact sub_is _ _ | exact neg_is _ | exact div_is _ _ | exact dot_is _ _ _ _ _ _ | exact len_is _ _ _ | exact side_is _ _ _ _) (by first | assumption | exact mul_is _ _ | exact add_is _ _ | exact sub_is _ _ | exact neg_is _ | exact div_is _ _ | exact dot_is _ _ _ _ _ _ | exact len_is _ _ _ | exact side_is _ _ _ _) _).mono ?_; rintro e w1 ⟨rfl, hb⟩; rw [h0]; clear h0; have hS := one_keep (one_start _ _ _) hb; have HS := Lib.hid (one_keep hS ((Below.refl _ _).alloc (Nat.le_refl _) (.cells #[.int .i64 n] 2))); obtain ⟨c0, c1, c2, r0, r1, r2, f0, f1, f2, hw, hs⟩ := hS; have hs0 : w.heap.size < w1.heap.size := by omega) | (go_at_call 33; refine (each_unit _ _ _ n (by first | assumption | exact mul_is _ _ | exact add_is _ _ | exact sub_is _ _ | exact neg_is _ | exact div_is _ _ | exact dot_is _ _ _ _ _ _ | exact len_is _ _ _ | exact side_is _ _ _ _) (by first | assumption | exact mul_is _ _ | exact add_is _ _ | exact sub_is _ _ | exact neg_is _ | exact div_is _ _ | exact dot_is _ _ _ _ _ _ | exact len_is _ _ _ | exact side_is _ _ _ _) (by first | assumption | exact mul_is _ _ | exact add_is _ _ | exact sub_is _ _ | exact neg_is _ | exact div_is _ _ | exact dot_is _ _ _ _ _ _ | exact len_is _ _ _ | exact side_is _ _ _ _) (by first | assumption | exact mul_is _ _ | exact add_is _ _ | exact sub_is _ _ | exact neg_is _ | exact div_is _ _ | exact dot_is _ _ _ _ _ _ | exact len_is _ _ _ | exact side_is _ _ _ _) _ _ ?_).mono ?_; (simp); rintro e w2 ⟨rfl, hb2⟩; have hS2 := one_keep HS.out hb2; clear HS; have HS := Lib.hid hS2; obtain ⟨d0, d1, d2, s0, s1, s2, g0, g1, g2, hw2, hs2⟩ := hS2))
  obtain ⟨q0, q1, q2, hB⟩ := one_end (v0 := .int .i64 (div ax n)) (v1 := .int .i64 (div ay n)) (v2 := .int .i64 (div az n)) HS.out
  exact bodyPost_ret (by simp [results, Try.results13, go_sem, q0, q1, q2]) rfl ⟨rfl, hB⟩
theorem vunit (ax ay az : Int) (hax : isI ax) (hay : isI ay) (haz : isI az) (w : World) :
    Calls Try.prog 13 #[.agg #[.int .i64 ax, .int .i64 ay, .int .i64 az]] w fun e w' => e = .returned (.agg #[.int .i64 (unit1 (len ax ay az) ax), .int .i64 (unit1 (len ax ay az) ay), .int .i64 (unit1 (len ax ay az) az)]) ∧ Below w.heap.size w w' := by
  unfold unit1
  by_cases h : len ax ay az = 0
  · rw [if_pos h, if_pos h, if_pos h]
    exact vunit_none ax ay az hax hay haz h w
  · rw [if_neg h, if_neg h, if_neg h]
    exact vunit_some ax ay az _ hax hay haz (len_is _ _ _) (by simpa using h) rfl w
end Go.Proofs.Ytddagmcmajjnfaa.Fx
