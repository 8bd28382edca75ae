/-
  Whole numbers, numbers below 2^40, and the chapter's examples, as the laws lay them. The conditions: the numbers are of 64 bits.
-/
import Derived.Test.YtddagmcmajjnfaaVecCross
import Derived.Test.YtddagmcmajjnfaaVecUnit
import Derived.Test.YtddagmcmajjnfaaVecBend
namespace Go.Proofs.Ytddagmcmajjnfaa.Fx
open Go Go.RowKit
set_option linter.unusedVariables false
/-- Below 2^40. -/
def lown (a : Int) : Int := Int.tmod a 1099511627776
theorem lown_bd (a : Int) : -1099511627776 < lown a ∧ lown a < 1099511627776 := by
  unfold lown
  by_cases h : 0 ≤ a
  · rw [(quo_high h).2]
    omega
  · rw [(quo_low (by omega)).2]
    omega
theorem lown_is (a : Int) : isI (lown a) := by
  have := lown_bd a
  unfold isI
  omega
theorem of_any (x y z : Int) (hx : -2147483648 ≤ x) (kx : x ≤ 2147483647) (hy : -2147483648 ≤ y) (ky : y ≤ 2147483647) (hz : -2147483648 ≤ z) (kz : z ≤ 2147483647) (w : World) :
    Calls Try.prog 15 #[.int .i64 x, .int .i64 y, .int .i64 z] w fun e w' => e = .returned (.agg #[.int .i64 (x * 4294967296), .int .i64 (y * 4294967296), .int .i64 (z * 4294967296)]) ∧ Below w.heap.size w w' := by
  go_enter Try.func15, Try.ntmps15
  go_wp2
  exact bodyPost_ret (by simp [results, Try.results15, go_sem]) rfl ⟨rfl, (Below.refl _ _).alloc (Nat.le_refl _) _⟩
theorem low_any (ax ay az : Int) (hax : isI ax) (hay : isI ay) (haz : isI az) (w : World) :
    Calls Try.prog 30 #[.agg #[.int .i64 ax, .int .i64 ay, .int .i64 az]] w fun e w' => e = .returned (.agg #[.int .i64 (lown ax), .int .i64 (lown ay), .int .i64 (lown az)]) ∧ Below w.heap.size w w' := by
  unfold isI at hax hay haz
  have e1 : Int.tmod ax 1099511627776 = lown ax := rfl
  have e2 : Int.tmod ay 1099511627776 = lown ay := rfl
  have e3 : Int.tmod az 1099511627776 = lown az := rfl
  go_enter Try.func30, Try.ntmps30
  go_wp2
  exact bodyPost_ret (by simp [results, Try.results30, go_sem]) rfl ⟨rfl, (((Below.refl _ _).alloc (Nat.le_refl _) _).alloc (by simp; try omega) _)⟩
theorem sqrt_num (a r : Nat) (h : 1 ≤ a) (h1 : r * r ≤ a * 4294967296) (h2 : a * 4294967296 < (r + 1) * (r + 1)) : sqrt (a : Int) = (r : Int) := by
  unfold sqrt
  rw [if_neg (by omega), Int.toNat_natCast, root_eq _ r h1 h2]
theorem ex_add : add 4294967296 4294967296 = 8589934592 ∧ add 8589934592 4294967296 = 12884901888 ∧ add 12884901888 4294967296 = 17179869184 ∧ dot 4294967296 8589934592 12884901888 17179869184 21474836480 25769803776 = 137438953472
    ∧ side 0 0 0 4294967296 = 0 ∧ side 0 0 4294967296 0 = 0 ∧ side 4294967296 4294967296 0 0 = 4294967296 ∧ dot 4294967296 (-4294967296) 0 0 4294967296 0 = -4294967296
    ∧ sub 4294967296 (mul 0 (add (-4294967296) (-4294967296))) = 4294967296 ∧ sub (-4294967296) (mul 4294967296 (add (-4294967296) (-4294967296))) = 4294967296 ∧ sub 0 (mul 0 (add (-4294967296) (-4294967296))) = 0 := by decide +kernel
theorem ex_len : len 12884901888 17179869184 0 = 21474836480 := by
  unfold len
  rw [show dot 12884901888 17179869184 0 12884901888 17179869184 0 = 107374182400 from by decide +kernel]
  exact sqrt_num 107374182400 21474836480 (by decide) (by decide) (by decide)
theorem ex_len2 : len 0 0 8589934592 = 8589934592 := by
  unfold len
  rw [show dot 0 0 8589934592 0 0 8589934592 = 17179869184 from by decide +kernel]
  exact sqrt_num 17179869184 8589934592 (by decide) (by decide) (by decide)
theorem ex_len0 : len 0 0 0 = 0 := by
  unfold len
  rw [show dot 0 0 0 0 0 0 = 0 from by decide +kernel]
  rfl
theorem ex_unit : unit1 8589934592 0 = 0 ∧ unit1 8589934592 8589934592 = 4294967296 ∧ unit1 0 0 = 0 := by decide +kernel
set_option maxHeartbeats 2000000 in
theorem awake_any (W : World) : Calls Try.prog 18 #[] W fun e w' => e = .returned (.bool true) ∧ Below W.heap.size W w' := by
  have hbl := Below.refl W.heap.size W
  obtain ⟨e1, e2, e3, e4, e5, e6, e7, e8, e9, e10, e11⟩ := ex_add
  have e12 := ex_len
  have e13 := ex_len2
  have e14 := ex_len0
  obtain ⟨e15, e16, e17⟩ := ex_unit
  go_enter Try.func18, Try.ntmps18
  go_wp2_with (first | (go_at_call 15; refine (of_any _ _ _ (by omega) (by omega) (by omega) (by omega) (by omega) (by omega) _).mono ?_; rintro e w1 ⟨rfl, hn⟩; replace hbl := hbl.trans (hn.mono hbl.size); clear hn) | (go_at_call 9; refine (vadd _ _ _ _ _ _ (by first | assumption | exact mul_is _ _ | exact add_is _ _ | exact sub_is _ _ | exact neg_is _ | exact div_is _ _ | exact dot_is _ _ _ _ _ _ | exact len_is _ _ _ | exact side_is _ _ _ _ | exact unit1_is _ _ | exact lown_is _ | exact unit1_is _ _ | (unfold isI; omega)) (by first | assumption | exact mul_is _ _ | exact add_is _ _ | exact sub_is _ _ | exact neg_is _ | exact div_is _ _ | exact dot_is _ _ _ _ _ _ | exact len_is _ _ _ | exact side_is _ _ _ _ | exact unit1_is _ _ | exact lown_is _ | exact unit1_is _ _ | (unfold isI; omega)) (by first | assumption | exact mul_is _ _ | exact add_is _ _ | exact sub_is _ _ | exact neg_is _ | exact div_is _ _ | exact dot_is _ _ _ _ _ _ | exact len_is _ _ _ | exact side_is _ _ _ _ | exact unit1_is _ _ | exact lown_is _ | exact unit1_is _ _ | (unfold isI; omega)) (by first | assumption | exact mul_is _ _ | exact add_is _ _ | exact sub_is _ _ | exact neg_is _ | exact div_is _ _ | exact dot_is _ _ _ _ _ _ | exact len_is _ _ _ | exact side_is _ _ _ _ | exact unit1_is _ _ | exact lown_is _ | exact unit1_is _ _ | (unfold isI; omega)) (by first | assumption | exact mul_is _ _ | exact add_is _ _ | exact sub_is _ _ | exact neg_is _ | exact div_is _ _ | exact dot_is _ _ _ _ _ _ | exact len_is _ _ _ | exact side_is _ _ _ _ | exact unit1_is _ _ | exact lown_is _ | exact unit1_is _ _ | (unfold isI; omega)) (by first | assumption | exact mul_is _ _ | exact add_is _ _ | exact sub_is _ _ | exact neg_is _ | exact div_is _ _ | exact dot_is _ _ _ _ _ _ | exact len_is _ _ _ | exact side_is _ _ _ _ | exact unit1_is _ _ | exact lown_is _ | exact unit1_is _ _ | (unfold isI; omega)) _).mono ?_; rintro e w1 ⟨rfl, hn⟩; replace hbl := hbl.trans (hn.mono hbl.size); clear hn) | (go_at_call 11; refine (vlen _ _ _ (by first | assumption | exact mul_is _ _ | exact add_is _ _ | exact sub_is _ _ | exact neg_is _ | exact div_is _ _ | exact dot_is _ _ _ _ _ _ | exact len_is _ _ _ | exact side_is _ _ _ _ | exact unit1_is _ _ | exact lown_is _ | exact unit1_is _ _ | (unfold isI; omega)) (by first | assumption | exact mul_is _ _ | exact add_is _ _ | exact sub_is _ _ | exact neg_is _ | exact div_is _ _ | exact dot_is _ _ _ _ _ _ | exact len_is _ _ _ | exact side_is _ _ _ _ | exact unit1_is _ _ | exact lown_is _ | exact unit1_is _ _ | (unfold isI; omega)) (by first | assumption | exact mul_is _ _ | exact add_is _ _ | exact sub_is _ _ | exact neg_is _ | exact div_is _ _ | exact dot_is _ _ _ _ _ _ | exact len_is _ _ _ | exact side_is _ _ _ _ | exact unit1_is _ _ | exact lown_is _ | exact unit1_is _ _ | (unfold isI; omega)) _).mono ?_; rintro e w1 ⟨rfl, hn⟩; replace hbl := hbl.trans (hn.mono hbl.size); clear hn) | (go_at_call 13; refine (vunit _ _ _ (by first | assumption | exact mul_is _ _ | exact add_is _ _ | exact sub_is _ _ | exact neg_is _ | exact div_is _ _ | exact dot_is _ _ _ _ _ _ | exact len_is _ _ _ | exact side_is _ _ _ _ | exact unit1_is _ _ | exact lown_is _ | exact unit1_is _ _ | (unfold isI; omega)) (by first | assumption | exact mul_is _ _ | exact add_is _ _ | exact sub_is _ _ | exact neg_is _ | exact div_is _ _ | exact dot_is _ _ _ _ _ _ | exact len_is _ _ _ | exact side_is _ _ _ _ | exact unit1_is _ _ | exact lown_is _ | exact unit1_is _ _ | (unfold isI; omega)) (by first | assumption | exact mul_is _ _ | exact add_is _ _ | exact sub_is _ _ | exact neg_is _ | exact div_is _ _ | exact dot_is _ _ _ _ _ _ | exact len_is _ _ _ | exact side_is _ _ _ _ | exact unit1_is _ _ | exact lown_is _ | exact unit1_is _ _ | (unfold isI; omega)) _).mono ?_; rintro e w1 ⟨rfl, hn⟩; replace hbl := hbl.trans (hn.mono hbl.size); clear hn) | (go_at_call 17; refine (vcross _ _ _ _ _ _ (by first | assumption | exact mul_is _ _ | exact add_is _ _ | exact sub_is _ _ | exact neg_is _ | exact div_is _ _ | exact dot_is _ _ _ _ _ _ | exact len_is _ _ _ | exact side_is _ _ _ _ | exact unit1_is _ _ | exact lown_is _ | exact unit1_is _ _ | (unfold isI; omega)) (by first | assumption | exact mul_is _ _ | exact add_is _ _ | exact sub_is _ _ | exact neg_is _ | exact div_is _ _ | exact dot_is _ _ _ _ _ _ | exact len_is _ _ _ | exact side_is _ _ _ _ | exact unit1_is _ _ | exact lown_is _ | exact unit1_is _ _ | (unfold isI; omega)) (by first | assumption | exact mul_is _ _ | exact add_is _ _ | exact sub_is _ _ | exact neg_is _ | exact div_is _ _ | exact dot_is _ _ _ _ _ _ | exact len_is _ _ _ | exact side_is _ _ _ _ | exact unit1_is _ _ | exact lown_is _ | exact unit1_is _ _ | (unfold isI; omega)) (by first | assumption | exact mul_is _ _ | exact add_is _ _ | exact sub_is _ _ | exact neg_is _ | exact div_is _ _ | exact dot_is _ _ _ _ _ _ | exact len_is _ _ _ | exact side_is _ _ _ _ | exact unit1_is _ _ | exact lown_is _ | exact unit1_is _ _ | (unfold isI; omega)) (by first | assumption | exact mul_is _ _ | exact add_is _ _ | exact sub_is _ _ | exact neg_is _ | exact div_is _ _ | exact dot_is _ _ _ _ _ _ | exact len_is _ _ _ | exact side_is _ _ _ _ | exact unit1_is _ _ | exact lown_is _ | exact unit1_is _ _ | (unfold isI; omega)) (by first | assumption | exact mul_is _ _ | exact add_is _ _ | exact sub_is _ _ | exact neg_is _ | exact div_is _ _ | exact dot_is _ _ _ _ _ _ | exact len_is _ _ _ | exact side_is _ _ _ _ | exact unit1_is _ _ | exact lown_is _ | exact unit1_is _ _ | (unfold isI; omega)) _).mono ?_; rintro e w1 ⟨rfl, hn⟩; replace hbl := hbl.trans (hn.mono hbl.size); clear hn) | (go_at_call 24; refine (vdot _ _ _ _ _ _ (by first | assumption | exact mul_is _ _ | exact add_is _ _ | exact sub_is _ _ | exact neg_is _ | exact div_is _ _ | exact dot_is _ _ _ _ _ _ | exact len_is _ _ _ | exact side_is _ _ _ _ | exact unit1_is _ _ | exact lown_is _ | exact unit1_is _ _ | (unfold isI; omega)) (by first | assumption | exact mul_is _ _ | exact add_is _ _ | exact sub_is _ _ | exact neg_is _ | exact div_is _ _ | exact dot_is _ _ _ _ _ _ | exact len_is _ _ _ | exact side_is _ _ _ _ | exact unit1_is _ _ | exact lown_is _ | exact unit1_is _ _ | (unfold isI; omega)) (by first | assumption | exact mul_is _ _ | exact add_is _ _ | exact sub_is _ _ | exact neg_is _ | exact div_is _ _ | exact dot_is _ _ _ _ _ _ | exact len_is _ _ _ | exact side_is _ _ _ _ | exact unit1_is _ _ | exact lown_is _ | exact unit1_is _ _ | (unfold isI; omega)) (by first | assumption | exact mul_is _ _ | exact add_is _ _ | exact sub_is _ _ | exact neg_is _ | exact div_is _ _ | exact dot_is _ _ _ _ _ _ | exact len_is _ _ _ | exact side_is _ _ _ _ | exact unit1_is _ _ | exact lown_is _ | exact unit1_is _ _ | (unfold isI; omega)) (by first | assumption | exact mul_is _ _ | exact add_is _ _ | exact sub_is _ _ | exact neg_is _ | exact div_is _ _ | exact dot_is _ _ _ _ _ _ | exact len_is _ _ _ | exact side_is _ _ _ _ | exact unit1_is _ _ | exact lown_is _ | exact unit1_is _ _ | (unfold isI; omega)) (by first | assumption | exact mul_is _ _ | exact add_is _ _ | exact sub_is _ _ | exact neg_is _ | exact div_is _ _ | exact dot_is _ _ _ _ _ _ | exact len_is _ _ _ | exact side_is _ _ _ _ | exact unit1_is _ _ | exact lown_is _ | exact unit1_is _ _ | (unfold isI; omega)) _).mono ?_; rintro e w1 ⟨rfl, hn⟩; replace hbl := hbl.trans (hn.mono hbl.size); clear hn) | (go_at_call 28; refine (vbend _ _ _ _ _ _ (by first | assumption | exact mul_is _ _ | exact add_is _ _ | exact sub_is _ _ | exact neg_is _ | exact div_is _ _ | exact dot_is _ _ _ _ _ _ | exact len_is _ _ _ | exact side_is _ _ _ _ | exact unit1_is _ _ | exact lown_is _ | exact unit1_is _ _ | (unfold isI; omega)) (by first | assumption | exact mul_is _ _ | exact add_is _ _ | exact sub_is _ _ | exact neg_is _ | exact div_is _ _ | exact dot_is _ _ _ _ _ _ | exact len_is _ _ _ | exact side_is _ _ _ _ | exact unit1_is _ _ | exact lown_is _ | exact unit1_is _ _ | (unfold isI; omega)) (by first | assumption | exact mul_is _ _ | exact add_is _ _ | exact sub_is _ _ | exact neg_is _ | exact div_is _ _ | exact dot_is _ _ _ _ _ _ | exact len_is _ _ _ | exact side_is _ _ _ _ | exact unit1_is _ _ | exact lown_is _ | exact unit1_is _ _ | (unfold isI; omega)) (by first | assumption | exact mul_is _ _ | exact add_is _ _ | exact sub_is _ _ | exact neg_is _ | exact div_is _ _ | exact dot_is _ _ _ _ _ _ | exact len_is _ _ _ | exact side_is _ _ _ _ | exact unit1_is _ _ | exact lown_is _ | exact unit1_is _ _ | (unfold isI; omega)) (by first | assumption | exact mul_is _ _ | exact add_is _ _ | exact sub_is _ _ | exact neg_is _ | exact div_is _ _ | exact dot_is _ _ _ _ _ _ | exact len_is _ _ _ | exact side_is _ _ _ _ | exact unit1_is _ _ | exact lown_is _ | exact unit1_is _ _ | (unfold isI; omega)) (by first | assumption | exact mul_is _ _ | exact add_is _ _ | exact sub_is _ _ | exact neg_is _ | exact div_is _ _ | exact dot_is _ _ _ _ _ _ | exact len_is _ _ _ | exact side_is _ _ _ _ | exact unit1_is _ _ | exact lown_is _ | exact unit1_is _ _ | (unfold isI; omega)) _).mono ?_; rintro e w1 ⟨rfl, hn⟩; replace hbl := hbl.trans (hn.mono hbl.size); clear hn))
  go_ret
  exact ⟨rfl, hbl⟩
end Go.Proofs.Ytddagmcmajjnfaa.Fx
