/-
  The walk of FixWhole: whole numbers are computed with as such. The conditions are that the numbers are of their kind.
-/
import Derived.Test.YtcdcmhndfbaikaaFixTurnsWalk
namespace Go.Proofs.Ytcdcmhndfbaikaa.Fx
open Go Go.RowKit
set_option linter.unusedVariables false
theorem mul4 (x y c : Int) : x * c * (y * c) = x * y * c * c := by
  rw [Int.mul_assoc x c, Int.mul_left_comm c y c, ← Int.mul_assoc x y, ← Int.mul_assoc (x * y) c c]
theorem whole_facts {a b : Int} (ha : -32768 ≤ a) (ka : a ≤ 32767) (hb : -32768 ≤ b) (kb : b ≤ 32767) :
    ∃ X Y S D Z P NX Q : Int, whole a = X ∧ whole b = Y ∧ whole (a + b) = S ∧ add X Y = S ∧ whole (a - b) = D ∧ sub X Y = D ∧ a * b = Z ∧ whole Z = P ∧ mul X Y = P ∧ whole (-a) = NX ∧ neg X = NX ∧ floor P = Z ∧ (b ≠ 0 → div P Y = X) ∧ mul X X = Q ∧ (0 ≤ a → sqrt Q = X) ∧ (a < 0 → sqrt Q = NX)
      ∧ (-140737488355328 ≤ X ∧ X ≤ 140737488355328) ∧ (-140737488355328 ≤ Y ∧ Y ≤ 140737488355328) ∧ (-1073741824 ≤ Z ∧ Z ≤ 1073741824) ∧ (-4611686018427387904 ≤ P ∧ P ≤ 4611686018427387904) ∧ (0 ≤ Q ∧ Q ≤ 4611686018427387904) ∧ (b ≠ 0 → Y ≠ 0) := by
  have hw : ∀ n : Int, -2147483648 ≤ n → n ≤ 2147483647 → whole n = n * 4294967296 := fun n h k => by unfold whole; rw [bring_in (by unfold isI; omega)]
  have hZ : -1073741824 ≤ a * b ∧ a * b ≤ 1073741824 := by
    have h1 : (a * b).natAbs ≤ 32768 * 32768 := by rw [Int.natAbs_mul]; exact Nat.mul_le_mul (by omega) (by omega)
    omega
  have hAA : 0 ≤ a * a ∧ a * a ≤ 1073741824 := by
    have h1 : (a * a).natAbs ≤ 32768 * 32768 := by rw [Int.natAbs_mul]; exact Nat.mul_le_mul (by omega) (by omega)
    have h2 : 0 ≤ a * a := by
      rw [← Int.natAbs_mul_self]
      omega
    omega
  have hm : ∀ x y : Int, x * 4294967296 * (y * 4294967296) / 4294967296 = x * y * 4294967296 := fun x y => by
    rw [mul4, Int.mul_ediv_cancel _ (by decide)]
  refine ⟨a * 4294967296, b * 4294967296, (a + b) * 4294967296, (a - b) * 4294967296, a * b, a * b * 4294967296, -a * 4294967296, a * a * 4294967296, hw a (by omega) (by omega), hw b (by omega) (by omega), hw _ (by omega) (by omega), ?_, hw _ (by omega) (by omega), ?_, rfl, hw _ (by omega) (by omega), ?_, hw _ (by omega) (by omega), ?_, ?_, ?_, ?_, ?_, ?_, by omega, by omega, hZ, by omega, by omega, by omega⟩
  · unfold add
    rw [bring_in (by unfold isI; omega)]
    omega
  · unfold sub
    rw [bring_in (by unfold isI; omega)]
    omega
  · unfold mul
    rw [hm, bring_in (by unfold isI; omega)]
  · unfold neg
    rw [bring_in (by unfold isI; omega)]
    omega
  · unfold floor
    omega
  · intro h0
    unfold div
    rw [if_neg (by omega), ← mul4, Int.mul_fdiv_cancel _ (by omega), bring_in (by unfold isI; omega)]
  · unfold mul
    rw [hm, bring_in (by unfold isI; omega)]
  · intro h0
    obtain ⟨k, rfl⟩ : ∃ k : Nat, a = (k : Int) := ⟨a.toNat, by omega⟩
    by_cases hk : k = 0
    · subst hk
      rfl
    · have h := ex_root (k * k * 4294967296) (k * 4294967296) (by have := Nat.mul_pos (show 0 < k by omega) (show 0 < k by omega); omega) (by rw [Nat.mul_mul_mul_comm, Nat.mul_assoc (k * k)]; exact Nat.le_refl _) (by rw [Nat.mul_assoc (k * k)]; have := Nat.mul_mul_mul_comm k 4294967296 k 4294967296; rw [Nat.add_mul (k * 4294967296) 1, Nat.mul_add (k * 4294967296) (k * 4294967296) 1, this]; omega)
      simpa [Int.natCast_mul] using h
  · intro h0
    obtain ⟨k, rfl⟩ : ∃ k : Nat, a = -(k : Int) := ⟨(-a).toNat, by omega⟩
    have h := ex_root (k * k * 4294967296) (k * 4294967296) (by have := Nat.mul_pos (show 0 < k by omega) (show 0 < k by omega); omega) (by rw [Nat.mul_mul_mul_comm, Nat.mul_assoc (k * k)]; exact Nat.le_refl _) (by rw [Nat.mul_assoc (k * k)]; have := Nat.mul_mul_mul_comm k 4294967296 k 4294967296; rw [Nat.add_mul (k * 4294967296) 1, Nat.mul_add (k * 4294967296) (k * 4294967296) 1, this]; omega)
    rw [Int.neg_mul_neg, Int.neg_neg]
    simpa [Int.natCast_mul] using h
set_option maxHeartbeats 4000000 in
theorem whole_walk (a b : Int) (wa : (Lit.int .i16 a).wf = true) (wb : (Lit.int .i16 b).wf = true) (W : World) :
    Calls Try.prog 7 #[.int .i16 a, .int .i16 b] W fun e w' => e = .returned (.bool true) ∧ Below W.heap.size W w' := by
  obtain ⟨ha, ka⟩ := wf16_is wa
  obtain ⟨hb, kb⟩ := wf16_is wb
  clear wa wb
  obtain ⟨X, Y, S, D, Z, P, NX, Q, e1, e2, e3, e4, e5, e6, e7, e8, e9, e10, e11, e12, e13, e14, e15, e16, b1, b2, b3, b4, b5, b6⟩ := whole_facts ha ka hb kb
  have hbl := Below.refl W.heap.size W
  by_cases h0 : b = 0
  · have z1 : (b == 0) = true := beq_iff_eq.mpr h0
    have z2 : (b != 0) = false := by simp [h0]
    clear e13 b6 h0
    by_cases h1 : 0 ≤ a
    · have e15 := e15 h1
      clear e16
      go_enter Try.func7, Try.ntmps7
      go_wp2_with (first | (go_at_call 14; refine (of_any _ (by omega) (by omega) _).mono ?_; rintro e w' ⟨rfl, rfl⟩) | (go_at_call 15; refine (floor_any _ (by omega) (by omega) _).mono ?_; rintro e w' ⟨rfl, rfl⟩) | (go_at_call 24; refine (add_any _ _ (by omega) (by omega) (by omega) (by omega) _).mono ?_; rintro e w' ⟨rfl, rfl⟩) | (go_at_call 12; refine (sub_any _ _ (by omega) (by omega) (by omega) (by omega) _).mono ?_; rintro e w' ⟨rfl, rfl⟩) | (go_at_call 27; refine (neg_any _ (by omega) (by omega) _).mono ?_; rintro e w' ⟨rfl, rfl⟩) | (go_at_call 13; refine (mul_on _ _ (by omega) (by omega) (by omega) (by omega) W _ hbl).mono ?_; clear hbl; rintro e w1 ⟨rfl, hbl⟩) | (go_at_call 10; refine (div_on _ _ (by omega) (by omega) (by omega) (by omega) W _ hbl).mono ?_; clear hbl; rintro e w1 ⟨rfl, hbl⟩) | (go_at_call 11; refine (sqrt_on _ (by omega) (by omega) W _ hbl).mono ?_; clear hbl; rintro e w1 ⟨rfl, hbl⟩) | (go_at_call 17; refine (sin_on _ (by omega) (by omega) W _ hbl).mono ?_; clear hbl; rintro e w1 ⟨rfl, hbl⟩) | (go_at_call 18; refine (cos_on _ (by omega) (by omega) W _ hbl).mono ?_; clear hbl; rintro e w1 ⟨rfl, hbl⟩) | (go_at_call 22; refine (rof_any _ (by omega) (by omega) _).mono ?_; rintro e w' ⟨rfl, rfl⟩) | (go_at_call 23; refine (rfloor_any _ (by omega) (by omega) _).mono ?_; rintro e w' ⟨rfl, rfl⟩) | (go_at_call 25; refine (radd_any _ _ (by omega) (by omega) (by omega) (by omega) _).mono ?_; rintro e w' ⟨rfl, rfl⟩) | (go_at_call 26; refine (rsub_any _ _ (by omega) (by omega) (by omega) (by omega) _).mono ?_; rintro e w' ⟨rfl, rfl⟩) | (go_at_call 28; refine (rneg_any _ (by omega) (by omega) _).mono ?_; rintro e w' ⟨rfl, rfl⟩) | (go_at_call 29; refine (rmul_any _ _ (by omega) (by omega) (by omega) (by omega) _).mono ?_; rintro e w' ⟨rfl, rfl⟩) | (go_at_call 30; refine (rdiv_any _ _ (by omega) (by omega) (by omega) (by omega) _).mono ?_; rintro e w' ⟨rfl, rfl⟩) | (go_at_call 31; refine (rsqrt_any _ (by omega) (by omega) _).mono ?_; rintro e w' ⟨rfl, rfl⟩) | (go_at_call 20; refine (rsin_any _ (by omega) (by omega) _).mono ?_; rintro e w' ⟨rfl, rfl⟩) | (go_at_call 19; refine (rcos_any _ (by omega) (by omega) _).mono ?_; rintro e w' ⟨rfl, rfl⟩) | (go_at_call 21; refine (awake_on W _ hbl).mono ?_; clear hbl; rintro e w1 ⟨rfl, hbl⟩))
      all_goals (go_ret; exact ⟨rfl, hbl⟩)
    · have e16 := e16 (by omega)
      clear e15
      go_enter Try.func7, Try.ntmps7
      go_wp2_with (first | (go_at_call 14; refine (of_any _ (by omega) (by omega) _).mono ?_; rintro e w' ⟨rfl, rfl⟩) | (go_at_call 15; refine (floor_any _ (by omega) (by omega) _).mono ?_; rintro e w' ⟨rfl, rfl⟩) | (go_at_call 24; refine (add_any _ _ (by omega) (by omega) (by omega) (by omega) _).mono ?_; rintro e w' ⟨rfl, rfl⟩) | (go_at_call 12; refine (sub_any _ _ (by omega) (by omega) (by omega) (by omega) _).mono ?_; rintro e w' ⟨rfl, rfl⟩) | (go_at_call 27; refine (neg_any _ (by omega) (by omega) _).mono ?_; rintro e w' ⟨rfl, rfl⟩) | (go_at_call 13; refine (mul_on _ _ (by omega) (by omega) (by omega) (by omega) W _ hbl).mono ?_; clear hbl; rintro e w1 ⟨rfl, hbl⟩) | (go_at_call 10; refine (div_on _ _ (by omega) (by omega) (by omega) (by omega) W _ hbl).mono ?_; clear hbl; rintro e w1 ⟨rfl, hbl⟩) | (go_at_call 11; refine (sqrt_on _ (by omega) (by omega) W _ hbl).mono ?_; clear hbl; rintro e w1 ⟨rfl, hbl⟩) | (go_at_call 17; refine (sin_on _ (by omega) (by omega) W _ hbl).mono ?_; clear hbl; rintro e w1 ⟨rfl, hbl⟩) | (go_at_call 18; refine (cos_on _ (by omega) (by omega) W _ hbl).mono ?_; clear hbl; rintro e w1 ⟨rfl, hbl⟩) | (go_at_call 22; refine (rof_any _ (by omega) (by omega) _).mono ?_; rintro e w' ⟨rfl, rfl⟩) | (go_at_call 23; refine (rfloor_any _ (by omega) (by omega) _).mono ?_; rintro e w' ⟨rfl, rfl⟩) | (go_at_call 25; refine (radd_any _ _ (by omega) (by omega) (by omega) (by omega) _).mono ?_; rintro e w' ⟨rfl, rfl⟩) | (go_at_call 26; refine (rsub_any _ _ (by omega) (by omega) (by omega) (by omega) _).mono ?_; rintro e w' ⟨rfl, rfl⟩) | (go_at_call 28; refine (rneg_any _ (by omega) (by omega) _).mono ?_; rintro e w' ⟨rfl, rfl⟩) | (go_at_call 29; refine (rmul_any _ _ (by omega) (by omega) (by omega) (by omega) _).mono ?_; rintro e w' ⟨rfl, rfl⟩) | (go_at_call 30; refine (rdiv_any _ _ (by omega) (by omega) (by omega) (by omega) _).mono ?_; rintro e w' ⟨rfl, rfl⟩) | (go_at_call 31; refine (rsqrt_any _ (by omega) (by omega) _).mono ?_; rintro e w' ⟨rfl, rfl⟩) | (go_at_call 20; refine (rsin_any _ (by omega) (by omega) _).mono ?_; rintro e w' ⟨rfl, rfl⟩) | (go_at_call 19; refine (rcos_any _ (by omega) (by omega) _).mono ?_; rintro e w' ⟨rfl, rfl⟩) | (go_at_call 21; refine (awake_on W _ hbl).mono ?_; clear hbl; rintro e w1 ⟨rfl, hbl⟩))
      all_goals (go_ret; exact ⟨rfl, hbl⟩)
  · have z1 : (b == 0) = false := beq_eq_false_iff_ne.mpr h0
    have z2 : (b != 0) = true := bne_iff_ne.mpr h0
    have e13 := e13 h0
    clear b6 h0
    by_cases h1 : 0 ≤ a
    · have e15 := e15 h1
      clear e16
      go_enter Try.func7, Try.ntmps7
      go_wp2_with (first | (go_at_call 14; refine (of_any _ (by omega) (by omega) _).mono ?_; rintro e w' ⟨rfl, rfl⟩) | (go_at_call 15; refine (floor_any _ (by omega) (by omega) _).mono ?_; rintro e w' ⟨rfl, rfl⟩) | (go_at_call 24; refine (add_any _ _ (by omega) (by omega) (by omega) (by omega) _).mono ?_; rintro e w' ⟨rfl, rfl⟩) | (go_at_call 12; refine (sub_any _ _ (by omega) (by omega) (by omega) (by omega) _).mono ?_; rintro e w' ⟨rfl, rfl⟩) | (go_at_call 27; refine (neg_any _ (by omega) (by omega) _).mono ?_; rintro e w' ⟨rfl, rfl⟩) | (go_at_call 13; refine (mul_on _ _ (by omega) (by omega) (by omega) (by omega) W _ hbl).mono ?_; clear hbl; rintro e w1 ⟨rfl, hbl⟩) | (go_at_call 10; refine (div_on _ _ (by omega) (by omega) (by omega) (by omega) W _ hbl).mono ?_; clear hbl; rintro e w1 ⟨rfl, hbl⟩) | (go_at_call 11; refine (sqrt_on _ (by omega) (by omega) W _ hbl).mono ?_; clear hbl; rintro e w1 ⟨rfl, hbl⟩) | (go_at_call 17; refine (sin_on _ (by omega) (by omega) W _ hbl).mono ?_; clear hbl; rintro e w1 ⟨rfl, hbl⟩) | (go_at_call 18; refine (cos_on _ (by omega) (by omega) W _ hbl).mono ?_; clear hbl; rintro e w1 ⟨rfl, hbl⟩) | (go_at_call 22; refine (rof_any _ (by omega) (by omega) _).mono ?_; rintro e w' ⟨rfl, rfl⟩) | (go_at_call 23; refine (rfloor_any _ (by omega) (by omega) _).mono ?_; rintro e w' ⟨rfl, rfl⟩) | (go_at_call 25; refine (radd_any _ _ (by omega) (by omega) (by omega) (by omega) _).mono ?_; rintro e w' ⟨rfl, rfl⟩) | (go_at_call 26; refine (rsub_any _ _ (by omega) (by omega) (by omega) (by omega) _).mono ?_; rintro e w' ⟨rfl, rfl⟩) | (go_at_call 28; refine (rneg_any _ (by omega) (by omega) _).mono ?_; rintro e w' ⟨rfl, rfl⟩) | (go_at_call 29; refine (rmul_any _ _ (by omega) (by omega) (by omega) (by omega) _).mono ?_; rintro e w' ⟨rfl, rfl⟩) | (go_at_call 30; refine (rdiv_any _ _ (by omega) (by omega) (by omega) (by omega) _).mono ?_; rintro e w' ⟨rfl, rfl⟩) | (go_at_call 31; refine (rsqrt_any _ (by omega) (by omega) _).mono ?_; rintro e w' ⟨rfl, rfl⟩) | (go_at_call 20; refine (rsin_any _ (by omega) (by omega) _).mono ?_; rintro e w' ⟨rfl, rfl⟩) | (go_at_call 19; refine (rcos_any _ (by omega) (by omega) _).mono ?_; rintro e w' ⟨rfl, rfl⟩) | (go_at_call 21; refine (awake_on W _ hbl).mono ?_; clear hbl; rintro e w1 ⟨rfl, hbl⟩))
      all_goals (go_ret; exact ⟨rfl, hbl⟩)
    · have e16 := e16 (by omega)
      clear e15
      go_enter Try.func7, Try.ntmps7
      go_wp2_with (first | (go_at_call 14; refine (of_any _ (by omega) (by omega) _).mono ?_; rintro e w' ⟨rfl, rfl⟩) | (go_at_call 15; refine (floor_any _ (by omega) (by omega) _).mono ?_; rintro e w' ⟨rfl, rfl⟩) | (go_at_call 24; refine (add_any _ _ (by omega) (by omega) (by omega) (by omega) _).mono ?_; rintro e w' ⟨rfl, rfl⟩) | (go_at_call 12; refine (sub_any _ _ (by omega) (by omega) (by omega) (by omega) _).mono ?_; rintro e w' ⟨rfl, rfl⟩) | (go_at_call 27; refine (neg_any _ (by omega) (by omega) _).mono ?_; rintro e w' ⟨rfl, rfl⟩) | (go_at_call 13; refine (mul_on _ _ (by omega) (by omega) (by omega) (by omega) W _ hbl).mono ?_; clear hbl; rintro e w1 ⟨rfl, hbl⟩) | (go_at_call 10; refine (div_on _ _ (by omega) (by omega) (by omega) (by omega) W _ hbl).mono ?_; clear hbl; rintro e w1 ⟨rfl, hbl⟩) | (go_at_call 11; refine (sqrt_on _ (by omega) (by omega) W _ hbl).mono ?_; clear hbl; rintro e w1 ⟨rfl, hbl⟩) | (go_at_call 17; refine (sin_on _ (by omega) (by omega) W _ hbl).mono ?_; clear hbl; rintro e w1 ⟨rfl, hbl⟩) | (go_at_call 18; refine (cos_on _ (by omega) (by omega) W _ hbl).mono ?_; clear hbl; rintro e w1 ⟨rfl, hbl⟩) | (go_at_call 22; refine (rof_any _ (by omega) (by omega) _).mono ?_; rintro e w' ⟨rfl, rfl⟩) | (go_at_call 23; refine (rfloor_any _ (by omega) (by omega) _).mono ?_; rintro e w' ⟨rfl, rfl⟩) | (go_at_call 25; refine (radd_any _ _ (by omega) (by omega) (by omega) (by omega) _).mono ?_; rintro e w' ⟨rfl, rfl⟩) | (go_at_call 26; refine (rsub_any _ _ (by omega) (by omega) (by omega) (by omega) _).mono ?_; rintro e w' ⟨rfl, rfl⟩) | (go_at_call 28; refine (rneg_any _ (by omega) (by omega) _).mono ?_; rintro e w' ⟨rfl, rfl⟩) | (go_at_call 29; refine (rmul_any _ _ (by omega) (by omega) (by omega) (by omega) _).mono ?_; rintro e w' ⟨rfl, rfl⟩) | (go_at_call 30; refine (rdiv_any _ _ (by omega) (by omega) (by omega) (by omega) _).mono ?_; rintro e w' ⟨rfl, rfl⟩) | (go_at_call 31; refine (rsqrt_any _ (by omega) (by omega) _).mono ?_; rintro e w' ⟨rfl, rfl⟩) | (go_at_call 20; refine (rsin_any _ (by omega) (by omega) _).mono ?_; rintro e w' ⟨rfl, rfl⟩) | (go_at_call 19; refine (rcos_any _ (by omega) (by omega) _).mono ?_; rintro e w' ⟨rfl, rfl⟩) | (go_at_call 21; refine (awake_on W _ hbl).mono ?_; clear hbl; rintro e w1 ⟨rfl, hbl⟩))
      all_goals (go_ret; exact ⟨rfl, hbl⟩)
end Go.Proofs.Ytcdcmhndfbaikaa.Fx
