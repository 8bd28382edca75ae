/-
  BitsSplit for all numbers: the walk's conditions, fulfilled.
-/
import Derived.Test.YtenaokijjancgaaBitsSplitWalk
namespace Go.Proofs.Ytenaokijjancgaa.Fx
open Go Go.RowKit Go.Joins
set_option linter.unusedVariables false
/-- A mask 1<<a - 1, and what it leaves. -/
theorem masked (A a : Nat) (hA : A ≤ 4294967295) (ha : a ≤ 32) : ∃ P M : Nat, M ≤ 4294967296 ∧ IntKind.u64.wrap (2 ^ a) = (P : Int) ∧ (P : Int) - 1 = (M : Int) ∧ IntKind.u64.wrap ((P : Int) - 1) = (M : Int) ∧ bits .and .u64 (A : Int) (M : Int) = ((A % 2 ^ a : Nat) : Int) := by
  have h1 : 1 ≤ 2 ^ a := Nat.one_le_two_pow
  have h2 : 2 ^ a ≤ 2 ^ 32 := Nat.pow_le_pow_right (by decide) ha
  have h3 : (2 : Int) ^ a = ((2 ^ a : Nat) : Int) := by rw [Int.natCast_pow]; rfl
  have e : bits .and .u64 (A : Int) ((2 ^ a - 1 : Nat) : Int) = ((A % 2 ^ a : Nat) : Int) := by
    rw [u64_and_nat _ _ (by omega) (by omega), Nat.and_two_pow_sub_one_eq_mod]
  refine ⟨2 ^ a, 2 ^ a - 1, ?_, ?_, ?_, ?_, e⟩
  · omega
  · rw [h3]
    generalize 2 ^ a = p at *
    exact IntWalk.u64_in _ (by omega)
  · generalize 2 ^ a = p at *
    omega
  · generalize 2 ^ a = p at *
    rw [IntWalk.u64_in _ (by omega)]
    omega
theorem split_law {isW isR : World → Value → List Bool → Nat → (Nat → Prop) → Prop} (D : Does isW isR) (W : World) (A N : Nat) (a k cut : Int) (hA : A ≤ 4294967295) (hN : N ≤ 4294967295) (ha0 : 0 ≤ a) (ha1 : a ≤ 255) (hk0 : 0 ≤ k) (hk1 : k ≤ 255) (hc0 : 0 ≤ cut) (hc1 : cut ≤ 255) :
    Calls Try.prog 8 #[.int .u32 (A : Int), .int .u32 (N : Int), .int .u8 a, .int .u8 k, .int .u8 cut] W fun e w' => e = .returned (.bool true) ∧ Below W.heap.size W w' := by
  obtain ⟨a1, e1⟩ : ∃ x : Nat, a % 33 = (x : Int) := ⟨(a % 33).toNat, by omega⟩
  obtain ⟨K, e2⟩ : ∃ x : Nat, k % 33 = (x : Int) := ⟨(k % 33).toNat, by omega⟩
  have ka : a1 ≤ 32 := by omega
  have kk : K ≤ 32 := by omega
  have hb0 : 0 ≤ cut % ((K : Int) + 1) := Int.emod_nonneg _ (by omega)
  have hb1 : cut % ((K : Int) + 1) < (K : Int) + 1 := Int.emod_lt_of_pos _ (by omega)
  obtain ⟨C, e3⟩ : ∃ x : Nat, cut % ((K : Int) + 1) = (x : Int) := ⟨(cut % ((K : Int) + 1)).toNat, by omega⟩
  have kck : C ≤ K := by omega
  obtain ⟨E, hE⟩ : ∃ x : Nat, x = K - C := ⟨_, rfl⟩
  have e14 : (K : Int) - (C : Int) = (E : Int) := by omega
  obtain ⟨P1, M1, bM1, e4, e5, e5', e6⟩ := masked A a1 hA ka
  obtain ⟨P2, M2, bM2, e7, e8, e8', e9⟩ := masked N K hN kk
  have kA : A % 2 ^ a1 < 2 ^ a1 := Nat.mod_lt _ (Nat.two_pow_pos _)
  have bA : A % 2 ^ a1 ≤ A := Nat.mod_le _ _
  have kN : N % 2 ^ K < 2 ^ K := Nat.mod_lt _ (Nat.two_pow_pos _)
  have bN : N % 2 ^ K ≤ N := Nat.mod_le _ _
  generalize A % 2 ^ a1 = A1 at *
  generalize N % 2 ^ K = N1 at *
  obtain ⟨P3, M3, bM3, e10, e11, e11', e12⟩ := masked N1 C (by omega) (by omega)
  have kl : N1 % 2 ^ C < 2 ^ C := Nat.mod_lt _ (Nat.two_pow_pos _)
  have bl : N1 % 2 ^ C ≤ N1 := Nat.mod_le _ _
  have bh : N1 / 2 ^ C ≤ N1 := Nat.div_le_self _ _
  have hsum : 2 ^ C * (N1 / 2 ^ C) + N1 % 2 ^ C = N1 := Nat.div_add_mod _ _
  have kh : N1 / 2 ^ C < 2 ^ E := by
    rw [Nat.div_lt_iff_lt_mul (Nat.two_pow_pos _), ← Nat.pow_add, hE, Nat.sub_add_cancel kck]
    exact kN
  have hbits := split_bits N1 K C kck
  rw [← hE] at hbits
  have e13 : (N1 : Int) / 2 ^ C = ((N1 / 2 ^ C : Nat) : Int) := by
    rw [Int.natCast_ediv, Int.natCast_pow]
    rfl
  have hC2 : 2 ^ C ≤ 2 ^ 32 := Nat.pow_le_pow_right (by decide) (by omega)
  have hprod : (N1 / 2 ^ C) * 2 ^ C ≤ N1 := Nat.div_mul_le_self _ _
  have e16 : IntKind.u64.wrap (((N1 / 2 ^ C : Nat) : Int) * 2 ^ C) = (((N1 / 2 ^ C) * 2 ^ C : Nat) : Int) := by
    have : ((N1 / 2 ^ C : Nat) : Int) * 2 ^ C = (((N1 / 2 ^ C) * 2 ^ C : Nat) : Int) := by
      rw [Int.natCast_mul, Int.natCast_pow]
      rfl
    rw [this]
    exact IntWalk.u64_in _ (by omega)
  have e17 : bits .or .u64 ((N1 % 2 ^ C : Nat) : Int) (((N1 / 2 ^ C) * 2 ^ C : Nat) : Int) = (N1 : Int) := by
    rw [u64_or_nat _ _ (by omega) (by omega)]
    have := Nat.shiftLeft_add_eq_or_of_lt kl (N1 / 2 ^ C)
    rw [Nat.shiftLeft_eq] at this
    rw [Nat.or_comm, ← this, Nat.mul_comm, hsum]
  generalize N1 % 2 ^ C = lo at *
  generalize hhi : N1 / 2 ^ C = hi at *
  clear hhi hsum hC2
  generalize hi * 2 ^ C = HC at *
  have n1 : ([] ++ bitsOf A1 a1 : List Bool).length = a1 := by rw [List.nil_append, bitsOf_length]
  have n2 : ([] ++ bitsOf A1 a1 ++ bitsOf lo C).length = a1 + C := by rw [List.length_append, n1, bitsOf_length]
  have n3 : ([] ++ bitsOf A1 a1 ++ bitsOf N1 K).length = a1 + K := by rw [List.length_append, n1, bitsOf_length]
  have n4 : (aligned ([] ++ bitsOf A1 a1 ++ bitsOf N1 K)).length = (a1 + K + 7) / 8 * 8 := by rw [aligned_length, n3]
  have v1 : numAt (aligned ([] ++ bitsOf A1 a1 ++ bitsOf N1 K)) a1 K = N1 := by
    have := numAt_mid ([] ++ bitsOf A1 a1) (List.replicate ((8 - ([] ++ bitsOf A1 a1 ++ bitsOf N1 K).length % 8) % 8) false) N1 K kN
    rw [n1] at this
    exact this
  have v2 : numAt (aligned ([] ++ bitsOf A1 a1 ++ bitsOf N1 K)) a1 C = lo := by
    have := numAt_mid ([] ++ bitsOf A1 a1) (bitsOf hi E ++ List.replicate ((8 - ([] ++ bitsOf A1 a1 ++ bitsOf N1 K).length % 8) % 8) false) lo C kl
    rw [n1, List.append_assoc _ (bitsOf lo C), ← List.append_assoc (bitsOf lo C), hbits, ← List.append_assoc] at this
    exact this
  have v3 : numAt (aligned ([] ++ bitsOf A1 a1 ++ bitsOf N1 K)) (a1 + C) E = hi := by
    have := numAt_mid ([] ++ bitsOf A1 a1 ++ bitsOf lo C) (List.replicate ((8 - ([] ++ bitsOf A1 a1 ++ bitsOf N1 K).length % 8) % 8) false) hi E kh
    rw [n2, List.append_assoc _ (bitsOf lo C) (bitsOf hi E), hbits] at this
    exact this
  have hN2 : ([] ++ bitsOf A1 a1 ++ bitsOf lo C) ++ bitsOf hi E = [] ++ bitsOf A1 a1 ++ bitsOf N1 K := by rw [List.append_assoc _ (bitsOf lo C), hbits]
  have hz : bitsOfBytes (bytesAt (aligned ([] ++ bitsOf A1 a1 ++ bitsOf N1 K)) 0 ((aligned ([] ++ bitsOf A1 a1 ++ bitsOf N1 K)).length / 8 - 0)) = aligned ([] ++ bitsOf A1 a1 ++ bitsOf N1 K) := by
    rw [bits_bytes _ _ _ (by omega), Nat.mul_zero, List.drop_zero, List.take_of_length_le (by omega)]
  have hzl : (bytesAt (aligned ([] ++ bitsOf A1 a1 ++ bitsOf N1 K)) 0 ((aligned ([] ++ bitsOf A1 a1 ++ bitsOf N1 K)).length / 8 - 0)).length = (a1 + K + 7) / 8 := by
    rw [bytesAt_length, n4]
    omega
  refine split_row D W A N a1 K C E P1 M1 A1 P2 M2 N1 P3 M3 lo hi HC ((a1 + K + 7) / 8) _ _ _ _ _ a k cut hA hN ⟨ha0, ha1⟩ ⟨hk0, hk1⟩ ⟨hc0, hc1⟩ e1 e2 e3 ka kk (by omega) kck (by omega) bM1 bM2 bM3 e4 e5 e5' e6 (by omega) (by omega) e7 e8 e8' e9 (by omega) (by omega) e10 e11 e11' e12 (by omega) (by omega) e13 (by omega) (by omega) e14 ?_ kA kN kl kh (Lib.hid rfl) (Lib.hid rfl) (Lib.hid rfl) (Lib.hid hN2) (Lib.hid rfl) (Lib.hid ⟨by omega, by omega, by omega, by omega, trivial⟩) (Lib.hid rfl) (Lib.hid hzl) (by omega) (by omega) (Lib.hid ⟨bytesAt_bytes _ _ _, by omega⟩) (Lib.hid hz) (Lib.hid ⟨by omega, by omega, by omega, by omega, by omega⟩) (Lib.hid ⟨v1, v2, v3⟩) e16 e17
  rw [e14, IntKind.wrap_u8']
  omega
end Go.Proofs.Ytenaokijjancgaa.Fx
