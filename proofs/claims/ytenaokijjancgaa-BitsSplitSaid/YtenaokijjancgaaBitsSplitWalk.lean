/-
  The walk of BitsSplit, over what the calls do. The conditions are the numbers' bounds.
-/
import Derived.Laws.Bits64
import Derived.Test.YtenaokijjancgaaBitsA
namespace Go.Proofs.Ytenaokijjancgaa.Fx
open Go Go.RowKit Go.Joins
set_option linter.unusedVariables false
theorem split_bits (n k c : Nat) (h : c ≤ k) : bitsOf (n % 2 ^ c) c ++ bitsOf (n / 2 ^ c) (k - c) = bitsOf n k := by
  have e : bitsOf (n % 2 ^ c) c = bitsOf n c := by
    have h := bitsOf_numOf (bitsOf n c)
    rw [numOf_bitsOf, bitsOf_length] at h
    exact h
  rw [e, ← bitsOf_add, Nat.add_sub_cancel' h]
theorem numAt_mid (p q : List Bool) (n k : Nat) (h : n < 2 ^ k) : numAt (p ++ bitsOf n k ++ q) p.length k = n := by
  unfold numAt
  rw [List.append_assoc, List.drop_left, List.take_append_of_le_length (by rw [bitsOf_length]; exact Nat.le_refl _), List.take_of_length_le (by rw [bitsOf_length]; exact Nat.le_refl _), numOf_small n k h]
set_option maxHeartbeats 4000000 in
set_option maxRecDepth 100000 in
theorem split_row {isW isR : World → Value → List Bool → Nat → (Nat → Prop) → Prop} (D : Does isW isR) (W : World) (A N a1 K C E P1 M1 A1 P2 M2 N1 P3 M3 lo hi HC m : Nat) (L1 L2 M G : List Bool) (zs : List Nat) (a k cut : Int)
    (hA : A ≤ 4294967295) (hN : N ≤ 4294967295) (ha : 0 ≤ a ∧ a ≤ 255) (hk : 0 ≤ k ∧ k ≤ 255) (hc : 0 ≤ cut ∧ cut ≤ 255)
    (e1 : a % 33 = (a1 : Int)) (e2 : k % 33 = (K : Int)) (e3 : cut % ((K : Int) + 1) = (C : Int)) (ka : a1 ≤ 32) (kk : K ≤ 32) (kc : C ≤ 32) (kck : C ≤ K) (ke : E ≤ 32)
    (bM1 : M1 ≤ 4294967296) (bM2 : M2 ≤ 4294967296) (bM3 : M3 ≤ 4294967296) (e4 : IntKind.u64.wrap (2 ^ a1) = (P1 : Int)) (e5 : (P1 : Int) - 1 = (M1 : Int)) (e5' : IntKind.u64.wrap ((P1 : Int) - 1) = (M1 : Int)) (e6 : bits .and .u64 (A : Int) (M1 : Int) = (A1 : Int)) (b6 : A1 ≤ 4294967295) (e6' : (A1 : Int) % 4294967296 = (A1 : Int))
    (e7 : IntKind.u64.wrap (2 ^ K) = (P2 : Int)) (e8 : (P2 : Int) - 1 = (M2 : Int)) (e8' : IntKind.u64.wrap ((P2 : Int) - 1) = (M2 : Int)) (e9 : bits .and .u64 (N : Int) (M2 : Int) = (N1 : Int)) (b9 : N1 ≤ 4294967295) (e9' : (N1 : Int) % 4294967296 = (N1 : Int))
    (e10 : IntKind.u64.wrap (2 ^ C) = (P3 : Int)) (e11 : (P3 : Int) - 1 = (M3 : Int)) (e11' : IntKind.u64.wrap ((P3 : Int) - 1) = (M3 : Int)) (e12 : bits .and .u64 (N1 : Int) (M3 : Int) = (lo : Int)) (b12 : lo ≤ 4294967295) (e12' : (lo : Int) % 4294967296 = (lo : Int))
    (e13 : (N1 : Int) / 2 ^ C = (hi : Int)) (b13 : hi ≤ 4294967295) (e13' : (hi : Int) % 4294967296 = (hi : Int))
    (e14 : (K : Int) - (C : Int) = (E : Int)) (e14' : IntKind.u8.wrap ((K : Int) - (C : Int)) = (E : Int))
    (kA : A1 < 2 ^ a1) (kN : N1 < 2 ^ K) (kl : lo < 2 ^ C) (kh : hi < 2 ^ E)
    (HL1 : Hid ([] ++ bitsOf A1 a1 = L1)) (HL2 : Hid (L1 ++ bitsOf N1 K = L2)) (HM : Hid (L1 ++ bitsOf lo C = M)) (HN : Hid (M ++ bitsOf hi E = L2)) (HG : Hid (aligned L2 = G))
    (HS : Hid (L1.length ≤ 1099511627776 ∧ M.length ≤ 1099511627776 ∧ L2.length ≤ 1099511627776 ∧ G.length ≤ 1099511627776 ∧ True))
    (HZ : Hid (bytesAt G 0 (G.length / 8 - 0) = zs)) (HZL : Hid (zs.length = m)) (e15 : ((a1 : Int) + (K : Int) + 7) / 8 = (m : Int)) (bm : m ≤ 9) (HZB : Hid ((∀ x ∈ zs, x < 256) ∧ zs.length ≤ 34359738368)) (HBG : Hid (bitsOfBytes zs = G))
    (HI : Hid (0 + a1 ≤ G.length ∧ a1 + K ≤ G.length ∧ a1 + C ≤ G.length ∧ a1 + C + E ≤ G.length ∧ a1 + C + E = a1 + K))
    (HV : Hid (numAt G a1 K = N1 ∧ numAt G a1 C = lo ∧ numAt G (a1 + C) E = hi))
    (e16 : IntKind.u64.wrap ((hi : Int) * 2 ^ C) = (HC : Int)) (e17 : bits .or .u64 (lo : Int) (HC : Int) = (N1 : Int)) :
    Calls Try.prog 8 #[.int .u32 (A : Int), .int .u32 (N : Int), .int .u8 a, .int .u8 k, .int .u8 cut] W fun e w' => e = .returned (.bool true) ∧ Below W.heap.size W w' := by
  have KA := Lib.hid kA; have KN := Lib.hid kN; have KL := Lib.hid kl; have KH := Lib.hid kh
  clear kA kN kl kh
  have hb := Below.refl W.heap.size W
  go_enter Try.func8, Try.ntmps8
  go_wp2_with fail
  simp only [e1, e2, e3]
  go_wp2_with fail
  go_at_call 10
  refine (D.wnew W).mono ?_
  rintro e w1 ⟨v_w, Ow1, rfl, h_w, o0, hn⟩
  have o_w : ∀ k, Ow1 k → W.heap.size ≤ k := fun k hk => Nat.le_trans hb.size (o0 k hk)
  have hb' := hb.trans (hn.mono hb.size)
  clear o0 hn
  clear hb
  have hb := hb'; clear hb'
  go_wp2_with fail
  go_at_call 10
  refine (D.wnew w1).mono ?_
  rintro e w2 ⟨v_v, Ov1, rfl, h_v, o0, hn⟩
  have t_w := D.wlt _ _ _ _ _ h_w
  have d_w_v : ∀ k, Ow1 k → ¬ Ov1 k := fun k hk hi => absurd (t_w k hk) (Nat.not_lt.mpr (o0 k hi))
  have h_w' := D.wkeep _ _ _ _ _ _ h_w hn.size (fun k hk => hn.block k (t_w k hk))
  have o_v : ∀ k, Ov1 k → W.heap.size ≤ k := fun k hk => Nat.le_trans hb.size (o0 k hk)
  have hb' := hb.trans (hn.mono hb.size)
  clear o0 hn t_w
  clear h_w hb
  have h_w := h_w'; clear h_w'
  have hb := hb'; clear hb'
  go_wp2_with fail
  go_at_call 11
  refine (D.put w2 v_w [] 0 Ow1 A1 a1 h_w (by decide) ka KA.out).mono ?_
  rintro e w3 ⟨Ow2, rfl, h_w', hsub, hp⟩
  rw [HL1.out] at h_w'
  have t_v := D.wlt _ _ _ _ _ h_v
  have d_w_v' := apart_from d_w_v hsub t_v
  have h_v' := D.wkeep _ _ _ _ _ _ h_v hp.size (fun k hk => hp.block k (t_v k hk) (fun ho => d_w_v k ho hk))
  have o_w' := grow_from o_w hsub hb.size
  have hb' := hb.trans (hp.below o_w hb.size)
  clear hsub hp t_v
  clear h_w d_w_v h_v o_w hb
  have h_w := h_w'; clear h_w'
  have d_w_v := d_w_v'; clear d_w_v'
  have h_v := h_v'; clear h_v'
  have o_w := o_w'; clear o_w'
  have hb := hb'; clear hb'
  go_wp2_with fail
  go_at_call 11
  refine (D.put w3 v_v [] 0 Ov1 A1 a1 h_v (by decide) ka KA.out).mono ?_
  rintro e w4 ⟨Ov2, rfl, h_v', hsub, hp⟩
  rw [HL1.out] at h_v'
  have t_w := D.wlt _ _ _ _ _ h_w
  have d_w_v' := flip_from d_w_v hsub t_w
  have h_w' := D.wkeep _ _ _ _ _ _ h_w hp.size (fun k hk => hp.block k (t_w k hk) (fun ho => d_w_v k hk ho))
  have o_v' := grow_from o_v hsub hb.size
  have hb' := hb.trans (hp.below o_v hb.size)
  clear hsub hp t_w
  clear h_v d_w_v h_w o_v hb
  have h_v := h_v'; clear h_v'
  have d_w_v := d_w_v'; clear d_w_v'
  have h_w := h_w'; clear h_w'
  have o_v := o_v'; clear o_v'
  have hb := hb'; clear hb'
  go_wp2_with fail
  go_at_call 11
  refine (D.put w4 v_w L1 0 Ow2 N1 K h_w HS.out.1 kk KN.out).mono ?_
  rintro e w5 ⟨Ow3, rfl, h_w', hsub, hp⟩
  rw [HL2.out] at h_w'
  have t_v := D.wlt _ _ _ _ _ h_v
  have d_w_v' := apart_from d_w_v hsub t_v
  have h_v' := D.wkeep _ _ _ _ _ _ h_v hp.size (fun k hk => hp.block k (t_v k hk) (fun ho => d_w_v k ho hk))
  have o_w' := grow_from o_w hsub hb.size
  have hb' := hb.trans (hp.below o_w hb.size)
  clear hsub hp t_v
  clear h_w d_w_v h_v o_w hb
  have h_w := h_w'; clear h_w'
  have d_w_v := d_w_v'; clear d_w_v'
  have h_v := h_v'; clear h_v'
  have o_w := o_w'; clear o_w'
  have hb := hb'; clear hb'
  go_wp2_with fail
  go_at_call 11
  refine (D.put w5 v_v L1 0 Ov2 lo C h_v HS.out.1 kc KL.out).mono ?_
  rintro e w6 ⟨Ov3, rfl, h_v', hsub, hp⟩
  rw [HM.out] at h_v'
  have t_w := D.wlt _ _ _ _ _ h_w
  have d_w_v' := flip_from d_w_v hsub t_w
  have h_w' := D.wkeep _ _ _ _ _ _ h_w hp.size (fun k hk => hp.block k (t_w k hk) (fun ho => d_w_v k hk ho))
  have o_v' := grow_from o_v hsub hb.size
  have hb' := hb.trans (hp.below o_v hb.size)
  clear hsub hp t_w
  clear h_v d_w_v h_w o_v hb
  have h_v := h_v'; clear h_v'
  have d_w_v := d_w_v'; clear d_w_v'
  have h_w := h_w'; clear h_w'
  have o_v := o_v'; clear o_v'
  have hb := hb'; clear hb'
  go_wp2_with fail
  go_at_call 11
  refine (D.put w6 v_v M 0 Ov3 hi E h_v HS.out.2.1 ke KH.out).mono ?_
  rintro e w7 ⟨Ov4, rfl, h_v', hsub, hp⟩
  rw [HN.out] at h_v'
  have t_w := D.wlt _ _ _ _ _ h_w
  have d_w_v' := flip_from d_w_v hsub t_w
  have h_w' := D.wkeep _ _ _ _ _ _ h_w hp.size (fun k hk => hp.block k (t_w k hk) (fun ho => d_w_v k hk ho))
  have o_v' := grow_from o_v hsub hb.size
  have hb' := hb.trans (hp.below o_v hb.size)
  clear hsub hp t_w
  clear h_v d_w_v h_w o_v hb
  have h_v := h_v'; clear h_v'
  have d_w_v := d_w_v'; clear d_w_v'
  have h_w := h_w'; clear h_w'
  have o_v := o_v'; clear o_v'
  have hb := hb'; clear hb'
  go_wp2_with fail
  go_at_call 14
  refine (D.align w7 v_w L2 0 Ow3 h_w HS.out.2.2.1).mono ?_
  rintro e w8 ⟨Ow4, rfl, h_w', hsub, hp⟩
  rw [HG.out] at h_w'
  have t_v := D.wlt _ _ _ _ _ h_v
  have d_w_v' := apart_from d_w_v hsub t_v
  have h_v' := D.wkeep _ _ _ _ _ _ h_v hp.size (fun k hk => hp.block k (t_v k hk) (fun ho => d_w_v k ho hk))
  have o_w' := grow_from o_w hsub hb.size
  have hb' := hb.trans (hp.below o_w hb.size)
  clear hsub hp t_v
  clear h_w d_w_v h_v o_w hb
  have h_w := h_w'; clear h_w'
  have d_w_v := d_w_v'; clear d_w_v'
  have h_v := h_v'; clear h_v'
  have o_w := o_w'; clear o_w'
  have hb := hb'; clear hb'
  go_wp2_with fail
  go_at_call 14
  refine (D.align w8 v_v L2 0 Ov4 h_v HS.out.2.2.1).mono ?_
  rintro e w9 ⟨Ov5, rfl, h_v', hsub, hp⟩
  rw [HG.out] at h_v'
  have t_w := D.wlt _ _ _ _ _ h_w
  have d_w_v' := flip_from d_w_v hsub t_w
  have h_w' := D.wkeep _ _ _ _ _ _ h_w hp.size (fun k hk => hp.block k (t_w k hk) (fun ho => d_w_v k hk ho))
  have o_v' := grow_from o_v hsub hb.size
  have hb' := hb.trans (hp.below o_v hb.size)
  clear hsub hp t_w
  clear h_v d_w_v h_w o_v hb
  have h_v := h_v'; clear h_v'
  have d_w_v := d_w_v'; clear d_w_v'
  have h_w := h_w'; clear h_w'
  have o_v := o_v'; clear o_v'
  have hb := hb'; clear hb'
  go_wp2_with fail
  go_at_call 13
  refine (D.take w9 v_w G 0 Ow4 h_w HS.out.2.2.2.1 (Nat.zero_le _)).mono ?_
  rintro e w10 ⟨v_b, Ow5, rfl, l_b', f0, h_w', hsub, hp⟩
  have t_v := D.wlt _ _ _ _ _ h_v
  have d_w_v' := apart_from d_w_v hsub t_v
  have h_v' := D.wkeep _ _ _ _ _ _ h_v hp.size (fun k hk => hp.block k (t_v k hk) (fun ho => d_w_v k ho hk))
  have e_v_b : ∀ k, Ov5 k → ¬ inBlock v_b k := fun k hk hi => (f0 k hi).1.elim (fun h => d_w_v k h hk) (fun h => absurd (t_v k hk) (Nat.not_lt.mpr h))
  have e_w_b : ∀ k, Ow5 k → ¬ inBlock v_b k := fun k hk hi => (f0 k hi).2 hk
  clear f0
  rw [HZ.out] at l_b'
  have l_b := l_b'; clear l_b'
  have o_w' := grow_from o_w hsub hb.size
  have hb' := hb.trans (hp.below o_w hb.size)
  clear hsub hp t_v
  clear h_w d_w_v h_v o_w hb
  have h_w := h_w'; clear h_w'
  have d_w_v := d_w_v'; clear d_w_v'
  have h_v := h_v'; clear h_v'
  have o_w := o_w'; clear o_w'
  have hb := hb'; clear hb'
  go_wp2_with fail
  go_at_call 13
  refine (D.take w10 v_v G 0 Ov5 h_v HS.out.2.2.2.1 (Nat.zero_le _)).mono ?_
  rintro e w11 ⟨v_c, Ov6, rfl, l_c', f0, h_v', hsub, hp⟩
  have t_w := D.wlt _ _ _ _ _ h_w
  have d_w_v' := flip_from d_w_v hsub t_w
  have h_w' := D.wkeep _ _ _ _ _ _ h_w hp.size (fun k hk => hp.block k (t_w k hk) (fun ho => d_w_v k hk ho))
  have e_w_c : ∀ k, Ow5 k → ¬ inBlock v_c k := fun k hk hi => (f0 k hi).1.elim (fun h => d_w_v k hk h) (fun h => absurd (t_w k hk) (Nat.not_lt.mpr h))
  have e_v_b' := apart_from (R := inBlock v_b) e_v_b hsub (listed_in l_b)
  have l_b' := listed_past l_b hp (fun b hb ho => e_v_b b ho hb)
  have e_v_c : ∀ k, Ov6 k → ¬ inBlock v_c k := fun k hk hi => (f0 k hi).2 hk
  clear f0
  rw [HZ.out] at l_c'
  have l_c := l_c'; clear l_c'
  have o_v' := grow_from o_v hsub hb.size
  have hb' := hb.trans (hp.below o_v hb.size)
  clear hsub hp t_w
  clear h_v d_w_v h_w e_v_b l_b o_v hb
  have h_v := h_v'; clear h_v'
  have d_w_v := d_w_v'; clear d_w_v'
  have h_w := h_w'; clear h_w'
  have e_v_b := e_v_b'; clear e_v_b'
  have l_b := l_b'; clear l_b'
  have o_v := o_v'; clear o_v'
  have hb := hb'; clear hb'
  go_wp2_with fail
  go_at_call 15
  refine (same_listed v_b v_c zs w11 l_b l_c).mono ?_
  rintro e w' ⟨rfl, rfl⟩
  clear l_c e_w_c e_v_c
  go_wp2_with fail
  go_at_call 12
  refine (D.bits w11 v_w G _ Ow5 h_w).mono ?_
  rintro e w12 ⟨Ow6, rfl, h_w', hsub, hp⟩
  have t_v := D.wlt _ _ _ _ _ h_v
  have d_w_v' := apart_from d_w_v hsub t_v
  have h_v' := D.wkeep _ _ _ _ _ _ h_v hp.size (fun k hk => hp.block k (t_v k hk) (fun ho => d_w_v k ho hk))
  have e_w_b' := apart_from (R := inBlock v_b) e_w_b hsub (listed_in l_b)
  have l_b' := listed_past l_b hp (fun b hb ho => e_w_b b ho hb)
  have o_w' := grow_from o_w hsub hb.size
  have hb' := hb.trans (hp.below o_w hb.size)
  clear hsub hp t_v
  clear h_w d_w_v h_v e_w_b l_b o_w hb
  have h_w := h_w'; clear h_w'
  have d_w_v := d_w_v'; clear d_w_v'
  have h_v := h_v'; clear h_v'
  have e_w_b := e_w_b'; clear e_w_b'
  have l_b := l_b'; clear l_b'
  have o_w := o_w'; clear o_w'
  have hb := hb'; clear hb'
  go_wp2_with fail
  go_at_call 12
  refine (D.bits w12 v_v G _ Ov6 h_v).mono ?_
  rintro e w13 ⟨Ov7, rfl, h_v', hsub, hp⟩
  have t_w := D.wlt _ _ _ _ _ h_w
  have d_w_v' := flip_from d_w_v hsub t_w
  have h_w' := D.wkeep _ _ _ _ _ _ h_w hp.size (fun k hk => hp.block k (t_w k hk) (fun ho => d_w_v k hk ho))
  have e_v_b' := apart_from (R := inBlock v_b) e_v_b hsub (listed_in l_b)
  have l_b' := listed_past l_b hp (fun b hb ho => e_v_b b ho hb)
  have o_v' := grow_from o_v hsub hb.size
  have hb' := hb.trans (hp.below o_v hb.size)
  clear hsub hp t_w
  clear h_v d_w_v h_w e_v_b l_b o_v hb
  have h_v := h_v'; clear h_v'
  have d_w_v := d_w_v'; clear d_w_v'
  have h_w := h_w'; clear h_w'
  have e_v_b := e_v_b'; clear e_v_b'
  have l_b := l_b'; clear l_b'
  have o_v := o_v'; clear o_v'
  have hb := hb'; clear hb'
  clear h_w o_w d_w_v e_w_b
  clear h_v o_v e_v_b
  have hlen := listed_len (P := Try.prog) (t := 28) (u := 3) rfl l_b
  rw [HZL.out] at hlen
  go_wp2_with fail
  go_at_call 16
  refine (D.rnew w13 v_b zs l_b HZB.out.1 HZB.out.2).mono ?_
  rintro e w14 ⟨v_r, Or1, rfl, h_r, o0, hn⟩
  rw [HBG.out] at h_r
  clear hlen
  have e_r_b : ∀ k, Or1 k → ¬ inBlock v_b k := fun k hk hi => absurd (listed_in l_b k hi) (Nat.not_lt.mpr (o0 k hk))
  have l_b' := listed_on l_b hn
  have o_r : ∀ k, Or1 k → W.heap.size ≤ k := fun k hk => Nat.le_trans hb.size (o0 k hk)
  have hb' := hb.trans (hn.mono hb.size)
  clear o0 hn
  clear l_b hb
  have l_b := l_b'; clear l_b'
  have hb := hb'; clear hb'
  go_wp2_with fail
  go_at_call 16
  refine (D.rnew w14 v_b zs l_b HZB.out.1 HZB.out.2).mono ?_
  rintro e w15 ⟨v_s, Os1, rfl, h_s, o0, hn⟩
  rw [HBG.out] at h_s
  have t_r := D.rlt _ _ _ _ _ h_r
  have d_r_s : ∀ k, Or1 k → ¬ Os1 k := fun k hk hi => absurd (t_r k hk) (Nat.not_lt.mpr (o0 k hi))
  have h_r' := D.rkeep _ _ _ _ _ _ h_r hn.size (fun k hk => hn.block k (t_r k hk))
  have e_s_b : ∀ k, Os1 k → ¬ inBlock v_b k := fun k hk hi => absurd (listed_in l_b k hi) (Nat.not_lt.mpr (o0 k hk))
  have l_b' := listed_on l_b hn
  have o_s : ∀ k, Os1 k → W.heap.size ≤ k := fun k hk => Nat.le_trans hb.size (o0 k hk)
  have hb' := hb.trans (hn.mono hb.size)
  clear o0 hn t_r
  clear h_r l_b hb
  have h_r := h_r'; clear h_r'
  have l_b := l_b'; clear l_b'
  have hb := hb'; clear hb'
  clear l_b e_r_b e_s_b
  go_wp2_with fail
  go_at_call 17
  refine (D.get w15 v_r G 0 Or1 a1 h_r ka HI.out.1 HS.out.2.2.2.1).mono ?_
  rintro e w16 ⟨Or2, rfl, h_r', hsub, hp⟩
  rw [Nat.zero_add] at h_r'
  have t_s := D.rlt _ _ _ _ _ h_s
  have d_r_s' := apart_from d_r_s hsub t_s
  have h_s' := D.rkeep _ _ _ _ _ _ h_s hp.size (fun k hk => hp.block k (t_s k hk) (fun ho => d_r_s k ho hk))
  have o_r' := grow_from o_r hsub hb.size
  have hb' := hb.trans (hp.below o_r hb.size)
  clear hsub hp t_s
  clear h_r d_r_s h_s o_r hb
  have h_r := h_r'; clear h_r'
  have d_r_s := d_r_s'; clear d_r_s'
  have h_s := h_s'; clear h_s'
  have o_r := o_r'; clear o_r'
  have hb := hb'; clear hb'
  go_wp2_with fail
  go_at_call 17
  refine (D.get w16 v_s G 0 Os1 a1 h_s ka HI.out.1 HS.out.2.2.2.1).mono ?_
  rintro e w17 ⟨Os2, rfl, h_s', hsub, hp⟩
  rw [Nat.zero_add] at h_s'
  have t_r := D.rlt _ _ _ _ _ h_r
  have d_r_s' := flip_from d_r_s hsub t_r
  have h_r' := D.rkeep _ _ _ _ _ _ h_r hp.size (fun k hk => hp.block k (t_r k hk) (fun ho => d_r_s k hk ho))
  have o_s' := grow_from o_s hsub hb.size
  have hb' := hb.trans (hp.below o_s hb.size)
  clear hsub hp t_r
  clear h_s d_r_s h_r o_s hb
  have h_s := h_s'; clear h_s'
  have d_r_s := d_r_s'; clear d_r_s'
  have h_r := h_r'; clear h_r'
  have o_s := o_s'; clear o_s'
  have hb := hb'; clear hb'
  go_wp2_with fail
  go_at_call 17
  refine (D.get w17 v_r G a1 Or2 K h_r kk HI.out.2.1 HS.out.2.2.2.1).mono ?_
  rintro e w18 ⟨Or3, rfl, h_r', hsub, hp⟩
  rw [HV.out.1]
  have t_s := D.rlt _ _ _ _ _ h_s
  have d_r_s' := apart_from d_r_s hsub t_s
  have h_s' := D.rkeep _ _ _ _ _ _ h_s hp.size (fun k hk => hp.block k (t_s k hk) (fun ho => d_r_s k ho hk))
  have o_r' := grow_from o_r hsub hb.size
  have hb' := hb.trans (hp.below o_r hb.size)
  clear hsub hp t_s
  clear h_r d_r_s h_s o_r hb
  have h_r := h_r'; clear h_r'
  have d_r_s := d_r_s'; clear d_r_s'
  have h_s := h_s'; clear h_s'
  have o_r := o_r'; clear o_r'
  have hb := hb'; clear hb'
  go_wp2_with fail
  go_at_call 17
  refine (D.get w18 v_s G a1 Os2 C h_s kc HI.out.2.2.1 HS.out.2.2.2.1).mono ?_
  rintro e w19 ⟨Os3, rfl, h_s', hsub, hp⟩
  rw [HV.out.2.1]
  have t_r := D.rlt _ _ _ _ _ h_r
  have d_r_s' := flip_from d_r_s hsub t_r
  have h_r' := D.rkeep _ _ _ _ _ _ h_r hp.size (fun k hk => hp.block k (t_r k hk) (fun ho => d_r_s k hk ho))
  have o_s' := grow_from o_s hsub hb.size
  have hb' := hb.trans (hp.below o_s hb.size)
  clear hsub hp t_r
  clear h_s d_r_s h_r o_s hb
  have h_s := h_s'; clear h_s'
  have d_r_s := d_r_s'; clear d_r_s'
  have h_r := h_r'; clear h_r'
  have o_s := o_s'; clear o_s'
  have hb := hb'; clear hb'
  go_wp2_with fail
  go_at_call 17
  refine (D.get w19 v_s G (a1 + C) Os3 E h_s ke HI.out.2.2.2.1 HS.out.2.2.2.1).mono ?_
  rintro e w20 ⟨Os4, rfl, h_s', hsub, hp⟩
  rw [HV.out.2.2]
  have t_r := D.rlt _ _ _ _ _ h_r
  have d_r_s' := flip_from d_r_s hsub t_r
  have h_r' := D.rkeep _ _ _ _ _ _ h_r hp.size (fun k hk => hp.block k (t_r k hk) (fun ho => d_r_s k hk ho))
  have o_s' := grow_from o_s hsub hb.size
  have hb' := hb.trans (hp.below o_s hb.size)
  clear hsub hp t_r
  clear h_s d_r_s h_r o_s hb
  have h_s := h_s'; clear h_s'
  have d_r_s := d_r_s'; clear d_r_s'
  have h_r := h_r'; clear h_r'
  have o_s := o_s'; clear o_s'
  have hb := hb'; clear hb'
  go_wp2_with fail
  go_at_call 19
  refine (D.place w20 v_r G _ Or3 h_r).mono ?_
  rintro e w21 ⟨Or4, rfl, h_r', hsub, hp⟩
  have t_s := D.rlt _ _ _ _ _ h_s
  have d_r_s' := apart_from d_r_s hsub t_s
  have h_s' := D.rkeep _ _ _ _ _ _ h_s hp.size (fun k hk => hp.block k (t_s k hk) (fun ho => d_r_s k ho hk))
  have o_r' := grow_from o_r hsub hb.size
  have hb' := hb.trans (hp.below o_r hb.size)
  clear hsub hp t_s
  clear h_r d_r_s h_s o_r hb
  have h_r := h_r'; clear h_r'
  have d_r_s := d_r_s'; clear d_r_s'
  have h_s := h_s'; clear h_s'
  have o_r := o_r'; clear o_r'
  have hb := hb'; clear hb'
  go_wp2_with fail
  go_at_call 19
  refine (D.place w21 v_s G _ Os4 h_s).mono ?_
  rintro e w22 ⟨Os5, rfl, h_s', hsub, hp⟩
  rw [HI.out.2.2.2.2]
  have t_r := D.rlt _ _ _ _ _ h_r
  have d_r_s' := flip_from d_r_s hsub t_r
  have h_r' := D.rkeep _ _ _ _ _ _ h_r hp.size (fun k hk => hp.block k (t_r k hk) (fun ho => d_r_s k hk ho))
  have o_s' := grow_from o_s hsub hb.size
  have hb' := hb.trans (hp.below o_s hb.size)
  clear hsub hp t_r
  clear h_s d_r_s h_r o_s hb
  have h_s := h_s'; clear h_s'
  have d_r_s := d_r_s'; clear d_r_s'
  have h_r := h_r'; clear h_r'
  have o_s := o_s'; clear o_s'
  have hb := hb'; clear hb'
  clear h_r o_r d_r_s
  clear h_s o_s
  go_wp2_with fail
  go_at_call 20
  refine (awake_any D w22).mono ?_
  rintro e w23 ⟨rfl, hn⟩
  have hb' := hb.trans (hn.mono hb.size)
  clear hn
  clear hb
  have hb := hb'; clear hb'
  go_wp2_with fail
  all_goals (go_ret; exact ⟨rfl, hb⟩)
end Go.Proofs.Ytenaokijjancgaa.Fx
