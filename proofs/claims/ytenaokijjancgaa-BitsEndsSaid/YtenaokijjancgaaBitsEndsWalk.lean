/-
  The walk of BitsEnds, over what the calls do. The conditions are the numbers' bounds, and that the list reads as bytes.
-/
import Derived.Test.YtenaokijjancgaaBitsA
namespace Go.Proofs.Ytenaokijjancgaa.Fx
open Go Go.RowKit Go.Joins
set_option linter.unusedVariables false
theorem numAt_mid' (p q : List Bool) (n k : Nat) (h : n < 2 ^ k) : numAt (p ++ bitsOf n k ++ q) p.length k = n := by
  unfold numAt
  rw [List.append_assoc, List.drop_left, List.take_append_of_le_length (by rw [bitsOf_length]; exact Nat.le_refl _), List.take_of_length_le (by rw [bitsOf_length]; exact Nat.le_refl _), numOf_small n k h]
theorem numAt_whole (zs : List Nat) (p z : Nat) (hz : zs[p]? = some z) (h8 : ∀ x ∈ zs, x < 256) : numAt (bitsOfBytes zs) (8 * p) 8 = z := by
  obtain ⟨hp, he⟩ := List.getElem?_eq_some_iff.mp hz
  have hmem : z ∈ zs := he ▸ List.getElem_mem hp
  have hs : bitsOfBytes zs = bitsOfBytes (zs.take p) ++ bitsOf z 8 ++ bitsOfBytes (zs.drop (p + 1)) := by
    have h1 : zs = zs.take p ++ (z :: zs.drop (p + 1)) := by rw [← he, ← List.drop_eq_getElem_cons hp, List.take_append_drop]
    have h2 : bitsOfBytes zs = bitsOfBytes (zs.take p ++ (z :: zs.drop (p + 1))) := congrArg bitsOfBytes h1
    rw [h2]
    unfold bitsOfBytes
    rw [List.flatMap_append, List.flatMap_cons, List.append_assoc]
  have hl : (bitsOfBytes (zs.take p)).length = 8 * p := by rw [bitsOfBytes_length, List.length_take, Nat.min_eq_left (Nat.le_of_lt hp)]
  rw [hs, ← hl]
  exact numAt_mid' _ _ z 8 (h8 z hmem)
/-- A reader of a walk's own. -/
def Solo (isR : World → Value → List Bool → Nat → (Nat → Prop) → Prop) (W w : World) (v : Value) (l : List Bool) (t : Nat) : Prop := ∃ O, isR w v l t O ∧ (∀ k, O k → W.heap.size ≤ k) ∧ Below W.heap.size W w
theorem Solo.below {isR : World → Value → List Bool → Nat → (Nat → Prop) → Prop} {W w : World} {v : Value} {l : List Bool} {t : Nat} (h : Solo isR W w v l t) : Below W.heap.size W w := h.choose_spec.2.2
section
variable {isW isR : World → Value → List Bool → Nat → (Nat → Prop) → Prop} (D : Does isW isR)
include D
theorem solo_new {W : World} {b : Value} {zs : List Nat} (h : bytesIn W b zs) (h8 : ∀ x ∈ zs, x < 256) (hl : zs.length ≤ 34359738368) :
    Calls Try.prog 16 #[b] W fun e w' => ∃ v, e = .returned v ∧ Solo isR W w' v (bitsOfBytes zs) 0 := by
  refine (D.rnew W b zs h h8 hl).mono ?_
  rintro e w' ⟨v, O, rfl, hr, ho, hb⟩
  exact ⟨v, rfl, O, hr, ho, hb⟩
theorem solo_get {W w : World} {v : Value} {l : List Bool} {t : Nat} (h : Solo isR W w v l t) (k : Nat) (hk : k ≤ 32) (ht : t + k ≤ l.length) (hl : l.length ≤ 1099511627776) :
    Calls Try.prog 17 #[v, .int .i64 (k : Int)] w fun e w' => e = .returned (.tuple #[.int .u32 (numAt l t k : Nat), .int .i64 0]) ∧ Solo isR W w' v l (t + k) := by
  obtain ⟨O, hr, ho, hb⟩ := h
  refine (D.get w v l t O k hr hk ht hl).mono ?_
  rintro e w' ⟨O', rfl, hr', hsub, hp⟩
  exact ⟨rfl, O', hr', grow_from ho hsub hb.size, hb.trans (hp.below ho hb.size)⟩
theorem solo_short {W w : World} {v : Value} {l : List Bool} {t : Nat} (h : Solo isR W w v l t) (k : Nat) (hk : k ≤ 32) (ht : l.length < t + k) (hl : l.length ≤ 1099511627776) :
    Calls Try.prog 17 #[v, .int .i64 (k : Int)] w fun e w' => e = .returned (.tuple #[.int .u32 0, .int .i64 12]) ∧ Solo isR W w' v l (t) := by
  obtain ⟨O, hr, ho, hb⟩ := h
  refine (D.getShort w v l t O k hr hk ht hl).mono ?_
  rintro e w' ⟨O', rfl, hr', hsub, hp⟩
  exact ⟨rfl, O', hr', grow_from ho hsub hb.size, hb.trans (hp.below ho hb.size)⟩
theorem solo_align {W w : World} {v : Value} {l : List Bool} {t : Nat} (h : Solo isR W w v l t) (hl : l.length ≤ 1099511627776) (ht : t ≤ l.length) :
    Calls Try.prog 18 #[v] w fun e w' => e = .returned (.int .i64 0) ∧ Solo isR W w' v l ((t + 7) / 8 * 8) := by
  obtain ⟨O, hr, ho, hb⟩ := h
  refine (D.ralign w v l t O hr hl ht).mono ?_
  rintro e w' ⟨O', rfl, hr', hsub, hp⟩
  exact ⟨rfl, O', hr', grow_from ho hsub hb.size, hb.trans (hp.below ho hb.size)⟩
theorem solo_at {W w : World} {v : Value} {l : List Bool} {t : Nat} (h : Solo isR W w v l t)  :
    Calls Try.prog 19 #[v] w fun e w' => e = .returned (.int .i64 (t : Int)) ∧ Solo isR W w' v l (t) := by
  obtain ⟨O, hr, ho, hb⟩ := h
  refine (D.place w v l t O hr).mono ?_
  rintro e w' ⟨O', rfl, hr', hsub, hp⟩
  exact ⟨rfl, O', hr', grow_from ho hsub hb.size, hb.trans (hp.below ho hb.size)⟩
end
def stepOf : Value → Nat
  | .int _ x => 31 - x.toNat / 8
  | _ => 32
set_option maxHeartbeats 4000000 in
set_option maxRecDepth 100000 in
theorem ends_row {isW isR : World → Value → List Bool → Nat → (Nat → Prop) → Prop} (D : Does isW isR) (W : World) (v : Value) (zs : List Nat) (n B T K : Nat) (more : Int) (F : List Bool) (hr : bytesIn W v zs) (h8 : ∀ x ∈ zs, x < 256) (hn : zs.length = n) (b30 : n ≤ 30) (eB : 8 * (n : Int) = (B : Int)) (bT : T ≤ 255) (hm : 0 ≤ more ∧ more ≤ 255) (eK : more % 33 = (K : Int)) (bK : K ≤ 32)
    (hF : bitsOfBytes zs = F) (hL : F.length = B) :
    Calls Try.prog 9 #[v, .int .u8 (T : Int), .int .u8 more] W fun e w' => e = .returned (.bool true) ∧ Below W.heap.size W w' := by
  have hlen := fun w => listed_len (u := 3) Try.underlying28 hr w
  rw [hn] at hlen
  have bB : B ≤ 240 := by omega
  have hd0 : decide ((30 : Int) < (n : Int)) = false := decide_eq_false (by omega)
  have HR := Lib.hid hr
  have H8 := Lib.hid h8
  have HN := Lib.hid hn
  have HF := Lib.hid hF
  have HL : Hid (F.length = B) := hL
  have HL1 : Hid (F.length ≤ 1099511627776) := by show _ ≤ _; omega
  clear hr h8 hn hF hL
  go_enter Try.func9, Try.ntmps9
  go_wp2_with fail
  go_at_call 16
  refine (solo_new D HR.out H8.out (by rw [HN.out]; omega)).mono ?_
  rintro e w1 ⟨r, rfl, hs⟩
  rw [HF.out] at hs
  go_wp2_with fail
  go_loopw [8, 9] (fun a i wr => ∃ j : Nat, j ≤ T ∧ j ≤ B ∧ a = .int .i64 j ∧ i = .int .i64 j ∧ Solo isR W wr r F j) (fun a _ _ => B - (intOf a).toNat)
  case atStart => exact ⟨0, Nat.zero_le _, Nat.zero_le _, rfl, rfl, hs⟩
  case round =>
    clear hs
    obtain ⟨j, hjT, hjB, rfl, rfl, hs⟩ := hrel
    by_cases h1 : j < T
    · have hd1 : decide ((j : Int) < (T : Int)) = true := decide_eq_true (by omega)
      by_cases h2 : j < B
      · have hd2 : decide ((j : Int) < (B : Int)) = true := decide_eq_true (by omega)
        go_wp2_with fail
        go_at_call 17
        refine (solo_get D hs 1 (by decide) (by rw [HL.out]; omega) HL1.out).mono ?_
        clear hs
        rintro e w2 ⟨rfl, hs⟩
        generalize numAt F j 1 = z
        go_wp2_with fail
        go_roundw
        case rel => exact ⟨j + 1, by omega, by omega, by go_num, by go_num, hs⟩
        case measure => simp [intOf]; omega
      · have hd2 : decide ((j : Int) < (B : Int)) = false := decide_eq_false (by omega)
        go_wp2_with fail
        simp only [eK]
        by_cases hk : j + K ≤ B
        · have hd3 : decide ((K : Int) ≤ (B : Int) - (j : Int)) = true := decide_eq_true (by omega)
          go_at_call 17
          refine (solo_get D hs K bK (by rw [HL.out]; exact hk) HL1.out).mono ?_
          clear hs
          rintro e w' ⟨rfl, hs⟩
          generalize numAt F j K = z
          obtain ⟨t, ht⟩ : ∃ t : Nat, j + K = t := ⟨_, rfl⟩
          rw [ht] at hs
          have et : (j : Int) + (K : Int) = (t : Int) := by omega
          have bt : t ≤ B := by omega
          clear ht hk
          obtain ⟨q, hq⟩ : ∃ q : Nat, (t + 7) / 8 = q := ⟨_, rfl⟩
          obtain ⟨A, hA⟩ : ∃ A : Nat, q * 8 = A := ⟨_, rfl⟩
          have eq1 : ((t : Int) + 7) / 8 = (q : Int) := by omega
          have eq2 : (q : Int) * 8 = (A : Int) := by omega
          have bA : A ≤ B := by omega
          have HA : Hid ((t + 7) / 8 * 8 = A) := by show _ = _; omega
          have HA2 : Hid ((A + 7) / 8 * 8 = A) := by show _ = _; omega
          have HQ : Hid (A = 8 * q ∧ q ≤ n) := ⟨by omega, by omega⟩
          clear hq hA
          go_wp2_with fail
          go_at_call 19
          refine (solo_at D hs).mono ?_
          clear hs
          rintro e w' ⟨rfl, hs⟩
          go_wp2_with fail
          go_at_call 18
          refine (solo_align D hs HL1.out (by rw [HL.out]; omega)).mono ?_
          clear hs
          rintro e w' ⟨rfl, hs⟩
          rw [HA.out] at hs
          go_wp2_with fail
          go_at_call 19
          refine (solo_at D hs).mono ?_
          clear hs
          rintro e w' ⟨rfl, hs⟩
          go_wp2_with fail
          go_at_call 18
          refine (solo_align D hs HL1.out (by rw [HL.out]; omega)).mono ?_
          clear hs
          rintro e w' ⟨rfl, hs⟩
          rw [HA2.out] at hs
          go_wp2_with fail
          go_at_call 19
          refine (solo_at D hs).mono ?_
          clear hs
          rintro e w' ⟨rfl, hs⟩
          go_wp2_with fail
          simp only [eq1]
          clear eq1 eq2
          go_loopw [16, 17, 18] (fun a _ _ wr => ∃ p P : Nat, p ≤ n ∧ P = 8 * p ∧ (a = undef ∨ ∃ m : Nat, a = .int .i64 (m : Int) ∧ P = m + 8) ∧ Solo isR W wr r F P) (fun a _ _ _ => stepOf a)
          case atStart => exact ⟨q, A, HQ.out.2, HQ.out.1, .inl rfl, hs⟩
          case round =>
            clear hs
            obtain ⟨p, P, hp, hP, ha, hs⟩ := hrel
            have HP := Lib.hid hP
            have HA3 := Lib.hid ha
            have bP : P ≤ B := by omega
            have ePd : (P : Int) / 8 = (p : Int) := by omega
            by_cases hpn : p < n
            · have hd4 : decide ((P : Int) < (B : Int)) = true := decide_eq_true (by omega)
              have hb8 : P + 8 ≤ B := by omega
              clear hP ha
              obtain ⟨z, ez⟩ : ∃ z, zs[p]? = some z := ⟨_, List.getElem?_eq_getElem (by rw [HN.out]; exact hpn)⟩
              have HZ : Hid (numAt F P 8 = z) := by show _ = _; rw [← HF.out, HP.out]; exact numAt_whole zs p z ez H8.out
              obtain ⟨b, off, cap, ev, hlt, hcell⟩ := listed_cell HR.out p z ez
              rw [HN.out] at ev
              have HC := Lib.hid hcell
              clear hcell
              subst ev
              have bz : z < 256 := H8.out z (List.mem_of_getElem? ez)
              go_wp2_with fail
              go_at_call 19
              refine (solo_at D hs).mono ?_
              clear hs
              rintro e w' ⟨rfl, hs⟩
              go_wp2_with fail
              go_at_call 19
              refine (solo_at D hs).mono ?_
              clear hs
              rintro e w' ⟨rfl, hs⟩
              go_wp2_with fail
              go_at_call 17
              refine (solo_get D hs 8 (by decide) (by rw [HL.out]; exact hb8) HL1.out).mono ?_
              clear hs
              rintro e w' ⟨rfl, hs⟩
              rw [HZ.out]
              have hcell := (hs.below.cell (p := ⟨b, off + p, none⟩) hlt).trans HC.out
              unfold byteVal at hcell
              go_wp2_with fail
              go_roundw
              case rel => exact ⟨p + 1, P + 8, by omega, by rw [HP.out]; omega, .inr ⟨P, by go_num, rfl⟩, hs⟩
              case measure =>
                have h1 := HP.out
                rcases HA3.out with rfl | ⟨m, rfl, hm2⟩
                · simp [stepOf, undef]; omega
                · simp [stepOf]; omega
            · have hd4 : decide ((P : Int) < (B : Int)) = false := decide_eq_false (by omega)
              have hPB : P = B := by omega
              have HE : Hid (F.length < P + 1 ∧ P + 0 ≤ F.length) := ⟨by rw [HL.out]; omega, by rw [HL.out]; omega⟩
              clear hP ha hPB
              go_wp2_with fail
              go_at_call 19
              refine (solo_at D hs).mono ?_
              clear hs
              rintro e w' ⟨rfl, hs⟩
              go_wp2_with fail
              go_at_call 17
              refine (solo_short D hs 1 (by decide) HE.out.1 HL1.out).mono ?_
              clear hs
              rintro e w' ⟨rfl, hs⟩
              go_wp2_with fail
              go_at_call 17
              refine (solo_get D hs 0 (by decide) HE.out.2 HL1.out).mono ?_
              clear hs
              rintro e w' ⟨rfl, hs⟩
              rw [numAt_zero]
              go_wp2_with fail
              go_at_call 20
              refine (awake_any D _).mono ?_
              rintro e w' ⟨rfl, hw⟩
              have hb := hs.below.trans (hw.mono hs.below.size)
              clear hs hw
              go_wp2_with fail
              all_goals (go_ret; exact ⟨rfl, hb⟩)
        · have hd3 : decide ((K : Int) ≤ (B : Int) - (j : Int)) = false := decide_eq_false (by omega)
          go_at_call 17
          refine (solo_short D hs K bK (by rw [HL.out]; omega) HL1.out).mono ?_
          clear hs
          rintro e w' ⟨rfl, hs⟩
          go_wp2_with fail
          go_at_call 19
          refine (solo_at D hs).mono ?_
          clear hs
          rintro e w' ⟨rfl, hs⟩
          obtain ⟨t, ht⟩ : ∃ t : Nat, j = t := ⟨_, rfl⟩
          have bt : t ≤ B := by omega
          subst ht
          clear hk
          obtain ⟨q, hq⟩ : ∃ q : Nat, (j + 7) / 8 = q := ⟨_, rfl⟩
          obtain ⟨A, hA⟩ : ∃ A : Nat, q * 8 = A := ⟨_, rfl⟩
          have eq1 : ((j : Int) + 7) / 8 = (q : Int) := by omega
          have eq2 : (q : Int) * 8 = (A : Int) := by omega
          have bA : A ≤ B := by omega
          have HA : Hid ((j + 7) / 8 * 8 = A) := by show _ = _; omega
          have HA2 : Hid ((A + 7) / 8 * 8 = A) := by show _ = _; omega
          have HQ : Hid (A = 8 * q ∧ q ≤ n) := ⟨by omega, by omega⟩
          clear hq hA
          go_wp2_with fail
          go_at_call 19
          refine (solo_at D hs).mono ?_
          clear hs
          rintro e w' ⟨rfl, hs⟩
          go_wp2_with fail
          go_at_call 18
          refine (solo_align D hs HL1.out (by rw [HL.out]; omega)).mono ?_
          clear hs
          rintro e w' ⟨rfl, hs⟩
          rw [HA.out] at hs
          go_wp2_with fail
          go_at_call 19
          refine (solo_at D hs).mono ?_
          clear hs
          rintro e w' ⟨rfl, hs⟩
          go_wp2_with fail
          go_at_call 18
          refine (solo_align D hs HL1.out (by rw [HL.out]; omega)).mono ?_
          clear hs
          rintro e w' ⟨rfl, hs⟩
          rw [HA2.out] at hs
          go_wp2_with fail
          go_at_call 19
          refine (solo_at D hs).mono ?_
          clear hs
          rintro e w' ⟨rfl, hs⟩
          go_wp2_with fail
          simp only [eq1]
          clear eq1 eq2
          go_loopw [16, 17, 18] (fun a _ _ wr => ∃ p P : Nat, p ≤ n ∧ P = 8 * p ∧ (a = undef ∨ ∃ m : Nat, a = .int .i64 (m : Int) ∧ P = m + 8) ∧ Solo isR W wr r F P) (fun a _ _ _ => stepOf a)
          case atStart => exact ⟨q, A, HQ.out.2, HQ.out.1, .inl rfl, hs⟩
          case round =>
            clear hs
            obtain ⟨p, P, hp, hP, ha, hs⟩ := hrel
            have HP := Lib.hid hP
            have HA3 := Lib.hid ha
            have bP : P ≤ B := by omega
            have ePd : (P : Int) / 8 = (p : Int) := by omega
            by_cases hpn : p < n
            · have hd4 : decide ((P : Int) < (B : Int)) = true := decide_eq_true (by omega)
              have hb8 : P + 8 ≤ B := by omega
              clear hP ha
              obtain ⟨z, ez⟩ : ∃ z, zs[p]? = some z := ⟨_, List.getElem?_eq_getElem (by rw [HN.out]; exact hpn)⟩
              have HZ : Hid (numAt F P 8 = z) := by show _ = _; rw [← HF.out, HP.out]; exact numAt_whole zs p z ez H8.out
              obtain ⟨b, off, cap, ev, hlt, hcell⟩ := listed_cell HR.out p z ez
              rw [HN.out] at ev
              have HC := Lib.hid hcell
              clear hcell
              subst ev
              have bz : z < 256 := H8.out z (List.mem_of_getElem? ez)
              go_wp2_with fail
              go_at_call 19
              refine (solo_at D hs).mono ?_
              clear hs
              rintro e w' ⟨rfl, hs⟩
              go_wp2_with fail
              go_at_call 19
              refine (solo_at D hs).mono ?_
              clear hs
              rintro e w' ⟨rfl, hs⟩
              go_wp2_with fail
              go_at_call 17
              refine (solo_get D hs 8 (by decide) (by rw [HL.out]; exact hb8) HL1.out).mono ?_
              clear hs
              rintro e w' ⟨rfl, hs⟩
              rw [HZ.out]
              have hcell := (hs.below.cell (p := ⟨b, off + p, none⟩) hlt).trans HC.out
              unfold byteVal at hcell
              go_wp2_with fail
              go_roundw
              case rel => exact ⟨p + 1, P + 8, by omega, by rw [HP.out]; omega, .inr ⟨P, by go_num, rfl⟩, hs⟩
              case measure =>
                have h1 := HP.out
                rcases HA3.out with rfl | ⟨m, rfl, hm2⟩
                · simp [stepOf, undef]; omega
                · simp [stepOf]; omega
            · have hd4 : decide ((P : Int) < (B : Int)) = false := decide_eq_false (by omega)
              have hPB : P = B := by omega
              have HE : Hid (F.length < P + 1 ∧ P + 0 ≤ F.length) := ⟨by rw [HL.out]; omega, by rw [HL.out]; omega⟩
              clear hP ha hPB
              go_wp2_with fail
              go_at_call 19
              refine (solo_at D hs).mono ?_
              clear hs
              rintro e w' ⟨rfl, hs⟩
              go_wp2_with fail
              go_at_call 17
              refine (solo_short D hs 1 (by decide) HE.out.1 HL1.out).mono ?_
              clear hs
              rintro e w' ⟨rfl, hs⟩
              go_wp2_with fail
              go_at_call 17
              refine (solo_get D hs 0 (by decide) HE.out.2 HL1.out).mono ?_
              clear hs
              rintro e w' ⟨rfl, hs⟩
              rw [numAt_zero]
              go_wp2_with fail
              go_at_call 20
              refine (awake_any D _).mono ?_
              rintro e w' ⟨rfl, hw⟩
              have hb := hs.below.trans (hw.mono hs.below.size)
              clear hs hw
              go_wp2_with fail
              all_goals (go_ret; exact ⟨rfl, hb⟩)
    · have hd1 : decide ((j : Int) < (T : Int)) = false := decide_eq_false (by omega)
      go_wp2_with fail
      simp only [eK]
      by_cases hk : j + K ≤ B
      · have hd3 : decide ((K : Int) ≤ (B : Int) - (j : Int)) = true := decide_eq_true (by omega)
        go_at_call 17
        refine (solo_get D hs K bK (by rw [HL.out]; exact hk) HL1.out).mono ?_
        clear hs
        rintro e w' ⟨rfl, hs⟩
        generalize numAt F j K = z
        obtain ⟨t, ht⟩ : ∃ t : Nat, j + K = t := ⟨_, rfl⟩
        rw [ht] at hs
        have et : (j : Int) + (K : Int) = (t : Int) := by omega
        have bt : t ≤ B := by omega
        clear ht hk
        obtain ⟨q, hq⟩ : ∃ q : Nat, (t + 7) / 8 = q := ⟨_, rfl⟩
        obtain ⟨A, hA⟩ : ∃ A : Nat, q * 8 = A := ⟨_, rfl⟩
        have eq1 : ((t : Int) + 7) / 8 = (q : Int) := by omega
        have eq2 : (q : Int) * 8 = (A : Int) := by omega
        have bA : A ≤ B := by omega
        have HA : Hid ((t + 7) / 8 * 8 = A) := by show _ = _; omega
        have HA2 : Hid ((A + 7) / 8 * 8 = A) := by show _ = _; omega
        have HQ : Hid (A = 8 * q ∧ q ≤ n) := ⟨by omega, by omega⟩
        clear hq hA
        go_wp2_with fail
        go_at_call 19
        refine (solo_at D hs).mono ?_
        clear hs
        rintro e w' ⟨rfl, hs⟩
        go_wp2_with fail
        go_at_call 18
        refine (solo_align D hs HL1.out (by rw [HL.out]; omega)).mono ?_
        clear hs
        rintro e w' ⟨rfl, hs⟩
        rw [HA.out] at hs
        go_wp2_with fail
        go_at_call 19
        refine (solo_at D hs).mono ?_
        clear hs
        rintro e w' ⟨rfl, hs⟩
        go_wp2_with fail
        go_at_call 18
        refine (solo_align D hs HL1.out (by rw [HL.out]; omega)).mono ?_
        clear hs
        rintro e w' ⟨rfl, hs⟩
        rw [HA2.out] at hs
        go_wp2_with fail
        go_at_call 19
        refine (solo_at D hs).mono ?_
        clear hs
        rintro e w' ⟨rfl, hs⟩
        go_wp2_with fail
        simp only [eq1]
        clear eq1 eq2
        go_loopw [16, 17, 18] (fun a _ _ wr => ∃ p P : Nat, p ≤ n ∧ P = 8 * p ∧ (a = undef ∨ ∃ m : Nat, a = .int .i64 (m : Int) ∧ P = m + 8) ∧ Solo isR W wr r F P) (fun a _ _ _ => stepOf a)
        case atStart => exact ⟨q, A, HQ.out.2, HQ.out.1, .inl rfl, hs⟩
        case round =>
          clear hs
          obtain ⟨p, P, hp, hP, ha, hs⟩ := hrel
          have HP := Lib.hid hP
          have HA3 := Lib.hid ha
          have bP : P ≤ B := by omega
          have ePd : (P : Int) / 8 = (p : Int) := by omega
          by_cases hpn : p < n
          · have hd4 : decide ((P : Int) < (B : Int)) = true := decide_eq_true (by omega)
            have hb8 : P + 8 ≤ B := by omega
            clear hP ha
            obtain ⟨z, ez⟩ : ∃ z, zs[p]? = some z := ⟨_, List.getElem?_eq_getElem (by rw [HN.out]; exact hpn)⟩
            have HZ : Hid (numAt F P 8 = z) := by show _ = _; rw [← HF.out, HP.out]; exact numAt_whole zs p z ez H8.out
            obtain ⟨b, off, cap, ev, hlt, hcell⟩ := listed_cell HR.out p z ez
            rw [HN.out] at ev
            have HC := Lib.hid hcell
            clear hcell
            subst ev
            have bz : z < 256 := H8.out z (List.mem_of_getElem? ez)
            go_wp2_with fail
            go_at_call 19
            refine (solo_at D hs).mono ?_
            clear hs
            rintro e w' ⟨rfl, hs⟩
            go_wp2_with fail
            go_at_call 19
            refine (solo_at D hs).mono ?_
            clear hs
            rintro e w' ⟨rfl, hs⟩
            go_wp2_with fail
            go_at_call 17
            refine (solo_get D hs 8 (by decide) (by rw [HL.out]; exact hb8) HL1.out).mono ?_
            clear hs
            rintro e w' ⟨rfl, hs⟩
            rw [HZ.out]
            have hcell := (hs.below.cell (p := ⟨b, off + p, none⟩) hlt).trans HC.out
            unfold byteVal at hcell
            go_wp2_with fail
            go_roundw
            case rel => exact ⟨p + 1, P + 8, by omega, by rw [HP.out]; omega, .inr ⟨P, by go_num, rfl⟩, hs⟩
            case measure =>
              have h1 := HP.out
              rcases HA3.out with rfl | ⟨m, rfl, hm2⟩
              · simp [stepOf, undef]; omega
              · simp [stepOf]; omega
          · have hd4 : decide ((P : Int) < (B : Int)) = false := decide_eq_false (by omega)
            have hPB : P = B := by omega
            have HE : Hid (F.length < P + 1 ∧ P + 0 ≤ F.length) := ⟨by rw [HL.out]; omega, by rw [HL.out]; omega⟩
            clear hP ha hPB
            go_wp2_with fail
            go_at_call 19
            refine (solo_at D hs).mono ?_
            clear hs
            rintro e w' ⟨rfl, hs⟩
            go_wp2_with fail
            go_at_call 17
            refine (solo_short D hs 1 (by decide) HE.out.1 HL1.out).mono ?_
            clear hs
            rintro e w' ⟨rfl, hs⟩
            go_wp2_with fail
            go_at_call 17
            refine (solo_get D hs 0 (by decide) HE.out.2 HL1.out).mono ?_
            clear hs
            rintro e w' ⟨rfl, hs⟩
            rw [numAt_zero]
            go_wp2_with fail
            go_at_call 20
            refine (awake_any D _).mono ?_
            rintro e w' ⟨rfl, hw⟩
            have hb := hs.below.trans (hw.mono hs.below.size)
            clear hs hw
            go_wp2_with fail
            all_goals (go_ret; exact ⟨rfl, hb⟩)
      · have hd3 : decide ((K : Int) ≤ (B : Int) - (j : Int)) = false := decide_eq_false (by omega)
        go_at_call 17
        refine (solo_short D hs K bK (by rw [HL.out]; omega) HL1.out).mono ?_
        clear hs
        rintro e w' ⟨rfl, hs⟩
        go_wp2_with fail
        go_at_call 19
        refine (solo_at D hs).mono ?_
        clear hs
        rintro e w' ⟨rfl, hs⟩
        obtain ⟨t, ht⟩ : ∃ t : Nat, j = t := ⟨_, rfl⟩
        have bt : t ≤ B := by omega
        subst ht
        clear hk
        obtain ⟨q, hq⟩ : ∃ q : Nat, (j + 7) / 8 = q := ⟨_, rfl⟩
        obtain ⟨A, hA⟩ : ∃ A : Nat, q * 8 = A := ⟨_, rfl⟩
        have eq1 : ((j : Int) + 7) / 8 = (q : Int) := by omega
        have eq2 : (q : Int) * 8 = (A : Int) := by omega
        have bA : A ≤ B := by omega
        have HA : Hid ((j + 7) / 8 * 8 = A) := by show _ = _; omega
        have HA2 : Hid ((A + 7) / 8 * 8 = A) := by show _ = _; omega
        have HQ : Hid (A = 8 * q ∧ q ≤ n) := ⟨by omega, by omega⟩
        clear hq hA
        go_wp2_with fail
        go_at_call 19
        refine (solo_at D hs).mono ?_
        clear hs
        rintro e w' ⟨rfl, hs⟩
        go_wp2_with fail
        go_at_call 18
        refine (solo_align D hs HL1.out (by rw [HL.out]; omega)).mono ?_
        clear hs
        rintro e w' ⟨rfl, hs⟩
        rw [HA.out] at hs
        go_wp2_with fail
        go_at_call 19
        refine (solo_at D hs).mono ?_
        clear hs
        rintro e w' ⟨rfl, hs⟩
        go_wp2_with fail
        go_at_call 18
        refine (solo_align D hs HL1.out (by rw [HL.out]; omega)).mono ?_
        clear hs
        rintro e w' ⟨rfl, hs⟩
        rw [HA2.out] at hs
        go_wp2_with fail
        go_at_call 19
        refine (solo_at D hs).mono ?_
        clear hs
        rintro e w' ⟨rfl, hs⟩
        go_wp2_with fail
        simp only [eq1]
        clear eq1 eq2
        go_loopw [16, 17, 18] (fun a _ _ wr => ∃ p P : Nat, p ≤ n ∧ P = 8 * p ∧ (a = undef ∨ ∃ m : Nat, a = .int .i64 (m : Int) ∧ P = m + 8) ∧ Solo isR W wr r F P) (fun a _ _ _ => stepOf a)
        case atStart => exact ⟨q, A, HQ.out.2, HQ.out.1, .inl rfl, hs⟩
        case round =>
          clear hs
          obtain ⟨p, P, hp, hP, ha, hs⟩ := hrel
          have HP := Lib.hid hP
          have HA3 := Lib.hid ha
          have bP : P ≤ B := by omega
          have ePd : (P : Int) / 8 = (p : Int) := by omega
          by_cases hpn : p < n
          · have hd4 : decide ((P : Int) < (B : Int)) = true := decide_eq_true (by omega)
            have hb8 : P + 8 ≤ B := by omega
            clear hP ha
            obtain ⟨z, ez⟩ : ∃ z, zs[p]? = some z := ⟨_, List.getElem?_eq_getElem (by rw [HN.out]; exact hpn)⟩
            have HZ : Hid (numAt F P 8 = z) := by show _ = _; rw [← HF.out, HP.out]; exact numAt_whole zs p z ez H8.out
            obtain ⟨b, off, cap, ev, hlt, hcell⟩ := listed_cell HR.out p z ez
            rw [HN.out] at ev
            have HC := Lib.hid hcell
            clear hcell
            subst ev
            have bz : z < 256 := H8.out z (List.mem_of_getElem? ez)
            go_wp2_with fail
            go_at_call 19
            refine (solo_at D hs).mono ?_
            clear hs
            rintro e w' ⟨rfl, hs⟩
            go_wp2_with fail
            go_at_call 19
            refine (solo_at D hs).mono ?_
            clear hs
            rintro e w' ⟨rfl, hs⟩
            go_wp2_with fail
            go_at_call 17
            refine (solo_get D hs 8 (by decide) (by rw [HL.out]; exact hb8) HL1.out).mono ?_
            clear hs
            rintro e w' ⟨rfl, hs⟩
            rw [HZ.out]
            have hcell := (hs.below.cell (p := ⟨b, off + p, none⟩) hlt).trans HC.out
            unfold byteVal at hcell
            go_wp2_with fail
            go_roundw
            case rel => exact ⟨p + 1, P + 8, by omega, by rw [HP.out]; omega, .inr ⟨P, by go_num, rfl⟩, hs⟩
            case measure =>
              have h1 := HP.out
              rcases HA3.out with rfl | ⟨m, rfl, hm2⟩
              · simp [stepOf, undef]; omega
              · simp [stepOf]; omega
          · have hd4 : decide ((P : Int) < (B : Int)) = false := decide_eq_false (by omega)
            have hPB : P = B := by omega
            have HE : Hid (F.length < P + 1 ∧ P + 0 ≤ F.length) := ⟨by rw [HL.out]; omega, by rw [HL.out]; omega⟩
            clear hP ha hPB
            go_wp2_with fail
            go_at_call 19
            refine (solo_at D hs).mono ?_
            clear hs
            rintro e w' ⟨rfl, hs⟩
            go_wp2_with fail
            go_at_call 17
            refine (solo_short D hs 1 (by decide) HE.out.1 HL1.out).mono ?_
            clear hs
            rintro e w' ⟨rfl, hs⟩
            go_wp2_with fail
            go_at_call 17
            refine (solo_get D hs 0 (by decide) HE.out.2 HL1.out).mono ?_
            clear hs
            rintro e w' ⟨rfl, hs⟩
            rw [numAt_zero]
            go_wp2_with fail
            go_at_call 20
            refine (awake_any D _).mono ?_
            rintro e w' ⟨rfl, hw⟩
            have hb := hs.below.trans (hw.mono hs.below.size)
            clear hs hw
            go_wp2_with fail
            all_goals (go_ret; exact ⟨rfl, hb⟩)
end Go.Proofs.Ytenaokijjancgaa.Fx
