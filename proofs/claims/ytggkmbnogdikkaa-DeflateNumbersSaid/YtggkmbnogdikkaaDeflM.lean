/-
  The document's own answers of layer 6: the match. The conditions stand in it.
-/
import Derived.Test.YtggkmbnogdikkaaDeflF
namespace Go.Proofs.Ytggkmbnogdikkaa.Fx
open Go Go.RowKit Go.Joins
set_option linter.unusedVariables false
theorem below_drewN {B : Nat} {a w : World} (h : Below B a w) (n : Nat) : Below B a (w.drewN n) := ⟨h.os, h.tape, h.output, h.size, h.block⟩
theorem sameFrom_go (b : List Nat) (p i up f n : Nat) (h1 : i + n < up) (h2 : b[p + n]? = b[i + n]?) : sameFrom b p i up (f + 1) n = sameFrom b p i up f (n + 1) := by
  rw [sameFrom, if_pos ⟨h1, h2⟩]
theorem sameFrom_stop (b : List Nat) (p i up f n : Nat) (h : ¬ (i + n < up ∧ b[p + n]? = b[i + n]?)) : sameFrom b p i up f n = n := by
  cases f with
  | zero => rfl
  | succ f => rw [sameFrom, if_neg h]
set_option maxHeartbeats 1000000 in
set_option maxRecDepth 100000 in
theorem match_row (b off cap : Nat) (zs : List Nat) (i up : Nat) (W : World) (hlt : b < W.heap.size) (hr : ∀ j z, zs[j]? = some z → W.cell? ⟨b, off + j, none⟩ = some (byteVal z)) (hi : i ≤ up) (ht : up ≤ zs.length) (hz : zs.length ≤ 1099511627776) :
    Calls Try.prog 78 #[.slice (some ⟨b, off, none⟩) zs.length cap, .int .i64 (i : Int), .int .i64 (up : Int)] W fun e w' => e = .returned (.tuple #[.int .i64 ((matchOf zs i up).1 : Nat), .int .i64 ((matchOf zs i up).2 : Nat)]) ∧ Below W.heap.size W w' := by
  have HR := Lib.hid hr
  obtain ⟨len, el⟩ : ∃ len, zs.length = len := ⟨_, rfl⟩
  have EL := Lib.hid el
  rw [el] at ht hz ⊢
  clear hr el
  obtain ⟨N, hN⟩ : ∃ N, min i 32768 = N := ⟨_, rfl⟩
  have HM : Hid (matchOf zs i up = bestOf zs i up N) := by
    show _ = _
    unfold matchOf
    rw [hN]
  obtain ⟨F1, e1⟩ : ∃ x, (matchOf zs i up).1 = x := ⟨_, rfl⟩
  obtain ⟨F2, e2⟩ : ∃ x, (matchOf zs i up).2 = x := ⟨_, rfl⟩
  rw [e1, e2]
  have HE1 := Lib.hid e1
  have HE2 := Lib.hid e2
  clear e1 e2
  go_enter Try.func78, Try.ntmps78
  go_wp2_with fail
  have hb0 := Below.refl W.heap.size W
  go_loopw [8, 9, 10] (fun s8 s9 s10 wr => ∃ j b1 b2 : Nat, j ≤ N ∧ s8 = .int .i64 (b1 : Int) ∧ s9 = .int .i64 (b2 : Int) ∧ s10 = .int .i64 ((i : Int) - 1 - (j : Int)) ∧ Hid (bestOf zs i up j = (b1, b2)) ∧ Below W.heap.size W wr) (fun _ _ s10 _ => (intOf s10 + 1).toNat)
  case atStart => exact ⟨0, 0, 0, Nat.zero_le _, rfl, rfl, by go_num, Lib.hid rfl, hb0⟩
  case round =>
    clear hb0
    obtain ⟨j, b1, b2, hj, rfl, rfl, rfl, hbest, hbl⟩ := hrel
    have hbb : b1 ≤ 258 := by
      have := (bestOf_spec zs i up j (by omega)).1
      rw [hbest.out] at this
      exact this
    have HBL := Lib.hid hbl
    clear hbl
    by_cases hjN : j < N
    · obtain ⟨p, hp⟩ : ∃ p : Nat, (i : Int) - 1 - (j : Int) = (p : Int) := ⟨i - 1 - j, by omega⟩
      have hp2 : i - 1 - j = p := by omega
      have HP := Lib.hid hp2
      have HPI := Lib.hid hp
      have hpi : p < i := by omega
      rw [hp]
      have d1 : decide ((0 : Int) ≤ (p : Int)) = true := decide_eq_true (by omega)
      have d2 : decide ((i : Int) - 32768 ≤ (p : Int)) = true := decide_eq_true (by omega)
      clear hp hp2
      obtain ⟨S, eS⟩ : ∃ S, same zs p i up = S := ⟨_, rfl⟩
      have ES : Hid (sameFrom zs p i up 258 0 = S) := eS
      have HS := Lib.hid eS
      clear eS
      go_upto_block 2 with fail
      go_cut [11] (fun s11 wx => s11 = .int .i64 (S : Int) ∧ Below W.heap.size W wx)
      case first =>
        go_wp2_with fail
        go_loopw [11] (fun s11 wx => ∃ n f : Nat, n + f = 258 ∧ s11 = .int .i64 (n : Int) ∧ Hid (sameFrom zs p i up f n = S) ∧ Below W.heap.size W wx) (fun s11 _ => 258 - (intOf s11).toNat)
        case atStart => exact ⟨0, 258, rfl, rfl, ES, HBL.out⟩
        case round =>
          obtain ⟨n, f, hnf, rfl, hF, hbl⟩ := hrel
          have HBL2 := Lib.hid hbl
          clear hbl
          by_cases hn : n < 258
          · have c1 : decide ((n : Int) < 258) = true := decide_eq_true (by omega)
            obtain ⟨f', rfl⟩ : ∃ g, f = g + 1 := ⟨f - 1, by omega⟩
            have hw1 : IntKind.i64.wrap ((i : Int) + (n : Int)) = (i : Int) + (n : Int) := by rw [IntKind.wrap_i64]; omega
            have hw2 : IntKind.i64.wrap ((p : Int) + (n : Int)) = (p : Int) + (n : Int) := by rw [IntKind.wrap_i64]; omega
            obtain ⟨P, eP⟩ : ∃ P, p + n = P := ⟨_, rfl⟩
            obtain ⟨I, eI⟩ : ∃ I, i + n = I := ⟨_, rfl⟩
            have hPs : (p : Int) + (n : Int) = (P : Int) := by omega
            have hIs : (i : Int) + (n : Int) = (I : Int) := by omega
            rw [hPs] at hw2
            rw [hIs] at hw1
            by_cases hin : i + n < up
            · have c2 : decide ((I : Int) < (up : Int)) = true := decide_eq_true (by omega)
              have c2n : decide (I < up) = true := decide_eq_true (by omega)
              have hIu : I < up := by omega
              obtain ⟨x, ex⟩ : ∃ x, zs[p + n]? = some x := ⟨zs[p + n]'(by rw [EL.out]; omega), List.getElem?_eq_getElem _⟩
              obtain ⟨y, ey⟩ : ∃ y, zs[i + n]? = some y := ⟨zs[i + n]'(by rw [EL.out]; omega), List.getElem?_eq_getElem _⟩
              have hcx := (HBL2.out.cell (p := ⟨b, off + (p + n), none⟩) hlt).trans (HR.out _ _ ex)
              have hcy := (HBL2.out.cell (p := ⟨b, off + (i + n), none⟩) hlt).trans (HR.out _ _ ey)
              unfold byteVal at hcx hcy
              have hI : I < len := by omega
              have hP : P < len := by omega
              have HXY := Lib.hid (And.intro ex ey)
              rw [eP] at hcx
              rw [eI] at hcy
              have i1 : (0 : Int) ≤ (P : Int) := by omega
              have i2 : (P : Int) < (len : Int) := by omega
              have i3 : (0 : Int) ≤ (I : Int) := by omega
              have i4 : (I : Int) < (len : Int) := by omega
              clear ex ey eP eI
              by_cases hxy : x = y
              · have c3 : ((x : Int) == (y : Int)) = true := by simp [hxy]
                have HF2 := Lib.hid (hF.out.symm.trans (sameFrom_go zs p i up f' n hin (by rw [HXY.out.1, HXY.out.2, hxy]))).symm
                subst hxy
                go_wp2_with fail
                go_still (by kernel_rfl)
                go_wp2_with fail
                go_roundw
                case rel => exact ⟨n + 1, f', by omega, by go_num, HF2, HBL2.out.drew⟩
                case measure => simp [intOf]; omega
              · have c3 : ((x : Int) == (y : Int)) = false := by simp; omega
                have c4 : decide ((x : Int) = (y : Int)) = false := decide_eq_false (by omega)
                have HF2 : Hid (n = S) := by
                  have := hF.out
                  rwa [sameFrom_stop zs p i up _ n (fun h => by rw [HXY.out.1, HXY.out.2] at h; exact hxy (Option.some.inj h.2))] at this
                go_wp2_with fail
                go_quiet (fail)
                go_wp2_with fail
                all_goals go_meet
                all_goals exact ⟨by rw [← HF2.out], below_drewN HBL2.out _⟩
            · have c2 : decide ((I : Int) < (up : Int)) = false := decide_eq_false (by omega)
              have c2n : decide (I < up) = false := decide_eq_false (by omega)
              have hIu : ¬ I < up := by omega
              have HF2 : Hid (n = S) := by
                have := hF.out
                rwa [sameFrom_stop zs p i up _ n (fun h => hin h.1)] at this
              clear eP eI hin
              go_wp2_with fail
              go_quiet (fail)
              go_wp2_with fail
              all_goals go_meet
              all_goals exact ⟨by rw [← HF2.out], below_drewN HBL2.out _⟩
          · have c1 : decide ((n : Int) < 258) = false := decide_eq_false (by omega)
            have HF2 : Hid (n = S) := by
              obtain rfl : f = 0 := by omega
              exact hF.out
            go_wp2_with fail
            go_quiet (fail)
            go_wp2_with fail
            all_goals go_meet
            all_goals exact ⟨by rw [← HF2.out], below_drewN HBL2.out _⟩
      case rest =>
        obtain ⟨rfl, hbl2⟩ := hcut
        have HB3 := Lib.hid hbl2
        clear hbl2
        have hsb : S ≤ 258 := by
          have := (same_spec zs p i up).1
          rw [HS.out] at this
          exact this
        by_cases hgt : b1 < S
        · have c1 : decide ((b1 : Int) < (S : Int)) = true := decide_eq_true (by omega)
          have HN : Hid (bestOf zs i up (j + 1) = (S, p)) := by
            show _ = _
            rw [bestOf, HP.out, HS.out, hbest.out, if_pos hgt]
          go_wp2_with fail
          go_roundw
          case rel => exact ⟨j + 1, S, p, by omega, rfl, rfl, by rw [show (i : Int) - 1 - ((j + 1 : Nat) : Int) = (p : Int) - 1 by have := HPI.out; omega], HN, HB3.out⟩
          case measure => first | (simp [intOf]; done) | (simp [intOf]; omega)
        · have c1 : decide ((b1 : Int) < (S : Int)) = false := decide_eq_false (by omega)
          have HN : Hid (bestOf zs i up (j + 1) = (b1, b2)) := by
            show _ = _
            rw [bestOf, HP.out, HS.out, hbest.out, if_neg hgt]
          go_wp2_with fail
          go_roundw
          case rel => exact ⟨j + 1, b1, b2, by omega, rfl, rfl, by rw [show (i : Int) - 1 - ((j + 1 : Nat) : Int) = (p : Int) - 1 by have := HPI.out; omega], HN, HB3.out⟩
          case measure => first | (simp [intOf]; done) | (simp [intOf]; omega)
    · obtain rfl : j = N := by omega
      have d12 : decide ((0 : Int) ≤ (i : Int) - 1 - (j : Int)) = false ∨ (decide ((0 : Int) ≤ (i : Int) - 1 - (j : Int)) = true ∧ decide ((i : Int) - 32768 ≤ (i : Int) - 1 - (j : Int)) = false) := by
        by_cases h : i ≤ 32768
        · exact .inl (decide_eq_false (by omega))
        · exact .inr ⟨decide_eq_true (by omega), decide_eq_false (by omega)⟩
      have HF1 : Hid (b1 = F1) := by
        show _ = _
        rw [← HE1.out, HM.out, hbest.out]
      have HF2 : Hid (b2 = F2) := by
        show _ = _
        rw [← HE2.out, HM.out, hbest.out]
      obtain ⟨Q, eQ⟩ : ∃ Q, (i : Int) - 1 - (j : Int) = Q := ⟨_, rfl⟩
      rw [eQ] at d12 ⊢
      clear eQ
      rcases d12 with d1 | ⟨d1, d2⟩
      · go_wp2_with fail
        all_goals refine bodyPost_ret (v := .tuple #[.int .i64 (b1 : Int), .int .i64 (b2 : Int)]) (by simp [results, Try.results78, asAddr, go_sem]) rfl ⟨by rw [HF1.out, HF2.out], HBL.out⟩
      · go_wp2_with fail
        all_goals refine bodyPost_ret (v := .tuple #[.int .i64 (b1 : Int), .int .i64 (b2 : Int)]) (by simp [results, Try.results78, asAddr, go_sem]) rfl ⟨by rw [HF1.out, HF2.out], HBL.out⟩
theorem match_any (v : Value) (zs : List Nat) (i up : Nat) (W : World) (hr : bytesIn W v zs) (hi : i ≤ up) (ht : up ≤ zs.length) (hz : zs.length ≤ 1099511627776) :
    Calls Try.prog 78 #[v, .int .i64 (i : Int), .int .i64 (up : Int)] W fun e w' => e = .returned (.tuple #[.int .i64 ((matchOf zs i up).1 : Nat), .int .i64 ((matchOf zs i up).2 : Nat)]) ∧ Below W.heap.size W w' := by
  rcases hr with ⟨⟨o, cap, rfl, _⟩, rfl⟩ | ⟨b, off, cap, rfl, hlt, _, hc⟩
  · obtain rfl : up = 0 := by simpa using ht
    obtain rfl : i = 0 := by omega
    have hm : matchOf [] 0 0 = (0, 0) := rfl
    rw [hm]
    go_enter Try.func78, Try.ntmps78
    go_wp2_with fail
    refine wp_loop_rounds 1 ?_
    rw [rounds_succ]
    go_wp2_with fail
    all_goals exact bodyPost_ret (v := .tuple #[.int .i64 0, .int .i64 0]) (by simp [results, Try.results78, asAddr, go_sem]) rfl ⟨rfl, Below.refl _ _⟩
  · exact match_row b off cap zs i up W hlt hc hi ht hz
end Go.Proofs.Ytggkmbnogdikkaa.Fx
