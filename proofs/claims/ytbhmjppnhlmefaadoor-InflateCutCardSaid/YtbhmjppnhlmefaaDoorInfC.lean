/-
  A symbol, got bit by bit, as landed. The conditions stand in it.
-/
import Derived.Test.YtbhmjppnhlmefaaDoorInfB
namespace Go.Proofs.YtbhmjppnhlmefaaDoor.Fx
open Go Go.RowKit Go.Joins
set_option linter.unusedVariables false
theorem get_said {k : Nat} {L : List Bool} {m : Nat} {s u : St} {a : Nat} (h : Says (Way.get k) L m s (.ok a u)) : a < 2 ^ k ∧ u = ⟨s.pos + k, s.out⟩ ∧ s.pos + k ≤ L.length := by
  by_cases hs : s.pos + k ≤ L.length
  · have := Way.says_one h (Way.says_get (L := L) (m := m) (s := s) k hs)
    cases this
    exact ⟨numAt_below _ _ _, rfl, hs⟩
  · have := Way.says_one h (Way.says_get_short (L := L) (m := m) (s := s) k (by omega))
    cases this
theorem Fit.count_le {c : Cds} (h : Fit c) (l : Nat) : (c.counts.take l).sum + c.counts.getD l 0 ≤ c.counts.sum := by
  rw [← sum_take_succ]
  exact sum_take_le _ _
set_option maxHeartbeats 2000000 in
set_option maxRecDepth 100000 in
theorem symbol_go (w : World) (g : Nat) (L : List Bool) (m : Nat) (s : St) (fx : Value) (O : Nat → Prop) (b off : Nat) (c : Cds) (K : Nat → Prop) (h : isS w g L m s fx O) (hc : isCd w b off c K) (hK : ∀ k, K k → ¬ O k) (hf : Fit c) (hL : L.length ≤ 1099511627776) :
    Calls Tryd.prog 63 #[.pointer (some ⟨g, 0, none⟩), .pointer (some ⟨b, off, none⟩)] w (Goes (symW c) L m s (fun n => .int .i64 (n : Int)) g fx O w) := by
  have HD := deepest_code w b off c K hc
  have hD : c.deepest ≤ 15 := by unfold Cds.deepest; split <;> omega
  have HR0 : Hid (∀ r, Says (symFrom c (c.deepest + 1 - 1) 1 0 0 0) L m s r → Says (symW c) L m s r) := fun r h => h
  obtain ⟨D, eD⟩ : ∃ D, c.deepest = D := ⟨_, rfl⟩
  rw [eD] at HD hD HR0
  have HP0 : Hid (0 = (c.counts.take 1).sum) := by
    show _ = _
    rw [sum_take_succ c.counts 0, hf.zero]
    rfl
  have HS0 := Lib.hid h
  have HC := Lib.hid hc
  have HK := Lib.hid hK
  have HF := Lib.hid hf
  have HL := Lib.hid hL
  clear h hc hK hf hL eD
  go_enter Tryd.func63, Tryd.ntmps63
  go_wp2_with fail
  go_at_call 70
  refine HD.mono ?_
  rintro e w1 ⟨rfl, rfl⟩
  clear HD
  go_wp2_with fail
  go_loopw [5, 6, 7, 8] (fun u5 u6 u7 u8 wr => ∃ (l code first place : Nat) (t : St) (O' : Nat → Prop), u5 = .int .i64 code ∧ u6 = .int .i64 first ∧ u7 = .int .i64 place ∧ u8 = .int .i64 l ∧ 1 ≤ l ∧ l ≤ D + 1 ∧ code < 2 ^ (l - 1) ∧ first ≤ code ∧ Hid (place = (c.counts.take l).sum) ∧ Hid (isS wr g L m t fx O') ∧ Hid (WentOn O O' w wr) ∧ Hid (∀ r, Says (symFrom c (D + 1 - l) l code first place) L m t r → Says (symW c) L m s r)) (fun _ _ _ u8 _ => 17 - (intOf u8).toNat)
  case atStart => exact ⟨1, 0, 0, 0, s, O, rfl, rfl, rfl, rfl, Nat.le_refl _, by omega, by decide, Nat.le_refl _, HP0, HS0, WentOn.refl _ _, HR0⟩
  case round =>
    obtain ⟨l, code, first, place, t, O', rfl, rfl, rfl, rfl, hl1, hl2, hcode, hfc, hpl, hS, hW, hR⟩ := hrel
    by_cases hlD : l ≤ D
    · have d1 : decide ((l : Int) ≤ (D : Int)) = true := decide_eq_true (by omega)
      have d2 : decide (l ≤ D) = true := decide_eq_true hlD
      have hpow : 2 ^ (l - 1) ≤ 2 ^ 14 := Nat.pow_le_pow_right (by decide) (by omega)
      have hc15 : code ≤ 16383 := by omega
      have HCB : Hid (code < 2 ^ (l - 1)) := hcode
      obtain ⟨n, en⟩ : ∃ n, D + 1 - l = n + 1 := ⟨D - l, by omega⟩
      have EN : Hid (D + 1 - (l + 1) = n) := by show _ = _; omega
      have HR1 : Hid (∀ r, Says ((Way.get 1).bind fun b => if 2 * code + b < 2 * first + c.counts.getD l 0 then Way.pure (c.syms.getD (place + (2 * code + b) - 2 * first) 0) else symFrom c n (l + 1) (2 * code + b) (2 * first + c.counts.getD l 0) (place + c.counts.getD l 0)) L m t r → Says (symW c) L m s r) := fun r h => hR.out r (by rw [en]; exact h)
      have HG := get_go wr g L m t fx O' 1 hS.out (by decide) HL.out
      have hcnt := HF.out.count_le l
      rw [← hpl.out, ← HF.out.sum] at hcnt
      have hfew := HF.out.few
      rw [← HF.out.sum] at hfew
      obtain ⟨cnt, ecnt⟩ : ∃ x, c.counts.getD l 0 = x := ⟨_, rfl⟩
      have ECN := Lib.hid ecnt
      rw [ecnt] at hcnt HR1
      have HPL : Hid (place + cnt = (c.counts.take (l + 1)).sum) := by
        show _ = _
        rw [sum_take_succ, ← hpl.out, ecnt]
      clear hcode hpow en hR hpl hS ecnt
      go_wp2_with fail
      go_at_call 40
      refine HG.mono ?_
      clear HG
      rintro e w2 (⟨a, u, O2, hs, rfl, h1, h2⟩ | ⟨k, hs, rfl, hp⟩)
      · obtain ⟨ha, hu, hu2⟩ := get_said hs
        have ha : a ≤ 1 := by omega
        have HS2 := Lib.hid h1
        have HW2 := Lib.hid (hW.out.trans h2)
        have HSY := Lib.hid hs
        obtain ⟨v, hv⟩ := isC_went HC.out HW2.out.past HK.out
        have qc := hv.counts l (by omega)
        rw [ECN.out] at qc
        have q16 := hv.list
        have HV := Lib.hid hv.syms
        obtain ⟨vo, vc, ev⟩ := listed_length hv.syms
        subst ev
        obtain ⟨N, eN⟩ : ∃ x, c.syms.length = x := ⟨_, rfl⟩
        have ENN := Lib.hid eN
        rw [eN] at hcnt hfew q16
        clear hs hu hu2 h1 h2 hv eN
        obtain ⟨C2, eC2⟩ : ∃ x, 2 * code + a = x := ⟨_, rfl⟩
        obtain ⟨F2, eF2⟩ : ∃ x, 2 * first = x := ⟨_, rfl⟩
        have e1 : 2 * (code : Int) + (a : Int) = (C2 : Int) := by omega
        have e2 : (first : Int) * 2 = (F2 : Int) := by omega
        obtain ⟨J, eJ⟩ : ∃ x, C2 - F2 = x := ⟨_, rfl⟩
        have e3 : (C2 : Int) - (F2 : Int) = (J : Int) := by omega
        have HEC := Lib.hid eC2
        have HEF := Lib.hid eF2
        have bC2 : C2 ≤ 32767 := by omega
        have bF2 : F2 ≤ C2 := by omega
        have bJ : J ≤ C2 := by omega
        have EJ := Lib.hid eJ
        have hc2 : C2 < 2 ^ l := by
          have h1 := HCB.out
          have h2 : 2 ^ l = 2 * 2 ^ (l - 1) := by
            conv => lhs; rw [show l = (l - 1) + 1 by omega, Nat.pow_succ]
            omega
          omega
        have HC2 := Lib.hid hc2
        clear eC2 eF2 eJ hc2
        by_cases hlt : J < cnt
        · have d3 : decide ((J : Int) < (cnt : Int)) = true := decide_eq_true (by omega)
          have d4 : decide (J < cnt) = true := decide_eq_true hlt
          obtain ⟨x, ex⟩ : ∃ x, c.syms[place + J]? = some x := ⟨c.syms[place + J]'(by rw [ENN.out]; omega), List.getElem?_eq_getElem _⟩
          obtain ⟨vb, vof, vcap, ev, hvlt, hcell⟩ := listed_cell HV.out (place + J) x ex
          rw [ENN.out] at ev
          simp only [Value.slice.injEq] at ev
          obtain ⟨rfl, _, rfl⟩ := ev
          have HX : Hid (c.syms.getD (place + C2 - F2) 0 = x) := by
            show _ = _
            rw [show place + C2 - F2 = place + J by have := EJ.out; omega, List.getD_eq_getElem?_getD, ex]
            rfl
          unfold natVal at hcell
          obtain ⟨PC, ePC⟩ : ∃ x, place + C2 = x := ⟨_, rfl⟩
          obtain ⟨PJ, ePJ⟩ : ∃ x, place + J = x := ⟨_, rfl⟩
          have e4 : (place : Int) + (C2 : Int) = (PC : Int) := by omega
          have e5 : (PC : Int) - (F2 : Int) = (PJ : Int) := by have := EJ.out; omega
          have bPJ : PJ < N := by omega
          have bPC : PC ≤ 40000 := by omega
          rw [ePJ] at hcell
          have HLT : Hid (2 * code + a < 2 * first + cnt) := by have := EJ.out; have := HEC.out; have := HEF.out; show _ < _; omega
          clear ex ePC ePJ
          go_wp2_with fail
          go_ret
          refine .inl ⟨x, u, O2, HR1.out _ (Way.says_bind HSY.out ?_), rfl, HS2.out, HW2.out⟩
          rw [if_pos HLT.out, HEC.out, HEF.out, HX.out]
          exact Way.says_pure x
        · have d3 : decide ((J : Int) < (cnt : Int)) = false := decide_eq_false (by omega)
          have d4 : decide (J < cnt) = false := decide_eq_false hlt
          have HLT : Hid (¬ 2 * code + a < 2 * first + cnt) := by have := EJ.out; have := HEC.out; have := HEF.out; show ¬ _; omega
          have HR2 : Hid (∀ r, Says (symFrom c n (l + 1) C2 (F2 + cnt) (place + cnt)) L m u r → Says (symW c) L m s r) := fun r h => HR1.out r (Way.says_bind HSY.out (by rw [if_neg HLT.out, HEC.out, HEF.out]; exact h))
          have hfc2 : F2 + cnt ≤ C2 := by have := EJ.out; omega
          go_wp2_with fail
          go_roundw
          case rel => exact ⟨l + 1, C2, F2 + cnt, place + cnt, u, O2, by go_num, by go_num, by go_num, by go_num, by omega, by omega, HC2.out, hfc2, HPL, HS2, HW2, fun r h => HR2.out r (by rw [EN.out] at h; exact h)⟩
          case measure => simp [intOf]; omega
      · go_wp2_with fail
        exact ⟨rfl, .inr ⟨k, HR1.out _ (Way.says_bind_err hs), rfl, hW.out.on hp⟩⟩
    · obtain rfl : l = D + 1 := by omega
      have d1 : decide (((D + 1 : Nat) : Int) ≤ (D : Int)) = false := decide_eq_false (by omega)
      have d2 : decide (D + 1 ≤ D) = false := decide_eq_false hlD
      have d3 : decide ((D : Int) + 1 ≤ (D : Int)) = false := decide_eq_false (by omega)
      have HR2 := hR.out (.err 10) (by rw [Nat.sub_self]; exact Way.says_fail 10)
      go_wp2_with fail
      exact ⟨rfl, .inr ⟨10, HR2, rfl, hW.out.past⟩⟩
end Go.Proofs.YtbhmjppnhlmefaaDoor.Fx
