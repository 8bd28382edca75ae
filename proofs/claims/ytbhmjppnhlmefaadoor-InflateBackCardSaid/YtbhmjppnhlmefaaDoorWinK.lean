/-
  What the window forgets, as landed. The conditions stand in it.
-/
import Derived.Test.YtbhmjppnhlmefaaDoorWinJ
namespace Go.Proofs.YtbhmjppnhlmefaaDoor.Fx
open Go Go.RowKit Go.Joins Go.Maps
set_option linter.unusedVariables false
theorem book_is {c d : Int} (D : Book) (key : Lit) (h1 : D.atKey key (.lit (.int .i64 0)) = .lit (.int .i64 c)) (h2 : D.atKey key (.lit (.int .i64 0)) = .lit (.int .i64 d)) : c = d := by
  rw [h1] at h2
  simpa using h2
set_option maxHeartbeats 4000000 in
set_option maxRecDepth 100000 in
theorem forget_code (g : Nat) (out : Value) (zs : List Nat) (first opn : Nat) (W : World) (O : Nat → Prop) (hk : isK W g out zs first opn O) (h8 : ∀ x ∈ zs, x < 256) (hl : zs.length ≤ 65536) (hf : first ≤ 1099511627776) :
    Calls Tryd.prog 37 #[.pointer (some ⟨g, 1, none⟩)] W fun e w' => e = .returned (.tuple #[]) ∧ ∃ O', isK w' g out (zs.drop (zs.length - 32768)) (first + (zs.length - 32768)) opn O' ∧ (∀ b, O' b → O b ∨ W.heap.size ≤ b) ∧ Past O W w' := by
  obtain ⟨s, t, mb, st, D, hkept, hsteps, hst, rfl⟩ := hk
  have HK := Lib.hid hkept
  have HST := Lib.hid hsteps
  have HSL := Lib.hid hst
  have H8 := Lib.hid h8
  obtain ⟨q0, q1, q2, q3, q4, q5, q6⟩ := hkept.cells
  obtain ⟨so, sc, es⟩ := row_shape hkept.own1
  obtain ⟨to', tc, et⟩ := row_shape hkept.own2
  obtain ⟨len, el⟩ : ∃ n, zs.length = n := ⟨_, rfl⟩
  obtain ⟨m, em⟩ : ∃ n, st.length = n := ⟨_, rfl⟩
  have EL := Lib.hid el
  have EM := Lib.hid em
  obtain ⟨n, en⟩ : ∃ n, len - 32768 = n := ⟨_, rfl⟩
  rw [el] at es hl
  rw [em] at et
  have hm : m = len - 2 := by rw [← em, hst, el]
  rw [el, en]
  by_cases hn : n = 0
  · subst hn
    have hsub : (len : Int) - 32768 ≤ 0 := by omega
    have d1 : decide ((len : Int) - 32768 ≤ 0) = true := decide_eq_true hsub
    clear hkept hsteps hst h8 el em en q0 q2 q3 q4 q5 q6 hm
    subst es
    go_enter Tryd.func37, Tryd.ntmps37
    go_wp2_with fail
    refine bodyPost_ret (v := .tuple #[]) (by simp [results, Tryd.results37, go_sem]) rfl ⟨rfl, _, ⟨_, t, mb, st, D, HK.out, HST.out, HSL.out, rfl⟩, fun b hb => .inl hb, Past.refl _ _⟩
  have hsub : (len : Int) - 32768 = (n : Int) := by omega
  have d1 : decide ((n : Int) ≤ 0) = false := decide_eq_false (by omega)
  have hnm : n ≤ m := by omega
  have hm2 : m ≤ 65536 := by omega
  have hn3 : n + 3 ≤ len := by omega
  have hl32 : 32768 ≤ len := by omega
  obtain ⟨O0, eO0⟩ : ∃ O0, O0 = blocksK g s t mb := ⟨_, rfl⟩
  have EO0 := Lib.hid eO0
  rw [← eO0]
  clear hkept hsteps hst h8 el em en q0 q2 q3 q4 q5 q6 hm eO0
  subst es
  subst et
  go_enter Tryd.func37, Tryd.ntmps37
  go_wp2_with fail
  clear q1
  go_loopw [14] (fun s14 wr => ∃ (i : Nat) (D' : Book), i ≤ n ∧ s14 = .int .i64 (i : Int) ∧ Hid (Mem wr g out (.slice so len sc) (.slice to' m tc) mb zs first st opn (first + st.length) D') ∧ Hid (LastsFrom zs first st.length i D') ∧ Hid (Past O0 W wr)) (fun s14 _ => n - (intOf s14).toNat)
  case atStart => exact ⟨0, D, Nat.zero_le _, rfl, HK.out.mem, LastsFrom.start HK.out.last, Past.refl _ _⟩
  case round =>
    obtain ⟨i, D', hi, rfl, hM, hL, hP⟩ := hrel
    have q1 := cell_of_block hM.out.blk 1
    have q2 := cell_of_block hM.out.blk 2
    have q3 := cell_of_block hM.out.blk 3
    have q4 := cell_of_block hM.out.blk 4
    have hfro := fun j => unfrozen_of_block hM.out.blk j
    by_cases hlt : i < n
    · have d2 : decide ((i : Int) < (n : Int)) = true := decide_eq_true (by omega)
      have d2n : decide (i < n) = true := decide_eq_true hlt
      have K3 := three_code g (.slice so len sc) zs i wr q1 (own_listed (by have := hM.out.own1; exact this)) H8.out (by rw [EL.out]; omega) (by rw [EL.out]; omega)
      obtain ⟨p, hq, hip, hat⟩ := hL.out.at_ H8.out (i := i) (by rw [EM.out]; omega)
      have hpm := (lastOf_some hq).1
      rw [EM.out] at hpm
      obtain ⟨T, eT⟩ : ∃ T, three zs i = T := ⟨_, rfl⟩
      have hT : T < 16777216 := by rw [← eT]; exact three_lt zs H8.out i
      have HTW := Lib.hid (u32_wf T (by omega))
      have HGO : Hid (p = i → LastsFrom zs first st.length (i + 1) (D'.del (.int .u32 (T : Int)))) := fun e => by
        rw [← eT]
        exact hL.out.gone (by rw [hq, e])
      have HSTAY : Hid (p ≠ i → LastsFrom zs first st.length (i + 1) D') := fun e => hL.out.stays hq e
      rw [eT] at K3 hat
      have hlook : ∀ k, (Instr.lookup 52 (.map (some mb)) (.int .u32 (T : Int)) false).run Tryd.prog (wr.drewN k) = .ok (.int .i64 ((first + p : Nat) : Int)) (wr.drewN k) := fun k => by
        obtain ⟨c, hrun, hc, _⟩ := (ownsMap_drewN hM.out.map k).lookup_int keyLaw Tryd.underlying52 Tryd.underlying3 (zeroInt _) (keyOf_int_mk Tryd.underlying44 HTW.out)
        rw [book_is D' _ hc hat] at hrun
        exact hrun
      have hsum : (first : Int) + (i : Int) = ((first + i : Nat) : Int) := by omega
      obtain ⟨F, eF⟩ : ∃ F, first + i = F := ⟨_, rfl⟩
      obtain ⟨G, eG⟩ : ∃ G, first + p = G := ⟨_, rfl⟩
      rw [eF] at hsum
      rw [eG] at hlook
      have hF : F ≤ 1099511627776 + 65536 := by omega
      have wF : IntKind.i64.wrap (F : Int) = (F : Int) := by rw [IntKind.wrap_i64]; omega
      by_cases hpi : p = i
      · have hGF : G = F := by omega
        subst hGF
        have HLF := Lib.hid (HGO.out hpi)
        clear hq hat eT eF eG hpm hip hpi
        go_wp2_with fail
        go_at_call 38
        refine K3.mono ?_
        rintro e w' ⟨rfl, k, rfl⟩
        go_wp2_with fail
        go_quiet (fail)
        go_wp2_with (at_delete; refine wpList_delete_own _ rfl _ _ 52 44 rfl 3 keyLaw Tryd.underlying52 _ mb (first + st.length) D' rfl (ownsMap_drewN hM.out.map _) _ _ rfl (keyOf_int_mk Tryd.underlying44 HTW.out) ?_; intro w1 hown1 hturn1)
        obtain ⟨k1, k2⟩ := (hM.out.drewN _).turned hown1 hturn1.grown
        have hP2 : Past O0 W w1 := hP.out.trans (by rw [EO0.out]; exact ⟨k2.os, k2.tape, k2.output, k2.size, k2.block⟩) (fun b hb => .inl hb)
        go_roundw
        case rel => exact ⟨i + 1, _, by omega, by go_num, k1, HLF.out, hP2⟩
        case measure => simp [intOf]; omega
      · have hne1 : ((G : Int) == (F : Int)) = false := by simp; omega
        have hne2 : decide ((G : Int) = (F : Int)) = false := decide_eq_false (by omega)
        have HLF := Lib.hid (HSTAY.out hpi)
        clear hq hat eT eF eG hpm hip hpi
        go_wp2_with fail
        go_at_call 38
        refine K3.mono ?_
        rintro e w' ⟨rfl, k, rfl⟩
        go_wp2_with fail
        go_quiet (fail)
        go_wp2_with fail
        go_roundw
        case rel => exact ⟨i + 1, _, by omega, by go_num, hM.out.drewN _, HLF.out, ⟨hP.out.os, hP.out.tape, hP.out.output, hP.out.size, hP.out.block⟩⟩
        case measure => simp [intOf]; omega
    · obtain rfl : i = n := by omega
      have d2 : decide ((i : Int) < (i : Int)) = false := decide_eq_false (by omega)
      have KD1 := deleteU8 (.slice so len sc) zs i wr (by rw [EL.out]; have := hM.out.own1; rw [EL.out] at this; exact this) (by omega) (by rw [EL.out]; omega) (by rw [EL.out]; omega)
      rw [EL.out] at KD1
      have hfirst : (first : Int) + (i : Int) = ((first + i : Nat) : Int) := by omega
      obtain ⟨F, eF⟩ : ∃ F, first + i = F := ⟨_, rfl⟩
      have EF := Lib.hid eF
      rw [eF] at hfirst
      have hF : F ≤ 1099511627776 + 65536 := by omega
      clear eF d1 hsub
      go_wp2_with fail
      go_at_call 48
      refine KD1.mono ?_
      rintro e w1 ⟨u, rfl, a1, a2, a3⟩
      obtain ⟨uo, uc, eu⟩ := row_shape a1
      obtain ⟨k1, k2, k3⟩ := hM.out.cut1 u (by rw [EL.out]; exact a1) a2 a3
      have KD2 := deleteI32 (.slice to' m tc) st i _ k1.own2 (by omega) (by rw [EM.out]; omega) (by rw [EM.out]; omega)
      rw [EM.out] at KD2
      have K1 := Lib.hid k1
      have K2 := Lib.hid k2
      have g1 := cell_of_block k3 1
      have g3 := cell_of_block k3 3
      have f1 := unfrozen_of_block k3 1
      have A2 := Lib.hid a2
      subst eu
      clear q1 q2 q3 q4 hfro a1 a2 a3 k1 k2 k3
      go_wp2_with fail
      go_at_call 49
      refine KD2.mono ?_
      rintro e w2 ⟨u2, rfl, a1, a2, a3⟩
      obtain ⟨uo2, uc2, eu⟩ := row_shape a1
      obtain ⟨k1, k2, k3⟩ := K1.out.cut2 u2 (by rw [EM.out]; exact a1) a2 a3
      obtain ⟨l1, l2⟩ := k1.moved F
      have g2 := cell_of_block k3 2
      have g3b := cell_of_block k3 3
      have f2 := unfrozen_of_block k3 2
      have f3 := unfrozen_of_block k3 3
      have hfin : Kept (World.setCell _ ⟨g, 2, none⟩ (.int .i64 (F : Int))) g out _ _ mb (zs.drop i) F (st.drop i) opn D' := Mem.kept (by rw [List.length_drop, ← EF.out, show first + i + (st.length - i) = first + st.length by rw [EM.out]; omega, EF.out]; exact l1) (by rw [List.length_drop, ← EF.out]; exact hL.out.end_ (by rw [EM.out]; exact hnm))
      have hin : ∀ b, blocksK g (.slice uo (len - i) uc) u2 mb b → O0 b := fun b hb => by
        rw [EO0.out]
        rcases hb with h | h | h | h
        · exact .inl h
        · exact .inr (.inl (by rw [← A2.out]; exact h))
        · exact .inr (.inr (.inl (by rw [← a2]; exact h)))
        · exact .inr (.inr (.inr h))
      have hin0 : ∀ b, blocksK g (.slice uo (len - i) uc) (.slice to' m tc) mb b → O0 b := fun b hb => by
        rw [EO0.out]
        rcases hb with h | h | h | h
        · exact .inl h
        · exact .inr (.inl (by rw [← A2.out]; exact h))
        · exact .inr (.inr (.inl h))
        · exact .inr (.inr (.inr h))
      have hpast : Past O0 W (World.setCell _ ⟨g, 2, none⟩ (.int .i64 (F : Int))) := (hP.out.trans (by rw [EO0.out]; exact K2.out) (fun b hb => .inl hb)).trans (k2.trans l2 (fun b hb => .inl (by rcases hb with h | h | h | h; exact .inl h; exact .inr (.inl h); exact .inr (.inr (.inl (by rw [← a2]; exact h))); exact .inr (.inr (.inr h))))) (fun b hb => .inl (hin0 b hb))
      have HFIN := Lib.hid (And.intro hfin (And.intro hin hpast))
      subst eu
      clear a1 a2 a3 k1 k2 k3 l1 l2 hfin hin hin0 hpast g1 g3 f1
      go_wp2_with fail
      refine bodyPost_end (v := .tuple #[]) (by simp [results, Tryd.results37, go_sem]) rfl ⟨rfl, _, ⟨_, _, mb, _, D', by rw [EF.out]; exact HFIN.out.1, HST.out.drop i, by rw [List.length_drop, List.length_drop, HSL.out]; omega, rfl⟩, fun b hb => .inl (HFIN.out.2.1 b hb), HFIN.out.2.2⟩
end Go.Proofs.YtbhmjppnhlmefaaDoor.Fx
