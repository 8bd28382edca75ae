/-
  The document's own answers of layer 6: symbols by the fixed codes. The conditions stand in each.
-/
import Derived.Test.YtggkmbnogdikkaaDeflR
namespace Go.Proofs.Ytggkmbnogdikkaa.Fx
open Go Go.RowKit Go.Joins
set_option linter.unusedVariables false
set_option maxHeartbeats 4000000 in
set_option maxRecDepth 100000 in
theorem rfixed_any (vL : Value) (L : List Bool) (t : Int) (n : Nat) (W : World) (hr : bools W vL L) (hl : L.length ≤ 1099511620000) (hn : n ≤ 287) :
    Calls Try.prog 74 #[.agg #[vL, .int .i64 t], .int .i64 (n : Int)] W fun e w' =>
      ∃ u, e = .returned (.agg #[u, .int .i64 t]) ∧ bools w' u (L ++ fixedSym n) ∧ (∀ q, inBlock u q → W.heap.size ≤ q) ∧ Below W.heap.size W w' := by
  obtain ⟨w1, e1, hs1, hB0, hB1, hbl⟩ := two_blocks W 34 vL (.int .i64 t) (.slice none 0 0) (.int .i64 0)
  have HR := Lib.hid (listed_on hr hbl)
  obtain ⟨vo, vc, rfl⟩ := listed_length hr
  obtain ⟨l, el⟩ : ∃ l, L.length = l := ⟨_, rfl⟩
  have EL := Lib.hid el
  rw [el] at HR hB0 e1 ⊢
  clear hr el
  have q0 := cell_of_block hB0 0
  have q1 := cell_of_block hB0 1
  have HB1 := Lib.hid hB1
  have HBL := Lib.hid hbl
  have hne : ¬ W.heap.size = W.heap.size + 1 := by omega
  clear hB0 hB1 hbl
  by_cases h1 : n ≤ 143
  · have d1 : decide ((n : Int) ≤ 143) = true := decide_eq_true (by omega)
    have KB := rbits_some (.slice vo l vc) L t (48 + n) 8 true w1 HR.out (by omega) (by decide) (by decide) (by omega)
    have HS : Hid (L ++ fixedSym n = L ++ someBits (48 + n) 8 true) := by
      show _ = _
      congr 1
      unfold fixedSym
      rw [if_pos h1]; rfl
    have hv : (48 : Int) + (n : Int) = (((48 + n) : Nat) : Int) := by omega
    have bv : (48 + n) ≤ 1000 := by omega
    generalize hVV : (48 + n) = V at *
    clear hVV
    rw [EL.out] at KB
    go_enter Try.func74, Try.ntmps74
    go_wp2_with fail
    rw [← e1]
    clear e1
    go_at_call 73
    refine KB.mono ?_
    rintro e w2 ⟨o2, c2, rfl, v1, hfr, hb2⟩
    have hb1 := (hb2.block (W.heap.size + 1) (by omega)).trans HB1.out
    obtain ⟨m2, em2⟩ : ∃ m2, l + 8 = m2 := ⟨_, rfl⟩
    rw [em2] at v1 hfr ⊢
    have V1 := Lib.hid v1
    have HFR := Lib.hid hfr
    have HB2 := Lib.hid hb2
    clear v1 em2 hfr hb2 KB q0 q1
    have q2 := cell_of_block hb1 0
    have q3 := cell_of_block hb1 1
    have f2 := unfrozen_of_block hb1 0
    have f3 := unfrozen_of_block hb1 1
    clear hb1
    go_wp2_with fail
    refine bodyPost_ret (v := .agg #[.slice o2 m2 c2, .int .i64 t]) ?_ rfl ⟨_, rfl, ?_, fun q hq => ?_, ?_⟩
    · simp [results, Try.results74, asAddr, Result.andThen, go_sem, q2, q3]
    · rw [HS.out]
      refine listed_kept V1.out (Nat.le_of_eq (by simp)) (fun q hq => ?_)
      have hge := HFR.out q hq
      rw [Below.heap_setCell _ _ _ q (by show q ≠ W.heap.size + 1; omega), Below.heap_setCell _ _ _ q (by show q ≠ W.heap.size + 1; omega)]
    · have := HFR.out q hq
      omega
    · exact ((HBL.out.trans (HB2.out.mono (by omega))).setCell (p := ⟨W.heap.size + 1, 0, none⟩) (Nat.le_succ _) _).setCell (p := ⟨W.heap.size + 1, 1, none⟩) (Nat.le_succ _) _
  · have d1 : decide ((n : Int) ≤ 143) = false := decide_eq_false (by omega)
    by_cases h2 : n ≤ 255
    · have d2 : decide ((n : Int) ≤ 255) = true := decide_eq_true (by omega)
      have KB := rbits_some (.slice vo l vc) L t (400 + n - 144) 9 true w1 HR.out (by omega) (by decide) (by decide) (by omega)
      have HS : Hid (L ++ fixedSym n = L ++ someBits (400 + n - 144) 9 true) := by
        show _ = _
        congr 1
        unfold fixedSym
        rw [if_neg h1, if_pos h2]; rfl
      have hv : (400 : Int) + (n : Int) - 144 = (((400 + n - 144) : Nat) : Int) := by omega
      have bv : (400 + n - 144) ≤ 1000 := by omega
      generalize hVV : (400 + n - 144) = V at *
      clear hVV
      rw [EL.out] at KB
      go_enter Try.func74, Try.ntmps74
      go_wp2_with fail
      rw [← e1]
      clear e1
      go_at_call 73
      refine KB.mono ?_
      rintro e w2 ⟨o2, c2, rfl, v1, hfr, hb2⟩
      have hb1 := (hb2.block (W.heap.size + 1) (by omega)).trans HB1.out
      obtain ⟨m2, em2⟩ : ∃ m2, l + 9 = m2 := ⟨_, rfl⟩
      rw [em2] at v1 hfr ⊢
      have V1 := Lib.hid v1
      have HFR := Lib.hid hfr
      have HB2 := Lib.hid hb2
      clear v1 em2 hfr hb2 KB q0 q1
      have q2 := cell_of_block hb1 0
      have q3 := cell_of_block hb1 1
      have f2 := unfrozen_of_block hb1 0
      have f3 := unfrozen_of_block hb1 1
      clear hb1
      go_wp2_with fail
      refine bodyPost_ret (v := .agg #[.slice o2 m2 c2, .int .i64 t]) ?_ rfl ⟨_, rfl, ?_, fun q hq => ?_, ?_⟩
      · simp [results, Try.results74, asAddr, Result.andThen, go_sem, q2, q3]
      · rw [HS.out]
        refine listed_kept V1.out (Nat.le_of_eq (by simp)) (fun q hq => ?_)
        have hge := HFR.out q hq
        rw [Below.heap_setCell _ _ _ q (by show q ≠ W.heap.size + 1; omega), Below.heap_setCell _ _ _ q (by show q ≠ W.heap.size + 1; omega)]
      · have := HFR.out q hq
        omega
      · exact ((HBL.out.trans (HB2.out.mono (by omega))).setCell (p := ⟨W.heap.size + 1, 0, none⟩) (Nat.le_succ _) _).setCell (p := ⟨W.heap.size + 1, 1, none⟩) (Nat.le_succ _) _
    · have d2 : decide ((n : Int) ≤ 255) = false := decide_eq_false (by omega)
      by_cases h3 : n ≤ 279
      · have d3 : decide ((n : Int) ≤ 279) = true := decide_eq_true (by omega)
        have KB := rbits_some (.slice vo l vc) L t (n - 256) 7 true w1 HR.out (by omega) (by decide) (by decide) (by omega)
        have HS : Hid (L ++ fixedSym n = L ++ someBits (n - 256) 7 true) := by
          show _ = _
          congr 1
          unfold fixedSym
          rw [if_neg h1, if_neg h2, if_pos h3]; rfl
        have hv : (n : Int) - 256 = (((n - 256) : Nat) : Int) := by omega
        have bv : (n - 256) ≤ 1000 := by omega
        generalize hVV : (n - 256) = V at *
        clear hVV
        rw [EL.out] at KB
        go_enter Try.func74, Try.ntmps74
        go_wp2_with fail
        rw [← e1]
        clear e1
        go_at_call 73
        refine KB.mono ?_
        rintro e w2 ⟨o2, c2, rfl, v1, hfr, hb2⟩
        have hb1 := (hb2.block (W.heap.size + 1) (by omega)).trans HB1.out
        obtain ⟨m2, em2⟩ : ∃ m2, l + 7 = m2 := ⟨_, rfl⟩
        rw [em2] at v1 hfr ⊢
        have V1 := Lib.hid v1
        have HFR := Lib.hid hfr
        have HB2 := Lib.hid hb2
        clear v1 em2 hfr hb2 KB q0 q1
        have q2 := cell_of_block hb1 0
        have q3 := cell_of_block hb1 1
        have f2 := unfrozen_of_block hb1 0
        have f3 := unfrozen_of_block hb1 1
        clear hb1
        go_wp2_with fail
        refine bodyPost_ret (v := .agg #[.slice o2 m2 c2, .int .i64 t]) ?_ rfl ⟨_, rfl, ?_, fun q hq => ?_, ?_⟩
        · simp [results, Try.results74, asAddr, Result.andThen, go_sem, q2, q3]
        · rw [HS.out]
          refine listed_kept V1.out (Nat.le_of_eq (by simp)) (fun q hq => ?_)
          have hge := HFR.out q hq
          rw [Below.heap_setCell _ _ _ q (by show q ≠ W.heap.size + 1; omega), Below.heap_setCell _ _ _ q (by show q ≠ W.heap.size + 1; omega)]
        · have := HFR.out q hq
          omega
        · exact ((HBL.out.trans (HB2.out.mono (by omega))).setCell (p := ⟨W.heap.size + 1, 0, none⟩) (Nat.le_succ _) _).setCell (p := ⟨W.heap.size + 1, 1, none⟩) (Nat.le_succ _) _
      · have d3 : decide ((n : Int) ≤ 279) = false := decide_eq_false (by omega)
        have KB := rbits_some (.slice vo l vc) L t (192 + n - 280) 8 true w1 HR.out (by omega) (by decide) (by decide) (by omega)
        have HS : Hid (L ++ fixedSym n = L ++ someBits (192 + n - 280) 8 true) := by
          show _ = _
          congr 1
          unfold fixedSym
          rw [if_neg h1, if_neg h2, if_neg h3]; rfl
        have hv : (192 : Int) + (n : Int) - 280 = (((192 + n - 280) : Nat) : Int) := by omega
        have bv : (192 + n - 280) ≤ 1000 := by omega
        generalize hVV : (192 + n - 280) = V at *
        clear hVV
        rw [EL.out] at KB
        go_enter Try.func74, Try.ntmps74
        go_wp2_with fail
        rw [← e1]
        clear e1
        go_at_call 73
        refine KB.mono ?_
        rintro e w2 ⟨o2, c2, rfl, v1, hfr, hb2⟩
        have hb1 := (hb2.block (W.heap.size + 1) (by omega)).trans HB1.out
        obtain ⟨m2, em2⟩ : ∃ m2, l + 8 = m2 := ⟨_, rfl⟩
        rw [em2] at v1 hfr ⊢
        have V1 := Lib.hid v1
        have HFR := Lib.hid hfr
        have HB2 := Lib.hid hb2
        clear v1 em2 hfr hb2 KB q0 q1
        have q2 := cell_of_block hb1 0
        have q3 := cell_of_block hb1 1
        have f2 := unfrozen_of_block hb1 0
        have f3 := unfrozen_of_block hb1 1
        clear hb1
        go_wp2_with fail
        refine bodyPost_ret (v := .agg #[.slice o2 m2 c2, .int .i64 t]) ?_ rfl ⟨_, rfl, ?_, fun q hq => ?_, ?_⟩
        · simp [results, Try.results74, asAddr, Result.andThen, go_sem, q2, q3]
        · rw [HS.out]
          refine listed_kept V1.out (Nat.le_of_eq (by simp)) (fun q hq => ?_)
          have hge := HFR.out q hq
          rw [Below.heap_setCell _ _ _ q (by show q ≠ W.heap.size + 1; omega), Below.heap_setCell _ _ _ q (by show q ≠ W.heap.size + 1; omega)]
        · have := HFR.out q hq
          omega
        · exact ((HBL.out.trans (HB2.out.mono (by omega))).setCell (p := ⟨W.heap.size + 1, 0, none⟩) (Nat.le_succ _) _).setCell (p := ⟨W.heap.size + 1, 1, none⟩) (Nat.le_succ _) _
end Go.Proofs.Ytggkmbnogdikkaa.Fx
