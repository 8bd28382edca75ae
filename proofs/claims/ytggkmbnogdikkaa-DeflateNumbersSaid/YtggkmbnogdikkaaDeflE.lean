/-
  The document's own answers of layer 6: End. The conditions stand in it.
-/
import Derived.Test.YtggkmbnogdikkaaDeflZ
namespace Go.Proofs.Ytggkmbnogdikkaa.Fx
open Go Go.RowKit Go.Joins
set_option linter.unusedVariables false
set_option maxHeartbeats 2000000 in
set_option maxRecDepth 100000 in
theorem rend_any (av lv : Value) (all : List Nat) (W : World) (ha : bytesIn W av all) (h8 : ∀ x ∈ all, x < 256) (hl : bools W lv (outOf all)) (hz : all.length ≤ 1000000) :
    Calls Try.prog 19 #[.agg #[av, .int .i64 ((4096 * fullOf all.length : Nat) : Int), lv, .int .i64 (((outOf all).length / 8 : Nat) : Int), .bool false]] W fun e w' =>
      ∃ o1 n1 c1 x1 o2 n2 c2 x2 u, e = .returned (.tuple #[.agg #[.slice o1 n1 c1, .int .i64 x1, .slice o2 n2 c2, .int .i64 x2, .bool true], u, .int .i64 0]) ∧ bytesIn w' u (bytesAt (endOf all) ((outOf all).length / 8) ((endOf all).length / 8 - (outOf all).length / 8)) ∧ (∀ q, inBlock u q → W.heap.size ≤ q) ∧ Below W.heap.size W w' := by
  obtain ⟨ao, ac, rfl⟩ := listed_length ha
  obtain ⟨lo, lc, rfl⟩ := listed_length hl
  have HA := Lib.hid ha
  have HL := Lib.hid hl
  have H8 := Lib.hid h8
  obtain ⟨A, eA⟩ : ∃ A, 4096 * fullOf all.length = A := ⟨_, rfl⟩
  obtain ⟨T, eT⟩ : ∃ A, (outOf all).length / 8 = A := ⟨_, rfl⟩
  have hAB : Hid (A ≤ all.length ∧ all.length - A ≤ 65535 ∧ endOf all = aligned (blockOf (outOf all) all A all.length 1)) := by
    have hh : 4096 * fullOf all.length ≤ all.length ∧ all.length - 4096 * fullOf all.length ≤ 65535 := by unfold fullOf; omega
    refine ⟨by omega, by omega, ?_⟩
    unfold endOf outOf
    rw [eA]
  have hlen : Hid ((outOf all).length ≤ 549755813888 ∧ (blockOf (outOf all) all A all.length 1).length ≤ 1099511627000 ∧ (endOf all).length ≤ 1099511627000 ∧ 8 * T ≤ (endOf all).length) := by
    obtain ⟨y, hy⟩ := endOf_more all
    obtain ⟨h1, h2⟩ := endOf_length all
    have h3 : (endOf all).length = (outOf all).length + y.length := by rw [hy, List.length_append]
    have hf : fullOf all.length ≤ 1000000 := by unfold fullOf; omega
    have h4 : (blockOf (outOf all) all A all.length 1).length ≤ (endOf all).length := by
      rw [hAB.out.2.2]
      unfold aligned
      rw [List.length_append]
      omega
    refine ⟨by omega, by omega, by omega, by omega⟩
  obtain ⟨n, en⟩ : ∃ A, all.length = A := ⟨_, rfl⟩
  obtain ⟨ln, eln⟩ : ∃ A, (outOf all).length = A := ⟨_, rfl⟩
  have EN := Lib.hid en
  have KB := fun w (hb : Below W.heap.size W w) => wblock_any (.slice ao all.length ac) (.slice lo (outOf all).length lc) all (outOf all) A all.length 1 (T : Int) false w (listed_on ha hb) h8 (listed_on hl hb) hAB.out.1 (Nat.le_refl _) hAB.out.2.1 (by omega) hlen.out.1 (by omega)
  have HKB := Lib.hid KB
  rw [eA, eT]
  rw [en] at HA HKB ⊢
  rw [eln] at HL HKB ⊢
  obtain ⟨w1, e1, hs1, hB0, hB1, hbl⟩ := two_blocks5 W 36 (.slice ao n ac) (.int .i64 (A : Int)) (.slice lo ln lc) (.int .i64 (T : Int)) (.bool false) (.slice none 0 0) (.int .i64 0) (.slice none 0 0) (.int .i64 0) (.bool false)
  clear ha hl h8 hz eA eT en eln KB
  have q0 := cell_of_block hB0 0
  have q1 := cell_of_block hB0 1
  have q2 := cell_of_block hB0 2
  have q3 := cell_of_block hB0 3
  have q4 := cell_of_block hB0 4
  have HB0 := Lib.hid hB0
  have HB1 := Lib.hid hB1
  have HBL := Lib.hid hbl
  have HS1 := Lib.hid hs1
  have KB1 := HKB.out w1 hbl
  have KB1' := Lib.hid KB1
  clear hB0 hB1 hbl hs1 KB1
  go_enter Try.func19, Try.ntmps19
  go_upto_region 3 with fail
  rw [← e1]
  clear e1
  go_wp2_with fail
  go_at_call 36
  refine KB1'.out.mono ?_
  rintro e w4 ⟨u, rfl, v1, v2, v3⟩
  obtain ⟨o', c', rfl⟩ := listed_length v1
  obtain ⟨L, eL⟩ : ∃ L, blockOf (outOf all) all A n 1 = L := ⟨_, rfl⟩
  have EL : Hid (endOf all = aligned L) := by
    have h := hAB.out.2.2
    rw [EN.out, eL] at h
    exact h
  have ELL : Hid (L.length ≤ 1099511627000) := by
    have h := hlen.out.2.1
    rw [EN.out, eL] at h
    exact h
  rw [eL] at v1 v2 ⊢
  obtain ⟨l', el'⟩ : ∃ l', L.length = l' := ⟨_, rfl⟩
  rw [el'] at v1 v2 ⊢
  have V1 := Lib.hid v1
  have V2 := Lib.hid v2
  have V3 := Lib.hid v3
  have hD0 := (v3.block W.heap.size (by have := HS1.out; omega)).trans HB0.out
  have hD1 := (v3.block (W.heap.size + 1) (by have := HS1.out; omega)).trans HB1.out
  have HD0 := Lib.hid hD0
  have HD1 := Lib.hid hD1
  have f0 := unfrozen_of_block hD0 0
  have f1 := unfrozen_of_block hD0 1
  have f2 := unfrozen_of_block hD0 2
  have f3 := unfrozen_of_block hD0 3
  have f4 := unfrozen_of_block hD0 4
  have g0 := cell_of_block hD0 0
  have g1 := cell_of_block hD0 1
  have g2 := cell_of_block hD0 2
  have g3 := cell_of_block hD0 3
  have g4 := cell_of_block hD0 4
  clear v1 v2 v3 hD0 hD1 el' KB1' eL q0 q1 q2 q3 q4
  go_upto_region 4 with fail
  have hBs : Hid (W.heap.size < w4.heap.size ∧ W.heap.size + 1 < w4.heap.size) := ⟨by have := HS1.out; have := V3.out.size; omega, by have := HS1.out; have := V3.out.size; omega⟩
  obtain ⟨x, ex⟩ : ∃ x, x = ((((w4.setCell ⟨W.heap.size, 0, none⟩ (.slice ao n ac)).setCell ⟨W.heap.size, 1, none⟩ (.int .i64 (n : Int))).setCell ⟨W.heap.size, 2, none⟩ (.slice o' l' c')).setCell ⟨W.heap.size, 3, none⟩ (.int .i64 (T : Int))).setCell ⟨W.heap.size, 4, none⟩ (.bool false) := ⟨_, rfl⟩
  have hX0 : x.heap[W.heap.size]? = some (.cells #[.slice ao n ac, .int .i64 (n : Int), .slice o' l' c', .int .i64 (T : Int), .bool false] 36 (0, 0)) := by
    rw [ex]
    exact block_setCell (block_setCell (block_setCell (block_setCell (block_setCell HD0.out _) _) _) _) _
  have hX1 : x.heap[W.heap.size + 1]? = some (.cells #[.slice none 0 0, .int .i64 0, .slice none 0 0, .int .i64 0, .bool false] 36 (0, 0)) := by
    rw [ex, set5_heap _ _ _ _ _ _ _ _ (by omega)]
    exact HD1.out
  have HXS : Hid (x.heap.size = w4.heap.size) := by
    show _ = _
    rw [ex]
    simp
  have HXB : Hid (bools x (.slice o' l' c') L) := by
    rw [ex]
    refine listed_kept V1.out (by simp) (fun q hq => set5_heap _ _ _ _ _ _ _ _ ?_)
    have := V2.out q hq
    have := HS1.out
    omega
  have HXW : Hid (Below W.heap.size W x) := by
    show Below _ _ _
    rw [ex]
    exact (((((HBL.out.trans (V3.out.mono HBL.out.size)).setCell (p := ⟨W.heap.size, 0, none⟩) (Nat.le_refl _) _).setCell (p := ⟨W.heap.size, 1, none⟩) (Nat.le_refl _) _).setCell (p := ⟨W.heap.size, 2, none⟩) (Nat.le_refl _) _).setCell (p := ⟨W.heap.size, 3, none⟩) (Nat.le_refl _) _).setCell (p := ⟨W.heap.size, 4, none⟩) (Nat.le_refl _) _
  have HUB : Hid (∀ q, inBlock (.slice o' l' c') q → W.heap.size + 1 < q) := fun q hq => by
    have := V2.out q hq
    have := HS1.out
    omega
  rw [← ex]
  clear ex f0 f1 f2 f3 f4 g0 g1 g2 g3 g4
  have HX0 := Lib.hid hX0
  have HX1 := Lib.hid hX1
  have g2 := cell_of_block hX0 2
  have g3 := cell_of_block hX0 3
  clear hX0 hX1
  go_wp2_with fail
  go_at_call 39
  refine (rwalign_any (.slice o' l' c') L (T : Int) x HXB.out ELL.out).mono ?_
  rintro e w5 ⟨u5, rfl, v1, v2, v3⟩
  rw [← EL.out] at v1
  obtain ⟨o5, c5, rfl⟩ := listed_length v1
  obtain ⟨l5, el5⟩ : ∃ l5, (endOf all).length = l5 := ⟨_, rfl⟩
  rw [el5] at v1 v2 ⊢
  have EL5 := Lib.hid el5
  have HW5 : Hid (Below W.heap.size W w5) := HXW.out.trans (v3.mono HXW.out.size)
  have hE0 := (v3.block W.heap.size (by have := HXS.out; have := hBs.out; omega)).trans HX0.out
  have hE1 := (v3.block (W.heap.size + 1) (by have := HXS.out; have := hBs.out; omega)).trans HX1.out
  have V15 := Lib.hid v1
  have HUB5 : Hid (∀ q, inBlock (.slice o5 l5 c5) q → W.heap.size + 1 < q) := fun q hq => by
    rcases v2 q hq with h | h
    · exact HUB.out q (by rw [← h]; exact hq)
    · have := HXS.out
      have := hBs.out
      omega
  have HBS5 : Hid (W.heap.size + 1 < w5.heap.size) := by
    have := HXS.out
    have := hBs.out
    have := v3.size
    show _ < _
    omega
  have HE0 := Lib.hid hE0
  have HE1 := Lib.hid hE1
  clear g2 g3 v1 v2 v3 el5
  have f2 := unfrozen_of_block hE0 2
  have f3 := unfrozen_of_block hE0 3
  have f4 := unfrozen_of_block hE0 4
  have g2 := cell_of_block hE0 2
  have g3 := cell_of_block hE0 3
  have g4 := cell_of_block hE0 4
  clear hE0 hE1
  go_upto_region 6 with fail
  obtain ⟨y, ey⟩ : ∃ y, y = ((w5.setCell ⟨W.heap.size, 2, none⟩ (.slice o5 l5 c5)).setCell ⟨W.heap.size, 3, none⟩ (.int .i64 (T : Int))).setCell ⟨W.heap.size, 4, none⟩ (.bool true) := ⟨_, rfl⟩
  have hY0 : y.heap[W.heap.size]? = some (.cells #[.slice ao n ac, .int .i64 (n : Int), .slice o5 l5 c5, .int .i64 (T : Int), .bool true] 36 (0, 0)) := by
    rw [ey]
    exact block_setCell (block_setCell (block_setCell HE0.out _) _) _
  have hY1 : y.heap[W.heap.size + 1]? = some (.cells #[.slice none 0 0, .int .i64 0, .slice none 0 0, .int .i64 0, .bool false] 36 (0, 0)) := by
    rw [ey, Below.heap_setCell _ _ _ _ (by show W.heap.size + 1 ≠ W.heap.size; omega), Below.heap_setCell _ _ _ _ (by show W.heap.size + 1 ≠ W.heap.size; omega), Below.heap_setCell _ _ _ _ (by show W.heap.size + 1 ≠ W.heap.size; omega)]
    exact HE1.out
  have HYS : Hid (y.heap.size = w5.heap.size) := by
    show _ = _
    rw [ey]
    simp
  have HYW : Hid (Below W.heap.size W y) := by
    show Below _ _ _
    rw [ey]
    exact ((HW5.out.setCell (p := ⟨W.heap.size, 2, none⟩) (Nat.le_refl _) _).setCell (p := ⟨W.heap.size, 3, none⟩) (Nat.le_refl _) _).setCell (p := ⟨W.heap.size, 4, none⟩) (Nat.le_refl _) _
  have HYB : Hid (bools y (.slice o5 l5 c5) (endOf all)) := by
    rw [ey]
    refine listed_kept V15.out (by simp) (fun q hq => ?_)
    have h := HUB5.out q hq
    rw [Below.heap_setCell _ _ _ _ (by show q ≠ W.heap.size; omega), Below.heap_setCell _ _ _ _ (by show q ≠ W.heap.size; omega), Below.heap_setCell _ _ _ _ (by show q ≠ W.heap.size; omega)]
  rw [← ey]
  clear ey f2 f3 f4 g2 g3 g4
  have HY0 := Lib.hid hY0
  have HY1 := Lib.hid hY1
  have g2 := cell_of_block hY0 2
  have g3 := cell_of_block hY0 3
  clear hY0 hY1
  have KT := rtake_any (.slice o5 l5 c5) (endOf all) T y HYB.out hlen.out.2.2.1 hlen.out.2.2.2
  go_wp2_with fail
  go_at_call 37
  refine KT.mono ?_
  rintro e w6 ⟨u, rfl, v1, v2, v3⟩
  obtain ⟨uo, uc, rfl⟩ := listed_length v1
  obtain ⟨ul, eul⟩ : ∃ z, (bytesAt (endOf all) T ((endOf all).length / 8 - T)).length = z := ⟨_, rfl⟩
  obtain ⟨T', eT'⟩ : ∃ z, (endOf all).length / 8 = z := ⟨_, rfl⟩
  rw [eul] at v1 v2 ⊢
  have ET' := Lib.hid eT'
  rw [eT'] at v1 ⊢
  have V16 := Lib.hid v1
  have V26 := Lib.hid v2
  have V36 := Lib.hid v3
  have HF0 := Lib.hid ((v3.block W.heap.size (by have := HYS.out; have := HBS5.out; omega)).trans HY0.out)
  have HF1 := Lib.hid ((v3.block (W.heap.size + 1) (by have := HYS.out; have := HBS5.out; omega)).trans HY1.out)
  clear v1 v2 v3 eul eT' KT g2 g3
  go_upto_region 7 with fail
  obtain ⟨x6, ex6⟩ : ∃ x, x = w6.alloc (.cells #[.slice o5 l5 c5, .int .i64 (T' : Int)] 34) := ⟨_, rfl⟩
  have HB6 : Hid (Below w6.heap.size w6 x6) := by
    show Below _ _ _
    rw [ex6]
    exact (Below.refl _ _).alloc (Nat.le_refl _) _
  have hA9 : x6.heap[w6.heap.size]? = some (.cells #[.slice o5 l5 c5, .int .i64 (T' : Int)] 34 (0, 0)) := by
    rw [ex6]
    show (w6.heap.push _)[w6.heap.size]? = _
    simp
  rw [← ex6]
  clear ex6
  have hlt1 : W.heap.size + 1 < w6.heap.size := by
    have := HYS.out
    have := HBS5.out
    have := V36.out.size
    omega
  have hA0 := (HB6.out.block W.heap.size (by omega)).trans HF0.out
  have hA1 := (HB6.out.block (W.heap.size + 1) hlt1).trans HF1.out
  have U6 : Hid (bytesIn x6 (.slice uo ul uc) (bytesAt (endOf all) T (T' - T))) := listed_on V16.out HB6.out
  have HB6W : Hid (Below W.heap.size W x6) := (HYW.out.trans (V36.out.mono HYW.out.size)).trans (HB6.out.mono (by omega))
  have HU : Hid (∀ q, inBlock (.slice uo ul uc) q → W.heap.size + 1 < q) := fun q hq => by
    have h := V26.out q hq
    have := HYS.out
    have := HBS5.out
    omega
  obtain ⟨g9, eg9⟩ : ∃ g, w6.heap.size = g := ⟨_, rfl⟩
  rw [eg9] at hA9 hlt1 ⊢
  have n9 : ¬ g9 = W.heap.size := by omega
  have n9' : ¬ W.heap.size = g9 := by omega
  have c90 := cell_of_block hA9 0
  have c91 := cell_of_block hA9 1
  have f2 := unfrozen_of_block hA0 2
  have f3 := unfrozen_of_block hA0 3
  have q2 := cell_of_block hA0 2
  have q3 := cell_of_block hA0 3
  have HA1 := Lib.hid hA1
  have HA0 : Hid (((x6.setCell ⟨W.heap.size, 2, none⟩ (.slice o5 l5 c5)).setCell ⟨W.heap.size, 3, none⟩ (.int .i64 (T' : Int))).heap[W.heap.size]? = some (.cells #[.slice ao n ac, .int .i64 (n : Int), .slice o5 l5 c5, .int .i64 (T' : Int), .bool true] 36 (0, 0))) := block_setCell (block_setCell hA0 _) _
  clear hA9 hA0 hA1 eg9 V16 V26 V36 HB6 HF0 HF1 hlt1
  go_upto_region 8 with fail
  obtain ⟨x7, ex7⟩ : ∃ x, x = (x6.setCell ⟨W.heap.size, 2, none⟩ (.slice o5 l5 c5)).setCell ⟨W.heap.size, 3, none⟩ (.int .i64 (T' : Int)) := ⟨_, rfl⟩
  have HK7 : Hid (∀ q, q ≠ W.heap.size → x7.heap[q]? = x6.heap[q]?) := fun q hq => by rw [ex7, Below.heap_setCell _ _ _ q hq, Below.heap_setCell _ _ _ q hq]
  have hs7 : x7.heap.size = x6.heap.size := by rw [ex7]; simp
  have HB7 : Hid (Below W.heap.size W x7) := by
    show Below _ _ _
    rw [ex7]
    exact (HB6W.out.setCell (p := ⟨W.heap.size, 2, none⟩) (Nat.le_refl _) _).setCell (p := ⟨W.heap.size, 3, none⟩) (Nat.le_refl _) _
  rw [← ex7] at HA0 ⊢
  clear ex7 f2 f3 q2 q3 c90 c91 n9 n9'
  have hE1 := (HK7.out (W.heap.size + 1) (by omega)).trans HA1.out
  have U7 : Hid (bytesIn x7 (.slice uo ul uc) (bytesAt (endOf all) T (T' - T))) := listed_kept U6.out (Nat.le_of_eq hs7.symm) (fun q hq => HK7.out q (by have := HU.out q hq; omega))
  have q0 := cell_of_block HA0.out 0
  have q1 := cell_of_block HA0.out 1
  have q2 := cell_of_block HA0.out 2
  have q3 := cell_of_block HA0.out 3
  have q4 := cell_of_block HA0.out 4
  have p0 := cell_of_block hE1 0
  have p1 := cell_of_block hE1 1
  have p2 := cell_of_block hE1 2
  have p3 := cell_of_block hE1 3
  have p4 := cell_of_block hE1 4
  have e0 := unfrozen_of_block hE1 0
  have e1 := unfrozen_of_block hE1 1
  have e2 := unfrozen_of_block hE1 2
  have e3 := unfrozen_of_block hE1 3
  have e4 := unfrozen_of_block hE1 4
  clear hE1 hs7
  go_wp2_with fail
  refine bodyPost_ret (v := .tuple #[.agg #[.slice ao n ac, .int .i64 (n : Int), .slice o5 l5 c5, .int .i64 (T' : Int), .bool true], .slice uo ul uc, .int .i64 0]) ?_ rfl ⟨_, _, _, _, _, _, _, _, .slice uo ul uc, rfl, ?_, fun q hq => by have := HU.out q hq; omega, ?_⟩
  · simp [results, Try.results19, asAddr, Result.andThen, go_sem, p0, p1, p2, p3, p4]
  · have h := listed_kept U7.out (w' := ((((x7.setCell ⟨W.heap.size + 1, 0, none⟩ (.slice ao n ac)).setCell ⟨W.heap.size + 1, 1, none⟩ (.int .i64 (n : Int))).setCell ⟨W.heap.size + 1, 2, none⟩ (.slice o5 l5 c5)).setCell ⟨W.heap.size + 1, 3, none⟩ (.int .i64 (T' : Int))).setCell ⟨W.heap.size + 1, 4, none⟩ (.bool true)) (by simp) (fun q hq => set5_heap _ _ _ _ _ _ _ _ (by have := HU.out q hq; omega))
    rw [ET'.out]
    exact h
  · exact ((((HB7.out.setCell (p := ⟨W.heap.size + 1, 0, none⟩) (Nat.le_succ _) _).setCell (p := ⟨W.heap.size + 1, 1, none⟩) (Nat.le_succ _) _).setCell (p := ⟨W.heap.size + 1, 2, none⟩) (Nat.le_succ _) _).setCell (p := ⟨W.heap.size + 1, 3, none⟩) (Nat.le_succ _) _).setCell (p := ⟨W.heap.size + 1, 4, none⟩) (Nat.le_succ _) _
end Go.Proofs.Ytggkmbnogdikkaa.Fx
