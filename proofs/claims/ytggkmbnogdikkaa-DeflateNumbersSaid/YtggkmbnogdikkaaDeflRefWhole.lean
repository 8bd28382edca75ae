/-
  The document's own answers of layer 6: Whole. The conditions stand in it.
-/
import Derived.Test.YtggkmbnogdikkaaDeflE
import Derived.Test.YtggkmbnogdikkaaWinQ
import Derived.Test.YtggkmbnogdikkaaNums
namespace Go.Proofs.Ytggkmbnogdikkaa.Fx
open Go Go.RowKit Go.Joins
set_option linter.unusedVariables false
set_option maxHeartbeats 2000000 in
set_option maxRecDepth 100000 in
theorem rwhole_any (W : World) (bv : Value) (zs : List Nat) (hb : bytesIn W bv zs) (h8 : ∀ x ∈ zs, x < 256) (hl : zs.length ≤ 100000) :
    Calls Try.prog 11 #[bv] W fun e w' => ∃ u, e = .returned u ∧ bytesIn w' u (wholeOf zs) ∧ Below W.heap.size W w' := by
  obtain ⟨bo, bc, ebv⟩ := listed_length hb
  have HB := Lib.hid hb
  have H8 := Lib.hid h8
  have HL := Lib.hid hl
  subst ebv
  obtain ⟨n, en⟩ : ∃ n, zs.length = n := ⟨_, rfl⟩
  rw [en] at HB ⊢
  clear hb h8 hl en
  obtain ⟨w0, ew0⟩ : ∃ x, x = W.alloc (.cells #[.slice none 0 0, .int .i64 0, .slice none 0 0, .int .i64 0, .bool false] 36) := ⟨_, rfl⟩
  have hb0 : Below W.heap.size W w0 := by rw [ew0]; exact (Below.refl _ _).alloc (Nat.le_refl _) _
  have KW := rwrite_any (.slice none 0 0) (.slice none 0 0) (.slice bo n bc) [] zs w0 (listed_none _ _) (by rw [List.nil_append]; exact H8.out) (listed_none _ _) (listed_on HB.out hb0) (by have := HL.out; simpa using (by omega : zs.length ≤ 1000000))
  rw [List.nil_append] at KW
  have hz0 : 4096 * fullOf ([] : List Nat).length = 0 := by decide
  have hz1 : (outOf []).length / 8 = 0 := by rfl
  rw [hz0, hz1] at KW
  have c0 : w0.heap[W.heap.size]? = some (.cells #[.slice none 0 0, .int .i64 0, .slice none 0 0, .int .i64 0, .bool false] 36 (0, 0)) := by rw [ew0]; exact heap_alloc_new W _
  have HKW := Lib.hid KW
  clear KW hz0 hz1
  go_enter Try.func11, Try.ntmps11
  go_upto_region 2 with fail
  rw [← ew0]
  have g0 := cell_of_block c0 0
  have g1 := cell_of_block c0 1
  have g2 := cell_of_block c0 2
  have g3 := cell_of_block c0 3
  have g4 := cell_of_block c0 4
  obtain ⟨a, ea⟩ : ∃ a, W.heap.size = a := ⟨_, rfl⟩
  have HA := Lib.hid ea
  have ha0 : a < w0.heap.size := by rw [ew0, ← ea]; exact alloc_lt W _
  have HB0 := Lib.hid hb0
  have HC0 : Hid (w0.heap[a]? = some (.cells #[.slice none 0 0, .int .i64 0, .slice none 0 0, .int .i64 0, .bool false] 36 (0, 0))) := by
    rw [← ea]
    exact c0
  rw [ea] at g0 g1 g2 g3 g4 ⊢
  clear ew0 c0 hb0 ea
  go_wp2_with fail
  go_at_call 17
  refine HKW.out.mono ?_
  rintro e w1 ⟨av', lv', u, rfl, j1, j2, j3, j4, j5, j6, j7, j8⟩
  obtain ⟨X, eX⟩ : ∃ X, bytesAt (outOf zs) 0 ((outOf zs).length / 8 - 0) = X := ⟨_, rfl⟩
  have hXl : (outOf zs).length / 8 - 0 = X.length := by rw [← eX, bytesAt_length]
  have hTX : X = toldOf zs := by
    rw [← eX]
    rfl
  rw [hXl] at j8
  rw [← hXl, eX, hXl] at j8
  rw [eX] at j3
  obtain ⟨ao, ac, ea1⟩ := listed_length j1
  obtain ⟨lo, lc, el1⟩ := listed_length j2
  obtain ⟨uo, uc, eu1⟩ := listed_length j3
  subst ea1 el1 eu1
  have KE := fun (w2 : World) (h1 : bytesIn w2 (.slice ao zs.length ac) zs) (h2 : bools w2 (.slice lo (outOf zs).length lc) (outOf zs)) => rend_any _ _ zs w2 h1 H8.out h2 (by have := HL.out; omega)
  obtain ⟨A, eA⟩ : ∃ A, 4096 * fullOf zs.length = A := ⟨_, rfl⟩
  obtain ⟨T, eT⟩ : ∃ A, (outOf zs).length / 8 = A := ⟨_, rfl⟩
  obtain ⟨Y, eY⟩ : ∃ Y, bytesAt (endOf zs) ((outOf zs).length / 8) ((endOf zs).length / 8 - (outOf zs).length / 8) = Y := ⟨_, rfl⟩
  have hXY : X ++ Y = wholeOf zs := by rw [hTX, ← eY, told_end]
  obtain ⟨m, em⟩ : ∃ A, zs.length = A := ⟨_, rfl⟩
  obtain ⟨l, el⟩ : ∃ A, (outOf zs).length = A := ⟨_, rfl⟩
  obtain ⟨xl, exl⟩ : ∃ A, X.length = A := ⟨_, rfl⟩
  rw [eY] at KE
  rw [eA, eT] at KE ⊢
  rw [em, el] at KE ⊢
  rw [em] at j1 j4
  rw [el] at j2 j5
  rw [exl] at j3 j8 ⊢
  have hz1 : w1.heap[a]? = some (.cells #[.slice none 0 0, .int .i64 0, .slice none 0 0, .int .i64 0, .bool false] 36 (0, 0)) := (j7.block a ha0).trans HC0.out
  have t0 := cell_of_block hz1 0
  have t1 := cell_of_block hz1 1
  have t2 := cell_of_block hz1 2
  have t3 := cell_of_block hz1 3
  have t4 := cell_of_block hz1 4
  have f0 := unfrozen_of_block hz1 0
  have f1 := unfrozen_of_block hz1 1
  have f2 := unfrozen_of_block hz1 2
  have f3 := unfrozen_of_block hz1 3
  have f4 := unfrozen_of_block hz1 4
  have hW1 : Below W.heap.size W w1 := HB0.out.trans (j7.mono HB0.out.size)
  have hHA := HA.out
  have HW2 : Hid (∀ w2, w2 = ((((w1.setCell ⟨a, 0, none⟩ (.slice ao m ac)).setCell ⟨a, 1, none⟩ (.int .i64 (A : Int))).setCell ⟨a, 2, none⟩ (.slice lo l lc)).setCell ⟨a, 3, none⟩ (.int .i64 (T : Int))).setCell ⟨a, 4, none⟩ (.bool false) →
      (w2.heap[a]? = some (.cells #[.slice ao m ac, .int .i64 (A : Int), .slice lo l lc, .int .i64 (T : Int), .bool false] 36 (0, 0)) ∧ bytesIn w2 (.slice ao m ac) zs ∧ bools w2 (.slice lo l lc) (outOf zs) ∧ w2.ownsRow w0.heap.size 5 1 (.slice uo xl uc) xl (X.map byteVal) ∧ w1.heap.size = w2.heap.size ∧ Below W.heap.size W w2)) := by
    intro w2 e2
    subst e2
    have hk : ∀ q, q ≠ a → (((((w1.setCell ⟨a, 0, none⟩ (.slice ao m ac)).setCell ⟨a, 1, none⟩ (.int .i64 (A : Int))).setCell ⟨a, 2, none⟩ (.slice lo l lc)).setCell ⟨a, 3, none⟩ (.int .i64 (T : Int))).setCell ⟨a, 4, none⟩ (.bool false)).heap[q]? = w1.heap[q]? := fun q hq => set5_heap _ _ _ _ _ _ _ _ hq
    have hsz : w1.heap.size = (((((w1.setCell ⟨a, 0, none⟩ (.slice ao m ac)).setCell ⟨a, 1, none⟩ (.int .i64 (A : Int))).setCell ⟨a, 2, none⟩ (.slice lo l lc)).setCell ⟨a, 3, none⟩ (.int .i64 (T : Int))).setCell ⟨a, 4, none⟩ (.bool false)).heap.size := by simp
    refine ⟨block_setCell (block_setCell (block_setCell (block_setCell (block_setCell hz1 _) _) _) _) _, listed_kept j1 (Nat.le_of_eq hsz) (fun q hq => hk q (by have := j4 q hq; omega)), listed_kept j2 (Nat.le_of_eq hsz) (fun q hq => hk q ?_), owns_kept j8 (fun q hq => hk q (by have := (j8.lt q hq).1; omega)), hsz, ?_⟩
    · rcases j5 q hq with h | h
      · rw [h] at hq
        obtain ⟨_, _, _, h, _⟩ := hq
        simp at h
      · omega
    · exact ((((hW1.setCell (p := ⟨a, 0, none⟩) (by show _ ≤ a; omega) _).setCell (p := ⟨a, 1, none⟩) (by show _ ≤ a; omega) _).setCell (p := ⟨a, 2, none⟩) (by show _ ≤ a; omega) _).setCell (p := ⟨a, 3, none⟩) (by show _ ≤ a; omega) _).setCell (p := ⟨a, 4, none⟩) (by show _ ≤ a; omega) _
  have HKE := Lib.hid KE
  have HXY := Lib.hid (And.intro hXY (And.intro exl eX))
  have HLW : Hid ((wholeOf zs).length ≤ 200000 ∧ X.length + Y.length = (wholeOf zs).length) := by
    have h1 := (whole_length zs).1
    have h2 := HL.out
    refine ⟨by omega, by rw [← hXY, List.length_append]⟩
  clear j1 j2 j3 j4 j5 j6 j7 j8 hz1 hW1 hHA KE hXY eX eA eT eY em el exl hXl hTX g0 g1 g2 g3 g4 ha0
  go_upto_region 3 with fail
  obtain ⟨w2, ew2⟩ : ∃ x, x = ((((w1.setCell ⟨a, 0, none⟩ (.slice ao m ac)).setCell ⟨a, 1, none⟩ (.int .i64 (A : Int))).setCell ⟨a, 2, none⟩ (.slice lo l lc)).setCell ⟨a, 3, none⟩ (.int .i64 (T : Int))).setCell ⟨a, 4, none⟩ (.bool false) := ⟨_, rfl⟩
  obtain ⟨k1, k2, k3, k4, k5, k6⟩ := HW2.out w2 ew2
  rw [← ew2]
  clear ew2 HW2 t0 t1 t2 t3 t4 f0 f1 f2 f3 f4
  have s0 := cell_of_block k1 0
  have s1 := cell_of_block k1 1
  have s2 := cell_of_block k1 2
  have s3 := cell_of_block k1 3
  have s4 := cell_of_block k1 4
  have KE := HKE.out w2 k2 k3
  have HK := Lib.hid (And.intro k4 k6)
  clear k1 k2 k3 k4 k5 k6
  go_wp2_with fail
  go_at_call 19
  refine KE.mono ?_
  rintro e w3 ⟨i1, i2, i3, i4, i5, i6, i7, i8, y, rfl, hy, _, hb3⟩
  obtain ⟨yo, yc, ey⟩ := listed_length hy
  obtain ⟨yl, eyl⟩ : ∃ A, Y.length = A := ⟨_, rfl⟩
  rw [eyl] at ey
  subst ey
  obtain ⟨hown, hW2⟩ := HK.out
  have HF : Hid (∀ w4, Below w3.heap.size w3 w4 → w4.ownsRow w0.heap.size 5 1 (.slice uo xl uc) xl (X.map byteVal) ∧ bytesIn w4 (.slice yo yl yc) Y ∧ Below W.heap.size W w4) := fun w4 h4 => by
    have h24 := hb3.trans (h4.mono hb3.size)
    exact ⟨owns_kept hown (fun q hq => h24.block q (hown.lt q hq).2), listed_on hy h4, hW2.trans (h24.mono hW2.size)⟩
  have HYL := Lib.hid eyl
  clear hy hb3 hown hW2 s0 s1 s2 s3 s4 KE eyl
  go_upto_region 4 with fail
  obtain ⟨w4, ew4⟩ : ∃ x, x = w3.alloc (.cells #[.slice i1 i2 i3, .int .i64 i4, .slice i5 i6 i7, .int .i64 i8, .bool true] 36) := ⟨_, rfl⟩
  obtain ⟨k1, k2, k3⟩ := HF.out w4 (by rw [ew4]; exact (Below.refl _ _).alloc (Nat.le_refl _) _)
  rw [← ew4]
  have h1 : xl + Y.length ≤ 200000 := by have := HLW.out; have := HXY.out.2.1; omega
  have HK4 := Lib.hid (And.intro k1 (And.intro k2 k3))
  clear ew4 HF k1 k2 k3
  go_wp2_with (at_builtin; refine wpList_append_to (c := byteVal) rfl _ _ 25 rfl 5 (.int .u8 0) 1 Try.underlying25 infoByte rfl (fun _ => rfl) (.slice uo xl uc) _ _ rfl (ownsRow_le HK4.out.1 (Nat.zero_le _)) (.slice yo yl yc) Y rfl HK4.out.2.1 (by unfold maxLen; omega) (by omega) ?_)
  intro ov w5 m1 m2 m3
  have hb5 : Below W.heap.size W w5 := HK4.out.2.2.grown m2 HK4.out.2.2.size (fun q hq => by have := (HK4.out.1.lt q hq).1; have := HB0.out.size; omega)
  have hrow : bytesIn w5 ov (wholeOf zs) := by
    have m1' : w5.ownsRow 0 5 1 ov (xl + Y.length) ((X ++ Y).map byteVal) := by
      first | exact m1 | (rw [List.map_append]; exact m1)
    rw [HXY.out.1] at m1'
    exact own_listed m1'
  obtain ⟨oo, oc, eo⟩ := listed_length hrow
  subst eo
  have HR := Lib.hid (And.intro hrow hb5)
  clear m1 m2 m3 hb5 hrow
  go_wp2_with fail
  go_ret
  exact ⟨_, rfl, HR.out⟩
end Go.Proofs.Ytggkmbnogdikkaa.Fx
