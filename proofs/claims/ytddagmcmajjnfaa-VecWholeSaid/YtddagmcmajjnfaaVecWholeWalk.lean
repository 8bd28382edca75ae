/-
  VecWhole, walked. The condition: the numbers are of 8 bits.
-/
import Derived.IntWalk
import Derived.Deep.DeepCutAuto
import Derived.Test.YtddagmcmajjnfaaMulti
import Derived.Test.YtddagmcmajjnfaaVecWholeF
namespace Go.Proofs.Ytddagmcmajjnfaa.Fx
open Go Go.RowKit
set_option linter.unusedVariables false
theorem p4_keep {e0 e1 e2 e3 e4 e5 e6 e7 e8 e9 e10 e11 : Int} {g0 g1 g2 g3 : Nat} {w w1 w2 : World} (h : w1.cell? ⟨g0, 0, none⟩ = some (.int .i64 e0) ∧ w1.cell? ⟨g0, 1, none⟩ = some (.int .i64 e1) ∧ w1.cell? ⟨g0, 2, none⟩ = some (.int .i64 e2) ∧ w1.cell? ⟨g1, 0, none⟩ = some (.int .i64 e3) ∧ w1.cell? ⟨g1, 1, none⟩ = some (.int .i64 e4) ∧ w1.cell? ⟨g1, 2, none⟩ = some (.int .i64 e5) ∧ w1.cell? ⟨g2, 0, none⟩ = some (.int .i64 e6) ∧ w1.cell? ⟨g2, 1, none⟩ = some (.int .i64 e7) ∧ w1.cell? ⟨g2, 2, none⟩ = some (.int .i64 e8) ∧ w1.cell? ⟨g3, 0, none⟩ = some (.int .i64 e9) ∧ w1.cell? ⟨g3, 1, none⟩ = some (.int .i64 e10) ∧ w1.cell? ⟨g3, 2, none⟩ = some (.int .i64 e11) ∧ Below w.heap.size w w1) (hb : Below w1.heap.size w1 w2) : w2.cell? ⟨g0, 0, none⟩ = some (.int .i64 e0) ∧ w2.cell? ⟨g0, 1, none⟩ = some (.int .i64 e1) ∧ w2.cell? ⟨g0, 2, none⟩ = some (.int .i64 e2) ∧ w2.cell? ⟨g1, 0, none⟩ = some (.int .i64 e3) ∧ w2.cell? ⟨g1, 1, none⟩ = some (.int .i64 e4) ∧ w2.cell? ⟨g1, 2, none⟩ = some (.int .i64 e5) ∧ w2.cell? ⟨g2, 0, none⟩ = some (.int .i64 e6) ∧ w2.cell? ⟨g2, 1, none⟩ = some (.int .i64 e7) ∧ w2.cell? ⟨g2, 2, none⟩ = some (.int .i64 e8) ∧ w2.cell? ⟨g3, 0, none⟩ = some (.int .i64 e9) ∧ w2.cell? ⟨g3, 1, none⟩ = some (.int .i64 e10) ∧ w2.cell? ⟨g3, 2, none⟩ = some (.int .i64 e11) ∧ Below w.heap.size w w2 := by
  obtain ⟨c0, c1, c2, c3, c4, c5, c6, c7, c8, c9, c10, c11, hw⟩ := h
  exact ⟨keep_cell hb c0, keep_cell hb c1, keep_cell hb c2, keep_cell hb c3, keep_cell hb c4, keep_cell hb c5, keep_cell hb c6, keep_cell hb c7, keep_cell hb c8, keep_cell hb c9, keep_cell hb c10, keep_cell hb c11, hw.trans (hb.mono hw.size)⟩
theorem p4_drew {e0 e1 e2 e3 e4 e5 e6 e7 e8 e9 e10 e11 : Int} {g0 g1 g2 g3 : Nat} {w w1 : World} (h : w1.cell? ⟨g0, 0, none⟩ = some (.int .i64 e0) ∧ w1.cell? ⟨g0, 1, none⟩ = some (.int .i64 e1) ∧ w1.cell? ⟨g0, 2, none⟩ = some (.int .i64 e2) ∧ w1.cell? ⟨g1, 0, none⟩ = some (.int .i64 e3) ∧ w1.cell? ⟨g1, 1, none⟩ = some (.int .i64 e4) ∧ w1.cell? ⟨g1, 2, none⟩ = some (.int .i64 e5) ∧ w1.cell? ⟨g2, 0, none⟩ = some (.int .i64 e6) ∧ w1.cell? ⟨g2, 1, none⟩ = some (.int .i64 e7) ∧ w1.cell? ⟨g2, 2, none⟩ = some (.int .i64 e8) ∧ w1.cell? ⟨g3, 0, none⟩ = some (.int .i64 e9) ∧ w1.cell? ⟨g3, 1, none⟩ = some (.int .i64 e10) ∧ w1.cell? ⟨g3, 2, none⟩ = some (.int .i64 e11) ∧ Below w.heap.size w w1) : w1.drew.cell? ⟨g0, 0, none⟩ = some (.int .i64 e0) ∧ w1.drew.cell? ⟨g0, 1, none⟩ = some (.int .i64 e1) ∧ w1.drew.cell? ⟨g0, 2, none⟩ = some (.int .i64 e2) ∧ w1.drew.cell? ⟨g1, 0, none⟩ = some (.int .i64 e3) ∧ w1.drew.cell? ⟨g1, 1, none⟩ = some (.int .i64 e4) ∧ w1.drew.cell? ⟨g1, 2, none⟩ = some (.int .i64 e5) ∧ w1.drew.cell? ⟨g2, 0, none⟩ = some (.int .i64 e6) ∧ w1.drew.cell? ⟨g2, 1, none⟩ = some (.int .i64 e7) ∧ w1.drew.cell? ⟨g2, 2, none⟩ = some (.int .i64 e8) ∧ w1.drew.cell? ⟨g3, 0, none⟩ = some (.int .i64 e9) ∧ w1.drew.cell? ⟨g3, 1, none⟩ = some (.int .i64 e10) ∧ w1.drew.cell? ⟨g3, 2, none⟩ = some (.int .i64 e11) ∧ Below w.heap.size w w1.drew := p4_keep h (Below.refl _ _).drew
theorem p4_below {e0 e1 e2 e3 e4 e5 e6 e7 e8 e9 e10 e11 : Int} {g0 g1 g2 g3 : Nat} {w w1 : World} (h : w1.cell? ⟨g0, 0, none⟩ = some (.int .i64 e0) ∧ w1.cell? ⟨g0, 1, none⟩ = some (.int .i64 e1) ∧ w1.cell? ⟨g0, 2, none⟩ = some (.int .i64 e2) ∧ w1.cell? ⟨g1, 0, none⟩ = some (.int .i64 e3) ∧ w1.cell? ⟨g1, 1, none⟩ = some (.int .i64 e4) ∧ w1.cell? ⟨g1, 2, none⟩ = some (.int .i64 e5) ∧ w1.cell? ⟨g2, 0, none⟩ = some (.int .i64 e6) ∧ w1.cell? ⟨g2, 1, none⟩ = some (.int .i64 e7) ∧ w1.cell? ⟨g2, 2, none⟩ = some (.int .i64 e8) ∧ w1.cell? ⟨g3, 0, none⟩ = some (.int .i64 e9) ∧ w1.cell? ⟨g3, 1, none⟩ = some (.int .i64 e10) ∧ w1.cell? ⟨g3, 2, none⟩ = some (.int .i64 e11) ∧ Below w.heap.size w w1) : Below w.heap.size w w1 := by
  obtain ⟨c0, c1, c2, c3, c4, c5, c6, c7, c8, c9, c10, c11, hw⟩ := h
  exact hw
theorem p4_start {e0 e1 e2 e3 e4 e5 e6 e7 e8 e9 e10 e11 : Int} (t : TypeId) {g0 g1 g2 : Nat} {w w1 w2 : World} (h : Has w1 g0 e0 e1 e2 ∧ Has w1 g1 e3 e4 e5 ∧ Has w1 g2 e6 e7 e8 ∧ Below w.heap.size w w1) (hb : Below w1.heap.size w1 w2) : (w2.alloc (.cells #[.int .i64 e9, .int .i64 e10, .int .i64 e11] t)).cell? ⟨g0, 0, none⟩ = some (.int .i64 e0) ∧ (w2.alloc (.cells #[.int .i64 e9, .int .i64 e10, .int .i64 e11] t)).cell? ⟨g0, 1, none⟩ = some (.int .i64 e1) ∧ (w2.alloc (.cells #[.int .i64 e9, .int .i64 e10, .int .i64 e11] t)).cell? ⟨g0, 2, none⟩ = some (.int .i64 e2) ∧ (w2.alloc (.cells #[.int .i64 e9, .int .i64 e10, .int .i64 e11] t)).cell? ⟨g1, 0, none⟩ = some (.int .i64 e3) ∧ (w2.alloc (.cells #[.int .i64 e9, .int .i64 e10, .int .i64 e11] t)).cell? ⟨g1, 1, none⟩ = some (.int .i64 e4) ∧ (w2.alloc (.cells #[.int .i64 e9, .int .i64 e10, .int .i64 e11] t)).cell? ⟨g1, 2, none⟩ = some (.int .i64 e5) ∧ (w2.alloc (.cells #[.int .i64 e9, .int .i64 e10, .int .i64 e11] t)).cell? ⟨g2, 0, none⟩ = some (.int .i64 e6) ∧ (w2.alloc (.cells #[.int .i64 e9, .int .i64 e10, .int .i64 e11] t)).cell? ⟨g2, 1, none⟩ = some (.int .i64 e7) ∧ (w2.alloc (.cells #[.int .i64 e9, .int .i64 e10, .int .i64 e11] t)).cell? ⟨g2, 2, none⟩ = some (.int .i64 e8) ∧ (w2.alloc (.cells #[.int .i64 e9, .int .i64 e10, .int .i64 e11] t)).cell? ⟨w2.heap.size, 0, none⟩ = some (.int .i64 e9) ∧ (w2.alloc (.cells #[.int .i64 e9, .int .i64 e10, .int .i64 e11] t)).cell? ⟨w2.heap.size, 1, none⟩ = some (.int .i64 e10) ∧ (w2.alloc (.cells #[.int .i64 e9, .int .i64 e10, .int .i64 e11] t)).cell? ⟨w2.heap.size, 2, none⟩ = some (.int .i64 e11) ∧ Below w.heap.size w (w2.alloc (.cells #[.int .i64 e9, .int .i64 e10, .int .i64 e11] t)) := by
  have hb' := hb.trans (((Below.refl _ w2).alloc (Nat.le_refl _) (.cells #[.int .i64 e9, .int .i64 e10, .int .i64 e11] t)).mono hb.size)
  obtain ⟨h0, h1, h2, hw⟩ := h
  refine ⟨(h0.keep hb').1, (h0.keep hb').2.1, (h0.keep hb').2.2, (h1.keep hb').1, (h1.keep hb').2.1, (h1.keep hb').2.2, (h2.keep hb').1, (h2.keep hb').2.1, (h2.keep hb').2.2, ?_, ?_, ?_, hw.trans (hb'.mono hw.size)⟩
  · rw [World.cell?_alloc_at _ _ _ _ rfl]; rfl
  · rw [World.cell?_alloc_at _ _ _ _ rfl]; rfl
  · rw [World.cell?_alloc_at _ _ _ _ rfl]; rfl
theorem whole_one (m : Int) (w : World) : Calls Try.prog 32 #[.int .i64 m] w fun e w' => e = .returned (.int .i64 (m / 4294967296)) ∧ w = w' := by
  go_enter Try.func32, Try.ntmps32
  go_wp2
  go_ret
  exact ⟨ret_int (by omega), rfl⟩
theorem whole_any (m0 m1 m2 : Int) (hm0 : -128 ≤ m0) (km0 : m0 ≤ 127) (hm1 : -128 ≤ m1) (km1 : m1 ≤ 127) (hm2 : -128 ≤ m2) (km2 : m2 ≤ 127) (w : World) :
    Calls Try.prog 31 #[.agg #[.int .i8 m0, .int .i8 m1, .int .i8 m2]] w fun e w' => e = .returned (.agg #[.int .i64 (whv m0), .int .i64 (whv m1), .int .i64 (whv m2)]) ∧ Below w.heap.size w w' := by
  have e0 : Int.tmod m0 101 = whn m0 := rfl
  have e1 : Int.tmod m1 101 = whn m1 := rfl
  have e2 : Int.tmod m2 101 = whn m2 := rfl
  have b0 := whn_bd m0
  have b1 := whn_bd m1
  have b2 := whn_bd m2
  have p0 := b0.1
  have p1 := b1.1
  have p2 := b2.1
  have r0 := b0.2
  have r1 := b1.2
  have r2 := b2.2
  clear b0 b1 b2
  go_enter Try.func31, Try.ntmps31
  go_wp2_with (go_at_call 15; refine (of_any _ _ _ (by omega) (by omega) (by omega) (by omega) (by omega) (by omega) _).mono ?_; rintro e w1 ⟨rfl, hb⟩; have hT := There.keep (g := w.heap.size + 1) (by simpa using There.new (w.alloc (.cells #[.int .i8 m0, .int .i8 m1, .int .i8 m2] 34)) (.int .i64 0) (.int .i64 0) (.int .i64 0) 23) hb; have HT := Lib.hid hT; obtain ⟨r0, r1, r2, f0, f1, f2⟩ := hT)
  obtain ⟨q0, q1, q2⟩ := HT.out.has (x := whn m0 * 4294967296) (y := whn m1 * 4294967296) (z := whn m2 * 4294967296)
  unfold put3 at q0 q1 q2
  have hB := ((((Below.refl w.heap.size w).alloc (Nat.le_refl _) (.cells #[.int .i8 m0, .int .i8 m1, .int .i8 m2] 34)).alloc (by simp) (.cells #[.int .i64 0, .int .i64 0, .int .i64 0] 23)).trans (hb.mono (by simp; try omega)))
  exact bodyPost_ret (by simp [results, Try.results31, go_sem, q0, q1, q2]; exact ⟨rfl, rfl, rfl⟩) rfl ⟨rfl, ((hB.setCell (by simp) _).setCell (by simp) _).setCell (by simp) _⟩
theorem array12 {α : Type} {l : Array α} (h : l.size = 12) : ∃ b0 b1 b2 b3 b4 b5 b6 b7 b8 b9 b10 b11, l = #[b0, b1, b2, b3, b4, b5, b6, b7, b8, b9, b10, b11] := by
  obtain ⟨l⟩ := l
  match l, h with
  | [b0, b1, b2, b3, b4, b5, b6, b7, b8, b9, b10, b11], _ => exact ⟨_, _, _, _, _, _, _, _, _, _, _, _, rfl⟩
/-- What the three arrays' boxes hold. -/
def Boxes (w : World) (m0 m1 m2 n0 n1 n2 o0 o1 o2 : Int) (w' : World) : Prop := w'.cell? ⟨w.heap.size, 0, none⟩ = some (.int .i8 m0) ∧ w'.cell? ⟨w.heap.size, 1, none⟩ = some (.int .i8 m1) ∧ w'.cell? ⟨w.heap.size, 2, none⟩ = some (.int .i8 m2) ∧ w'.cell? ⟨w.heap.size + 1, 0, none⟩ = some (.int .i8 n0) ∧ w'.cell? ⟨w.heap.size + 1, 1, none⟩ = some (.int .i8 n1) ∧ w'.cell? ⟨w.heap.size + 1, 2, none⟩ = some (.int .i8 n2) ∧ w'.cell? ⟨w.heap.size + 1 + 1, 0, none⟩ = some (.int .i8 o0) ∧ w'.cell? ⟨w.heap.size + 1 + 1, 1, none⟩ = some (.int .i8 o1) ∧ w'.cell? ⟨w.heap.size + 1 + 1, 2, none⟩ = some (.int .i8 o2) ∧ Below w.heap.size w w' ∧ w.heap.size + 1 + 1 + 1 ≤ w'.heap.size
theorem boxes_stand (w : World) (m0 m1 m2 n0 n1 n2 o0 o1 o2 : Int) : Stands (w.heap.size + 1 + 1 + 1) (Boxes w m0 m1 m2 n0 n1 n2 o0 o1 o2) := by
  refine ⟨fun a b h hb => ?_, fun a g x y z h hg => ?_, fun a h => h.2.2.2.2.2.2.2.2.2.2⟩
  · obtain ⟨c0, c1, c2, c3, c4, c5, c6, c7, c8, hw, hs⟩ := h
    exact ⟨keep_cell hb c0, keep_cell hb c1, keep_cell hb c2, keep_cell hb c3, keep_cell hb c4, keep_cell hb c5, keep_cell hb c6, keep_cell hb c7, keep_cell hb c8, hw.trans (hb.mono hw.size), Nat.le_trans hs hb.size⟩
  · obtain ⟨c0, c1, c2, c3, c4, c5, c6, c7, c8, hw, hs⟩ := h
    unfold put3
    refine ⟨?_, ?_, ?_, ?_, ?_, ?_, ?_, ?_, ?_, ((hw.setCell (by simp; omega) _).setCell (by simp; omega) _).setCell (by simp; omega) _, by simpa using hs⟩
    · rw [store3_far _ _ _ _ _ _ (by simp; omega)]
      exact c0
    · rw [store3_far _ _ _ _ _ _ (by simp; omega)]
      exact c1
    · rw [store3_far _ _ _ _ _ _ (by simp; omega)]
      exact c2
    · rw [store3_far _ _ _ _ _ _ (by simp; omega)]
      exact c3
    · rw [store3_far _ _ _ _ _ _ (by simp; omega)]
      exact c4
    · rw [store3_far _ _ _ _ _ _ (by simp; omega)]
      exact c5
    · rw [store3_far _ _ _ _ _ _ (by simp; omega)]
      exact c6
    · rw [store3_far _ _ _ _ _ _ (by simp; omega)]
      exact c7
    · rw [store3_far _ _ _ _ _ _ (by simp; omega)]
      exact c8
theorem boxes_start (w : World) (m0 m1 m2 n0 n1 n2 o0 o1 o2 : Int) : Boxes w m0 m1 m2 n0 n1 n2 o0 o1 o2 (((w.alloc (.cells #[.int .i8 m0, .int .i8 m1, .int .i8 m2] 34)).alloc (.cells #[.int .i8 n0, .int .i8 n1, .int .i8 n2] 34)).alloc (.cells #[.int .i8 o0, .int .i8 o1, .int .i8 o2] 34)) := by
  refine ⟨?_, ?_, ?_, ?_, ?_, ?_, ?_, ?_, ?_, (((Below.refl _ _).alloc (Nat.le_refl _) _).alloc (by simp) _).alloc (by simp; omega) _, by simp⟩
  · rw [World.cell?_alloc_past _ _ _ (by simp; try omega), World.cell?_alloc_past _ _ _ (by simp; try omega), World.cell?_alloc_at _ _ _ _ (by simp; try omega)]
    rfl
  · rw [World.cell?_alloc_past _ _ _ (by simp; try omega), World.cell?_alloc_past _ _ _ (by simp; try omega), World.cell?_alloc_at _ _ _ _ (by simp; try omega)]
    rfl
  · rw [World.cell?_alloc_past _ _ _ (by simp; try omega), World.cell?_alloc_past _ _ _ (by simp; try omega), World.cell?_alloc_at _ _ _ _ (by simp; try omega)]
    rfl
  · rw [World.cell?_alloc_past _ _ _ (by simp; try omega), World.cell?_alloc_at _ _ _ _ (by simp; try omega)]
    rfl
  · rw [World.cell?_alloc_past _ _ _ (by simp; try omega), World.cell?_alloc_at _ _ _ _ (by simp; try omega)]
    rfl
  · rw [World.cell?_alloc_past _ _ _ (by simp; try omega), World.cell?_alloc_at _ _ _ _ (by simp; try omega)]
    rfl
  · rw [World.cell?_alloc_at _ _ _ _ (by simp; try omega)]
    rfl
  · rw [World.cell?_alloc_at _ _ _ _ (by simp; try omega)]
    rfl
  · rw [World.cell?_alloc_at _ _ _ _ (by simp; try omega)]
    rfl
set_option maxHeartbeats 8000000 in
set_option maxRecDepth 100000 in
theorem whole_walk (m0 m1 m2 n0 n1 n2 o0 o1 o2 k : Int) (hm0 : -128 ≤ m0) (km0 : m0 ≤ 127) (hm1 : -128 ≤ m1) (km1 : m1 ≤ 127) (hm2 : -128 ≤ m2) (km2 : m2 ≤ 127) (hn0 : -128 ≤ n0) (kn0 : n0 ≤ 127) (hn1 : -128 ≤ n1) (kn1 : n1 ≤ 127) (hn2 : -128 ≤ n2) (kn2 : n2 ≤ 127) (ho0 : -128 ≤ o0) (ko0 : o0 ≤ 127) (ho1 : -128 ≤ o1) (ko1 : o1 ≤ 127) (ho2 : -128 ≤ o2) (ko2 : o2 ≤ 127) (hk : -128 ≤ k) (kk : k ≤ 127) (w : World) :
    Calls Try.prog 6 #[.agg #[.int .i8 m0, .int .i8 m1, .int .i8 m2], .agg #[.int .i8 n0, .int .i8 n1, .int .i8 n2], .agg #[.int .i8 o0, .int .i8 o1, .int .i8 o2], .int .i8 k] w fun e w' => e = .returned (.bool true) ∧ Below w.heap.size w w' := by
  have hst := boxes_stand w m0 m1 m2 n0 n1 n2 o0 o1 o2
  have hs0 := boxes_start w m0 m1 m2 n0 n1 n2 o0 o1 o2
  have HB := Lib.hid hs0
  clear hs0
  go_enter Try.func6, Try.ntmps6
  go_upto_region 1 with fail
  go_cut [9, 10, 11] (fun s9 s10 s11 wx => ∃ g0 g1 g2 : Nat, s9 = .pointer (some ⟨g0, 0, none⟩) ∧ s10 = .pointer (some ⟨g1, 0, none⟩) ∧ s11 = .pointer (some ⟨g2, 0, none⟩) ∧ Hid (Has wx g0 (whv m0) (whv m1) (whv m2) ∧ Has wx g1 (whv n0) (whv n1) (whv n2) ∧ Has wx g2 (whv o0) (whv o1) (whv o2) ∧ Below w.heap.size w wx))
  case first =>
    refine wp_region_inv (fun a0 l a w' => ∃ (u18 u19 u20 u21 u22 u23 u9 u10 u11 : Value) (g0 g1 g2 : Nat), a = ((((((((a0.put (some 18) u18).put (some 19) u19).put (some 20) u20).put (some 21) u21).put (some 22) u22).put (some 23) u23).put (some 9) u9).put (some 10) u10).put (some 11) u11
      ∧ (l.getD 0 false = true → u18 = .agg #[.int .i8 m0, .int .i8 m1, .int .i8 m2]) ∧ (l.getD 1 false = true → u19 = .agg #[.int .i64 (whv m0), .int .i64 (whv m1), .int .i64 (whv m2)]) ∧ (l.getD 2 false = true → u20 = .agg #[.int .i8 n0, .int .i8 n1, .int .i8 n2]) ∧ (l.getD 3 false = true → u21 = .agg #[.int .i64 (whv n0), .int .i64 (whv n1), .int .i64 (whv n2)]) ∧ (l.getD 4 false = true → u22 = .agg #[.int .i8 o0, .int .i8 o1, .int .i8 o2]) ∧ (l.getD 5 false = true → u23 = .agg #[.int .i64 (whv o0), .int .i64 (whv o1), .int .i64 (whv o2)])
      ∧ (l.getD 6 false = true → u9 = .pointer (some ⟨g0, 0, none⟩)) ∧ (l.getD 7 false = true → u10 = .pointer (some ⟨g1, 0, none⟩)) ∧ (l.getD 8 false = true → u11 = .pointer (some ⟨g2, 0, none⟩))
      ∧ Hid (W3 (w.heap.size + 1 + 1 + 1) (Boxes w m0 m1 m2 n0 n1 n2 o0 o1 o2) (l.getD 6 false) (l.getD 7 false) (l.getD 8 false) (l.getD 9 false) (l.getD 10 false) (l.getD 11 false) g0 g1 g2 (whv m0) (whv m1) (whv m2) (whv n0) (whv n1) (whv n2) (whv o0) (whv o1) (whv o2) w')) (by kernel_rfl) (by kernel_rfl) ?start ?step ?fin
    case start =>
      refine ⟨undef, undef, undef, undef, undef, undef, undef, undef, undef, 0, 0, 0, by simp [Act.put], by simp, by simp, by simp, by simp, by simp, by simp, by simp, by simp, by simp, Lib.hid ?_⟩
      exact ⟨hst.keep _ _ HB.out (Below.refl _ _).drew, by simp, by simp, by simp, by simp, by simp, by simp, by simp, by simp, by simp⟩
    case step =>
      intro l a wx i hl hlt hi hd hInv
      obtain ⟨b0, b1, b2, b3, b4, b5, b6, b7, b8, b9, b10, b11, rfl⟩ := array12 hl
      obtain ⟨u18, u19, u20, u21, u22, u23, u9, u10, u11, g0, g1, g2, rfl, h0, h1, h2, h3, h4, h5, h6, h7, h8, HW⟩ := hInv
      clear hl
      have hi12 : i < 12 := hlt
      clear hlt
      have hcs : i = 0 ∨ i = 1 ∨ i = 2 ∨ i = 3 ∨ i = 4 ∨ i = 5 ∨ i = 6 ∨ i = 7 ∨ i = 8 ∨ i = 9 ∨ i = 10 ∨ i = 11 := by omega
      clear hi12
      rcases hcs with rfl | rfl | rfl | rfl | rfl | rfl | rfl | rfl | rfl | rfl | rfl | rfl
      · obtain ⟨c0, c1, c2, c3, c4, c5, c6, c7, c8, hw, hs⟩ := HW.out.base
        refine wpOp_step rfl (fun K hK => ?_)
        go_simp
        refine hK _ _ ?_
        refine ⟨(.agg #[.int .i8 m0, .int .i8 m1, .int .i8 m2]), u19, u20, u21, u22, u23, u9, u10, u11, g0, g1, g2, by simp [Act.put], fun _ => rfl, by simpa using h1, by simpa using h2, by simpa using h3, by simpa using h4, by simpa using h5, by simpa using h6, by simpa using h7, by simpa using h8, Lib.hid ?_⟩
        simpa using HW.out
      · simp [depsB, Region.binds] at hd
        obtain rfl := h0 (by simp [hd])
        clear hd
        refine wpOp_step rfl (fun K hK => ?_)
        go_simp
        go_at_call 31
        refine (whole_any _ _ _ (by omega) (by omega) (by omega) (by omega) (by omega) (by omega) _).mono ?_
        rintro e w1 ⟨rfl, hb⟩
        go_simp
        refine hK _ _ ?_
        refine ⟨(.agg #[.int .i8 m0, .int .i8 m1, .int .i8 m2]), (.agg #[.int .i64 (whv m0), .int .i64 (whv m1), .int .i64 (whv m2)]), u20, u21, u22, u23, u9, u10, u11, g0, g1, g2, by simp [Act.put], fun _ => rfl, fun _ => rfl, by simpa using h2, by simpa using h3, by simpa using h4, by simpa using h5, by simpa using h6, by simpa using h7, by simpa using h8, Lib.hid ?_⟩
        simpa using (HW.out.call hst hb)
      · obtain ⟨c0, c1, c2, c3, c4, c5, c6, c7, c8, hw, hs⟩ := HW.out.base
        refine wpOp_step rfl (fun K hK => ?_)
        go_simp
        refine hK _ _ ?_
        refine ⟨u18, u19, (.agg #[.int .i8 n0, .int .i8 n1, .int .i8 n2]), u21, u22, u23, u9, u10, u11, g0, g1, g2, by simp [Act.put], by simpa using h0, by simpa using h1, fun _ => rfl, by simpa using h3, by simpa using h4, by simpa using h5, by simpa using h6, by simpa using h7, by simpa using h8, Lib.hid ?_⟩
        simpa using HW.out
      · simp [depsB, Region.binds] at hd
        obtain rfl := h2 (by simp [hd])
        clear hd
        refine wpOp_step rfl (fun K hK => ?_)
        go_simp
        go_at_call 31
        refine (whole_any _ _ _ (by omega) (by omega) (by omega) (by omega) (by omega) (by omega) _).mono ?_
        rintro e w1 ⟨rfl, hb⟩
        go_simp
        refine hK _ _ ?_
        refine ⟨u18, u19, (.agg #[.int .i8 n0, .int .i8 n1, .int .i8 n2]), (.agg #[.int .i64 (whv n0), .int .i64 (whv n1), .int .i64 (whv n2)]), u22, u23, u9, u10, u11, g0, g1, g2, by simp [Act.put], by simpa using h0, by simpa using h1, fun _ => rfl, fun _ => rfl, by simpa using h4, by simpa using h5, by simpa using h6, by simpa using h7, by simpa using h8, Lib.hid ?_⟩
        simpa using (HW.out.call hst hb)
      · obtain ⟨c0, c1, c2, c3, c4, c5, c6, c7, c8, hw, hs⟩ := HW.out.base
        refine wpOp_step rfl (fun K hK => ?_)
        go_simp
        refine hK _ _ ?_
        refine ⟨u18, u19, u20, u21, (.agg #[.int .i8 o0, .int .i8 o1, .int .i8 o2]), u23, u9, u10, u11, g0, g1, g2, by simp [Act.put], by simpa using h0, by simpa using h1, by simpa using h2, by simpa using h3, fun _ => rfl, by simpa using h5, by simpa using h6, by simpa using h7, by simpa using h8, Lib.hid ?_⟩
        simpa using HW.out
      · simp [depsB, Region.binds] at hd
        obtain rfl := h4 (by simp [hd])
        clear hd
        refine wpOp_step rfl (fun K hK => ?_)
        go_simp
        go_at_call 31
        refine (whole_any _ _ _ (by omega) (by omega) (by omega) (by omega) (by omega) (by omega) _).mono ?_
        rintro e w1 ⟨rfl, hb⟩
        go_simp
        refine hK _ _ ?_
        refine ⟨u18, u19, u20, u21, (.agg #[.int .i8 o0, .int .i8 o1, .int .i8 o2]), (.agg #[.int .i64 (whv o0), .int .i64 (whv o1), .int .i64 (whv o2)]), u9, u10, u11, g0, g1, g2, by simp [Act.put], by simpa using h0, by simpa using h1, by simpa using h2, by simpa using h3, fun _ => rfl, fun _ => rfl, by simpa using h6, by simpa using h7, by simpa using h8, Lib.hid ?_⟩
        simpa using (HW.out.call hst hb)
      · simp at hi
        subst hi
        refine wpOp_step rfl (fun K hK => ?_)
        go_simp
        refine hK _ _ ?_
        refine ⟨u18, u19, u20, u21, u22, u23, .pointer (some ⟨wx.heap.size, 0, none⟩), u10, u11, wx.heap.size, g1, g2, by simp [Act.put], by simpa using h0, by simpa using h1, by simpa using h2, by simpa using h3, by simpa using h4, by simpa using h5, fun _ => rfl, by simpa using h7, by simpa using h8, Lib.hid ?_⟩
        simpa using (W3.new0 hst HW.out (.int .i64 0) (.int .i64 0) (.int .i64 0) 23)
      · simp at hi
        subst hi
        refine wpOp_step rfl (fun K hK => ?_)
        go_simp
        refine hK _ _ ?_
        refine ⟨u18, u19, u20, u21, u22, u23, u9, .pointer (some ⟨wx.heap.size, 0, none⟩), u11, g0, wx.heap.size, g2, by simp [Act.put], by simpa using h0, by simpa using h1, by simpa using h2, by simpa using h3, by simpa using h4, by simpa using h5, by simpa using h6, fun _ => rfl, by simpa using h8, Lib.hid ?_⟩
        simpa using (W3.new1 hst HW.out (.int .i64 0) (.int .i64 0) (.int .i64 0) 23)
      · simp at hi
        subst hi
        refine wpOp_step rfl (fun K hK => ?_)
        go_simp
        refine hK _ _ ?_
        refine ⟨u18, u19, u20, u21, u22, u23, u9, u10, .pointer (some ⟨wx.heap.size, 0, none⟩), g0, g1, wx.heap.size, by simp [Act.put], by simpa using h0, by simpa using h1, by simpa using h2, by simpa using h3, by simpa using h4, by simpa using h5, by simpa using h6, by simpa using h7, fun _ => rfl, Lib.hid ?_⟩
        simpa using (W3.new2 hst HW.out (.int .i64 0) (.int .i64 0) (.int .i64 0) 23)
      · simp [depsB, Region.binds] at hd
        obtain rfl : b1 = true := by simp [hd]
        obtain rfl : b6 = true := by simp [hd]
        obtain rfl := h1 (by simp)
        obtain rfl := h6 (by simp)
        clear hd
        have hW : W3 (w.heap.size + 1 + 1 + 1) (Boxes w m0 m1 m2 n0 n1 n2 o0 o1 o2) _ _ _ _ _ _ g0 g1 g2 (whv m0) (whv m1) (whv m2) (whv n0) (whv n1) (whv n2) (whv o0) (whv o1) (whv o2) wx := HW.out
        obtain ⟨r0, r1, r2, f0, f1, f2⟩ := (hW.t0 (by simp)).2
        have HX := Lib.hid (W3.put0 hst HW.out)
        clear hW
        refine wpOp_step rfl (fun K hK => ?_)
        go_simp
        refine hK _ _ ?_
        refine ⟨u18, (.agg #[.int .i64 (whv m0), .int .i64 (whv m1), .int .i64 (whv m2)]), u20, u21, u22, u23, (.pointer (some ⟨g0, 0, none⟩)), u10, u11, g0, g1, g2, by simp [Act.put], by simpa using h0, fun _ => rfl, by simpa using h2, by simpa using h3, by simpa using h4, by simpa using h5, fun _ => rfl, by simpa using h7, by simpa using h8, Lib.hid ?_⟩
        unfold put3 at HX
        simpa using HX.out
      · simp [depsB, Region.binds] at hd
        obtain rfl : b3 = true := by simp [hd]
        obtain rfl : b7 = true := by simp [hd]
        obtain rfl := h3 (by simp)
        obtain rfl := h7 (by simp)
        clear hd
        have hW : W3 (w.heap.size + 1 + 1 + 1) (Boxes w m0 m1 m2 n0 n1 n2 o0 o1 o2) _ _ _ _ _ _ g0 g1 g2 (whv m0) (whv m1) (whv m2) (whv n0) (whv n1) (whv n2) (whv o0) (whv o1) (whv o2) wx := HW.out
        obtain ⟨r0, r1, r2, f0, f1, f2⟩ := (hW.t1 (by simp)).2
        have HX := Lib.hid (W3.put1 hst HW.out)
        clear hW
        refine wpOp_step rfl (fun K hK => ?_)
        go_simp
        refine hK _ _ ?_
        refine ⟨u18, u19, u20, (.agg #[.int .i64 (whv n0), .int .i64 (whv n1), .int .i64 (whv n2)]), u22, u23, u9, (.pointer (some ⟨g1, 0, none⟩)), u11, g0, g1, g2, by simp [Act.put], by simpa using h0, by simpa using h1, by simpa using h2, fun _ => rfl, by simpa using h4, by simpa using h5, by simpa using h6, fun _ => rfl, by simpa using h8, Lib.hid ?_⟩
        unfold put3 at HX
        simpa using HX.out
      · simp [depsB, Region.binds] at hd
        obtain rfl : b5 = true := by simp [hd]
        obtain rfl : b8 = true := by simp [hd]
        obtain rfl := h5 (by simp)
        obtain rfl := h8 (by simp)
        clear hd
        have hW : W3 (w.heap.size + 1 + 1 + 1) (Boxes w m0 m1 m2 n0 n1 n2 o0 o1 o2) _ _ _ _ _ _ g0 g1 g2 (whv m0) (whv m1) (whv m2) (whv n0) (whv n1) (whv n2) (whv o0) (whv o1) (whv o2) wx := HW.out
        obtain ⟨r0, r1, r2, f0, f1, f2⟩ := (hW.t2 (by simp)).2
        have HX := Lib.hid (W3.put2 hst HW.out)
        clear hW
        refine wpOp_step rfl (fun K hK => ?_)
        go_simp
        refine hK _ _ ?_
        refine ⟨u18, u19, u20, u21, u22, (.agg #[.int .i64 (whv o0), .int .i64 (whv o1), .int .i64 (whv o2)]), u9, u10, (.pointer (some ⟨g2, 0, none⟩)), g0, g1, g2, by simp [Act.put], by simpa using h0, by simpa using h1, by simpa using h2, by simpa using h3, by simpa using h4, fun _ => rfl, by simpa using h6, by simpa using h7, fun _ => rfl, Lib.hid ?_⟩
        unfold put3 at HX
        simpa using HX.out
    case fin =>
      intro l a wx hl hall hInv
      obtain ⟨b0, b1, b2, b3, b4, b5, b6, b7, b8, b9, b10, b11, rfl⟩ := array12 hl
      obtain ⟨u18, u19, u20, u21, u22, u23, u9, u10, u11, g0, g1, g2, rfl, h0, h1, h2, h3, h4, h5, h6, h7, h8, HW⟩ := hInv
      have ha : ∀ j, j < 12 → (#[b0, b1, b2, b3, b4, b5, b6, b7, b8, b9, b10, b11] : Array Bool).getD j false = true := hall
      obtain rfl := h6 (ha 6 (by decide))
      obtain rfl := h7 (ha 7 (by decide))
      obtain rfl := h8 (ha 8 (by decide))
      have hx0 := (HW.out.h0 (ha 9 (by decide))).2
      have hx1 := (HW.out.h1 (ha 10 (by decide))).2
      have hx2 := (HW.out.h2 (ha 11 (by decide))).2
      have HX := Lib.hid (And.intro hx0 (And.intro hx1 (And.intro hx2 HW.out.base.2.2.2.2.2.2.2.2.2.1)))
      clear hall ha hl h0 h1 h2 h3 h4 h5 h6 h7 h8 HW hx0 hx1 hx2
      go_simp
      go_wp2_with fail
      go_meet
      exact ⟨g0, g1, g2, rfl, rfl, rfl, HX⟩
  case rest =>
    clear HB hst
    obtain ⟨g0, g1, g2, rfl, rfl, rfl, HG⟩ := hcut
    obtain ⟨nx, ny, nz, tx, ty, tz, sx, sy, sz, px, py, pz, qx, qy, qz, ab, ac, dA, dB, dN, AA, BB, AB, NN, PP, QQ, f0, f1, f2, f3, f4, f5, f6, f7, f8, f9, f10, f11, f12, f13, f14, f15, f16, f17, f18, f19, f20, f21, f22, f23, f24, f25, f26, f27, f28, f29, f30, f31, f32, f33, f34, f35, f36, f37, f38, f39, f40, f41, f42, f43, f44, f45, f46, f47, f48, f49, f50, f51, f52, f53, f54, f55, f56, f57, f58, f59, f60, f61, f62⟩ := whole_facts m0 m1 m2 n0 n1 n2 o0 o1 o2 k
    have y1 : IntKind.i64.wrap (ab + ac) = ab + ac := IntWalk.i64_in _ (by omega)
    have y2 : IntKind.i64.wrap PP = PP := IntWalk.i64_in _ (by omega)
    have y3 : IntKind.i64.wrap QQ = QQ := IntWalk.i64_in _ (by omega)
    have y4 : IntKind.i64.wrap NN = NN := IntWalk.i64_in _ (by omega)
    have k0 : Int.tmod k 101 = whn k := rfl
    have k1 : whn k * 4294967296 = whv k := rfl
    have k2 := (whn_bd k).1
    have k3 := (whn_bd k).2
    obtain ⟨⟨c0, c1, c2⟩, ⟨c3, c4, c5⟩, ⟨c6, c7, c8⟩, hB⟩ := HG.out
    go_wp2_with (first | (go_at_call 17; refine (vcross _ _ _ _ _ _ (by first | assumption | exact mul_is _ _ | exact add_is _ _ | exact sub_is _ _ | exact neg_is _ | exact div_is _ _ | exact dot_is _ _ _ _ _ _ | exact len_is _ _ _ | exact side_is _ _ _ _ | exact unit1_is _ _ | exact lown_is _ | exact unit1_is _ _ | (unfold isI; omega) | exact whv_is _) (by first | assumption | exact mul_is _ _ | exact add_is _ _ | exact sub_is _ _ | exact neg_is _ | exact div_is _ _ | exact dot_is _ _ _ _ _ _ | exact len_is _ _ _ | exact side_is _ _ _ _ | exact unit1_is _ _ | exact lown_is _ | exact unit1_is _ _ | (unfold isI; omega) | exact whv_is _) (by first | assumption | exact mul_is _ _ | exact add_is _ _ | exact sub_is _ _ | exact neg_is _ | exact div_is _ _ | exact dot_is _ _ _ _ _ _ | exact len_is _ _ _ | exact side_is _ _ _ _ | exact unit1_is _ _ | exact lown_is _ | exact unit1_is _ _ | (unfold isI; omega) | exact whv_is _) (by first | assumption | exact mul_is _ _ | exact add_is _ _ | exact sub_is _ _ | exact neg_is _ | exact div_is _ _ | exact dot_is _ _ _ _ _ _ | exact len_is _ _ _ | exact side_is _ _ _ _ | exact unit1_is _ _ | exact lown_is _ | exact unit1_is _ _ | (unfold isI; omega) | exact whv_is _) (by first | assumption | exact mul_is _ _ | exact add_is _ _ | exact sub_is _ _ | exact neg_is _ | exact div_is _ _ | exact dot_is _ _ _ _ _ _ | exact len_is _ _ _ | exact side_is _ _ _ _ | exact unit1_is _ _ | exact lown_is _ | exact unit1_is _ _ | (unfold isI; omega) | exact whv_is _) (by first | assumption | exact mul_is _ _ | exact add_is _ _ | exact sub_is _ _ | exact neg_is _ | exact div_is _ _ | exact dot_is _ _ _ _ _ _ | exact len_is _ _ _ | exact side_is _ _ _ _ | exact unit1_is _ _ | exact lown_is _ | exact unit1_is _ _ | (unfold isI; omega) | exact whv_is _) _).mono ?_; rintro e w1 ⟨rfl, hnew⟩; have HK := Lib.hid (p4_start (e9 := nx) (e10 := ny) (e11 := nz) 23 HG.out hnew)))
    clear HG c0 c1 c2 c3 c4 c5 c6 c7 c8 k0 k1 k2 k3
    obtain ⟨g3, hg3⟩ : ∃ g3, w1.heap.size = g3 := ⟨_, rfl⟩
    rw [hg3] at HK ⊢
    clear hg3
    go_region_held3 (fun w' => w'.cell? ⟨g0, 0, none⟩ = some (.int .i64 (whv m0)) ∧ w'.cell? ⟨g0, 1, none⟩ = some (.int .i64 (whv m1)) ∧ w'.cell? ⟨g0, 2, none⟩ = some (.int .i64 (whv m2)) ∧ w'.cell? ⟨g1, 0, none⟩ = some (.int .i64 (whv n0)) ∧ w'.cell? ⟨g1, 1, none⟩ = some (.int .i64 (whv n1)) ∧ w'.cell? ⟨g1, 2, none⟩ = some (.int .i64 (whv n2)) ∧ w'.cell? ⟨g2, 0, none⟩ = some (.int .i64 (whv o0)) ∧ w'.cell? ⟨g2, 1, none⟩ = some (.int .i64 (whv o1)) ∧ w'.cell? ⟨g2, 2, none⟩ = some (.int .i64 (whv o2)) ∧ w'.cell? ⟨g3, 0, none⟩ = some (.int .i64 nx) ∧ w'.cell? ⟨g3, 1, none⟩ = some (.int .i64 ny) ∧ w'.cell? ⟨g3, 2, none⟩ = some (.int .i64 nz) ∧ Below w.heap.size w w') (first | (with_reducible assumption) | exact p4_drew HK.out | exact p4_keep (by assumption) hnew)
      (first | (go_at_call 9; refine (vadd _ _ _ _ _ _ (by first | assumption | exact mul_is _ _ | exact add_is _ _ | exact sub_is _ _ | exact neg_is _ | exact div_is _ _ | exact dot_is _ _ _ _ _ _ | exact len_is _ _ _ | exact side_is _ _ _ _ | exact unit1_is _ _ | exact lown_is _ | exact unit1_is _ _ | (unfold isI; omega) | exact whv_is _) (by first | assumption | exact mul_is _ _ | exact add_is _ _ | exact sub_is _ _ | exact neg_is _ | exact div_is _ _ | exact dot_is _ _ _ _ _ _ | exact len_is _ _ _ | exact side_is _ _ _ _ | exact unit1_is _ _ | exact lown_is _ | exact unit1_is _ _ | (unfold isI; omega) | exact whv_is _) (by first | assumption | exact mul_is _ _ | exact add_is _ _ | exact sub_is _ _ | exact neg_is _ | exact div_is _ _ | exact dot_is _ _ _ _ _ _ | exact len_is _ _ _ | exact side_is _ _ _ _ | exact unit1_is _ _ | exact lown_is _ | exact unit1_is _ _ | (unfold isI; omega) | exact whv_is _) (by first | assumption | exact mul_is _ _ | exact add_is _ _ | exact sub_is _ _ | exact neg_is _ | exact div_is _ _ | exact dot_is _ _ _ _ _ _ | exact len_is _ _ _ | exact side_is _ _ _ _ | exact unit1_is _ _ | exact lown_is _ | exact unit1_is _ _ | (unfold isI; omega) | exact whv_is _) (by first | assumption | exact mul_is _ _ | exact add_is _ _ | exact sub_is _ _ | exact neg_is _ | exact div_is _ _ | exact dot_is _ _ _ _ _ _ | exact len_is _ _ _ | exact side_is _ _ _ _ | exact unit1_is _ _ | exact lown_is _ | exact unit1_is _ _ | (unfold isI; omega) | exact whv_is _) (by first | assumption | exact mul_is _ _ | exact add_is _ _ | exact sub_is _ _ | exact neg_is _ | exact div_is _ _ | exact dot_is _ _ _ _ _ _ | exact len_is _ _ _ | exact side_is _ _ _ _ | exact unit1_is _ _ | exact lown_is _ | exact unit1_is _ _ | (unfold isI; omega) | exact whv_is _) _).mono ?_; rintro e w1 ⟨rfl, hnew⟩) | (go_at_call 14; refine (vscale _ _ _ _ (by first | assumption | exact mul_is _ _ | exact add_is _ _ | exact sub_is _ _ | exact neg_is _ | exact div_is _ _ | exact dot_is _ _ _ _ _ _ | exact len_is _ _ _ | exact side_is _ _ _ _ | exact unit1_is _ _ | exact lown_is _ | exact unit1_is _ _ | (unfold isI; omega) | exact whv_is _) (by first | assumption | exact mul_is _ _ | exact add_is _ _ | exact sub_is _ _ | exact neg_is _ | exact div_is _ _ | exact dot_is _ _ _ _ _ _ | exact len_is _ _ _ | exact side_is _ _ _ _ | exact unit1_is _ _ | exact lown_is _ | exact unit1_is _ _ | (unfold isI; omega) | exact whv_is _) (by first | assumption | exact mul_is _ _ | exact add_is _ _ | exact sub_is _ _ | exact neg_is _ | exact div_is _ _ | exact dot_is _ _ _ _ _ _ | exact len_is _ _ _ | exact side_is _ _ _ _ | exact unit1_is _ _ | exact lown_is _ | exact unit1_is _ _ | (unfold isI; omega) | exact whv_is _) (by first | assumption | exact mul_is _ _ | exact add_is _ _ | exact sub_is _ _ | exact neg_is _ | exact div_is _ _ | exact dot_is _ _ _ _ _ _ | exact len_is _ _ _ | exact side_is _ _ _ _ | exact unit1_is _ _ | exact lown_is _ | exact unit1_is _ _ | (unfold isI; omega) | exact whv_is _) _).mono ?_; rintro e w1 ⟨rfl, hnew⟩) | (go_at_call 17; refine (vcross _ _ _ _ _ _ (by first | assumption | exact mul_is _ _ | exact add_is _ _ | exact sub_is _ _ | exact neg_is _ | exact div_is _ _ | exact dot_is _ _ _ _ _ _ | exact len_is _ _ _ | exact side_is _ _ _ _ | exact unit1_is _ _ | exact lown_is _ | exact unit1_is _ _ | (unfold isI; omega) | exact whv_is _) (by first | assumption | exact mul_is _ _ | exact add_is _ _ | exact sub_is _ _ | exact neg_is _ | exact div_is _ _ | exact dot_is _ _ _ _ _ _ | exact len_is _ _ _ | exact side_is _ _ _ _ | exact unit1_is _ _ | exact lown_is _ | exact unit1_is _ _ | (unfold isI; omega) | exact whv_is _) (by first | assumption | exact mul_is _ _ | exact add_is _ _ | exact sub_is _ _ | exact neg_is _ | exact div_is _ _ | exact dot_is _ _ _ _ _ _ | exact len_is _ _ _ | exact side_is _ _ _ _ | exact unit1_is _ _ | exact lown_is _ | exact unit1_is _ _ | (unfold isI; omega) | exact whv_is _) (by first | assumption | exact mul_is _ _ | exact add_is _ _ | exact sub_is _ _ | exact neg_is _ | exact div_is _ _ | exact dot_is _ _ _ _ _ _ | exact len_is _ _ _ | exact side_is _ _ _ _ | exact unit1_is _ _ | exact lown_is _ | exact unit1_is _ _ | (unfold isI; omega) | exact whv_is _) (by first | assumption | exact mul_is _ _ | exact add_is _ _ | exact sub_is _ _ | exact neg_is _ | exact div_is _ _ | exact dot_is _ _ _ _ _ _ | exact len_is _ _ _ | exact side_is _ _ _ _ | exact unit1_is _ _ | exact lown_is _ | exact unit1_is _ _ | (unfold isI; omega) | exact whv_is _) (by first | assumption | exact mul_is _ _ | exact add_is _ _ | exact sub_is _ _ | exact neg_is _ | exact div_is _ _ | exact dot_is _ _ _ _ _ _ | exact len_is _ _ _ | exact side_is _ _ _ _ | exact unit1_is _ _ | exact lown_is _ | exact unit1_is _ _ | (unfold isI; omega) | exact whv_is _) _).mono ?_; rintro e w1 ⟨rfl, hnew⟩) | (go_at_call 24; refine (vdot _ _ _ _ _ _ (by first | assumption | exact mul_is _ _ | exact add_is _ _ | exact sub_is _ _ | exact neg_is _ | exact div_is _ _ | exact dot_is _ _ _ _ _ _ | exact len_is _ _ _ | exact side_is _ _ _ _ | exact unit1_is _ _ | exact lown_is _ | exact unit1_is _ _ | (unfold isI; omega) | exact whv_is _) (by first | assumption | exact mul_is _ _ | exact add_is _ _ | exact sub_is _ _ | exact neg_is _ | exact div_is _ _ | exact dot_is _ _ _ _ _ _ | exact len_is _ _ _ | exact side_is _ _ _ _ | exact unit1_is _ _ | exact lown_is _ | exact unit1_is _ _ | (unfold isI; omega) | exact whv_is _) (by first | assumption | exact mul_is _ _ | exact add_is _ _ | exact sub_is _ _ | exact neg_is _ | exact div_is _ _ | exact dot_is _ _ _ _ _ _ | exact len_is _ _ _ | exact side_is _ _ _ _ | exact unit1_is _ _ | exact lown_is _ | exact unit1_is _ _ | (unfold isI; omega) | exact whv_is _) (by first | assumption | exact mul_is _ _ | exact add_is _ _ | exact sub_is _ _ | exact neg_is _ | exact div_is _ _ | exact dot_is _ _ _ _ _ _ | exact len_is _ _ _ | exact side_is _ _ _ _ | exact unit1_is _ _ | exact lown_is _ | exact unit1_is _ _ | (unfold isI; omega) | exact whv_is _) (by first | assumption | exact mul_is _ _ | exact add_is _ _ | exact sub_is _ _ | exact neg_is _ | exact div_is _ _ | exact dot_is _ _ _ _ _ _ | exact len_is _ _ _ | exact side_is _ _ _ _ | exact unit1_is _ _ | exact lown_is _ | exact unit1_is _ _ | (unfold isI; omega) | exact whv_is _) (by first | assumption | exact mul_is _ _ | exact add_is _ _ | exact sub_is _ _ | exact neg_is _ | exact div_is _ _ | exact dot_is _ _ _ _ _ _ | exact len_is _ _ _ | exact side_is _ _ _ _ | exact unit1_is _ _ | exact lown_is _ | exact unit1_is _ _ | (unfold isI; omega) | exact whv_is _) _).mono ?_; rintro e w1 ⟨rfl, hnew⟩))
    rename_i hh
    have HK2 := Lib.hid hh
    clear hh HK
    go_wp2
    go_region_held3 (fun w' => w'.cell? ⟨g0, 0, none⟩ = some (.int .i64 (whv m0)) ∧ w'.cell? ⟨g0, 1, none⟩ = some (.int .i64 (whv m1)) ∧ w'.cell? ⟨g0, 2, none⟩ = some (.int .i64 (whv m2)) ∧ w'.cell? ⟨g1, 0, none⟩ = some (.int .i64 (whv n0)) ∧ w'.cell? ⟨g1, 1, none⟩ = some (.int .i64 (whv n1)) ∧ w'.cell? ⟨g1, 2, none⟩ = some (.int .i64 (whv n2)) ∧ w'.cell? ⟨g2, 0, none⟩ = some (.int .i64 (whv o0)) ∧ w'.cell? ⟨g2, 1, none⟩ = some (.int .i64 (whv o1)) ∧ w'.cell? ⟨g2, 2, none⟩ = some (.int .i64 (whv o2)) ∧ w'.cell? ⟨g3, 0, none⟩ = some (.int .i64 nx) ∧ w'.cell? ⟨g3, 1, none⟩ = some (.int .i64 ny) ∧ w'.cell? ⟨g3, 2, none⟩ = some (.int .i64 nz) ∧ Below w.heap.size w w') (first | (with_reducible assumption) | exact p4_drew HK2.out | exact p4_keep (by assumption) hnew)
      (first | (go_at_call 24; refine (vdot _ _ _ _ _ _ (by first | assumption | exact mul_is _ _ | exact add_is _ _ | exact sub_is _ _ | exact neg_is _ | exact div_is _ _ | exact dot_is _ _ _ _ _ _ | exact len_is _ _ _ | exact side_is _ _ _ _ | exact unit1_is _ _ | exact lown_is _ | exact unit1_is _ _ | (unfold isI; omega) | exact whv_is _) (by first | assumption | exact mul_is _ _ | exact add_is _ _ | exact sub_is _ _ | exact neg_is _ | exact div_is _ _ | exact dot_is _ _ _ _ _ _ | exact len_is _ _ _ | exact side_is _ _ _ _ | exact unit1_is _ _ | exact lown_is _ | exact unit1_is _ _ | (unfold isI; omega) | exact whv_is _) (by first | assumption | exact mul_is _ _ | exact add_is _ _ | exact sub_is _ _ | exact neg_is _ | exact div_is _ _ | exact dot_is _ _ _ _ _ _ | exact len_is _ _ _ | exact side_is _ _ _ _ | exact unit1_is _ _ | exact lown_is _ | exact unit1_is _ _ | (unfold isI; omega) | exact whv_is _) (by first | assumption | exact mul_is _ _ | exact add_is _ _ | exact sub_is _ _ | exact neg_is _ | exact div_is _ _ | exact dot_is _ _ _ _ _ _ | exact len_is _ _ _ | exact side_is _ _ _ _ | exact unit1_is _ _ | exact lown_is _ | exact unit1_is _ _ | (unfold isI; omega) | exact whv_is _) (by first | assumption | exact mul_is _ _ | exact add_is _ _ | exact sub_is _ _ | exact neg_is _ | exact div_is _ _ | exact dot_is _ _ _ _ _ _ | exact len_is _ _ _ | exact side_is _ _ _ _ | exact unit1_is _ _ | exact lown_is _ | exact unit1_is _ _ | (unfold isI; omega) | exact whv_is _) (by first | assumption | exact mul_is _ _ | exact add_is _ _ | exact sub_is _ _ | exact neg_is _ | exact div_is _ _ | exact dot_is _ _ _ _ _ _ | exact len_is _ _ _ | exact side_is _ _ _ _ | exact unit1_is _ _ | exact lown_is _ | exact unit1_is _ _ | (unfold isI; omega) | exact whv_is _) _).mono ?_; rintro e w1 ⟨rfl, hnew⟩) | (go_at_call 32; refine (whole_one _ _).mono ?_; rintro e w' ⟨rfl, rfl⟩))
    rename_i hh
    have HK3 := Lib.hid hh
    clear hh HK2
    go_wp2
    go_region_held3 (fun w' => w'.cell? ⟨g0, 0, none⟩ = some (.int .i64 (whv m0)) ∧ w'.cell? ⟨g0, 1, none⟩ = some (.int .i64 (whv m1)) ∧ w'.cell? ⟨g0, 2, none⟩ = some (.int .i64 (whv m2)) ∧ w'.cell? ⟨g1, 0, none⟩ = some (.int .i64 (whv n0)) ∧ w'.cell? ⟨g1, 1, none⟩ = some (.int .i64 (whv n1)) ∧ w'.cell? ⟨g1, 2, none⟩ = some (.int .i64 (whv n2)) ∧ w'.cell? ⟨g2, 0, none⟩ = some (.int .i64 (whv o0)) ∧ w'.cell? ⟨g2, 1, none⟩ = some (.int .i64 (whv o1)) ∧ w'.cell? ⟨g2, 2, none⟩ = some (.int .i64 (whv o2)) ∧ w'.cell? ⟨g3, 0, none⟩ = some (.int .i64 nx) ∧ w'.cell? ⟨g3, 1, none⟩ = some (.int .i64 ny) ∧ w'.cell? ⟨g3, 2, none⟩ = some (.int .i64 nz) ∧ Below w.heap.size w w') (first | (with_reducible assumption) | exact p4_drew HK3.out | exact p4_keep (by assumption) hnew)
      (first | (go_at_call 8; refine (vneg _ _ _ (by first | assumption | exact mul_is _ _ | exact add_is _ _ | exact sub_is _ _ | exact neg_is _ | exact div_is _ _ | exact dot_is _ _ _ _ _ _ | exact len_is _ _ _ | exact side_is _ _ _ _ | exact unit1_is _ _ | exact lown_is _ | exact unit1_is _ _ | (unfold isI; omega) | exact whv_is _) (by first | assumption | exact mul_is _ _ | exact add_is _ _ | exact sub_is _ _ | exact neg_is _ | exact div_is _ _ | exact dot_is _ _ _ _ _ _ | exact len_is _ _ _ | exact side_is _ _ _ _ | exact unit1_is _ _ | exact lown_is _ | exact unit1_is _ _ | (unfold isI; omega) | exact whv_is _) (by first | assumption | exact mul_is _ _ | exact add_is _ _ | exact sub_is _ _ | exact neg_is _ | exact div_is _ _ | exact dot_is _ _ _ _ _ _ | exact len_is _ _ _ | exact side_is _ _ _ _ | exact unit1_is _ _ | exact lown_is _ | exact unit1_is _ _ | (unfold isI; omega) | exact whv_is _) _).mono ?_; rintro e w1 ⟨rfl, hnew⟩) | (go_at_call 10; refine (vsub _ _ _ _ _ _ (by first | assumption | exact mul_is _ _ | exact add_is _ _ | exact sub_is _ _ | exact neg_is _ | exact div_is _ _ | exact dot_is _ _ _ _ _ _ | exact len_is _ _ _ | exact side_is _ _ _ _ | exact unit1_is _ _ | exact lown_is _ | exact unit1_is _ _ | (unfold isI; omega) | exact whv_is _) (by first | assumption | exact mul_is _ _ | exact add_is _ _ | exact sub_is _ _ | exact neg_is _ | exact div_is _ _ | exact dot_is _ _ _ _ _ _ | exact len_is _ _ _ | exact side_is _ _ _ _ | exact unit1_is _ _ | exact lown_is _ | exact unit1_is _ _ | (unfold isI; omega) | exact whv_is _) (by first | assumption | exact mul_is _ _ | exact add_is _ _ | exact sub_is _ _ | exact neg_is _ | exact div_is _ _ | exact dot_is _ _ _ _ _ _ | exact len_is _ _ _ | exact side_is _ _ _ _ | exact unit1_is _ _ | exact lown_is _ | exact unit1_is _ _ | (unfold isI; omega) | exact whv_is _) (by first | assumption | exact mul_is _ _ | exact add_is _ _ | exact sub_is _ _ | exact neg_is _ | exact div_is _ _ | exact dot_is _ _ _ _ _ _ | exact len_is _ _ _ | exact side_is _ _ _ _ | exact unit1_is _ _ | exact lown_is _ | exact unit1_is _ _ | (unfold isI; omega) | exact whv_is _) (by first | assumption | exact mul_is _ _ | exact add_is _ _ | exact sub_is _ _ | exact neg_is _ | exact div_is _ _ | exact dot_is _ _ _ _ _ _ | exact len_is _ _ _ | exact side_is _ _ _ _ | exact unit1_is _ _ | exact lown_is _ | exact unit1_is _ _ | (unfold isI; omega) | exact whv_is _) (by first | assumption | exact mul_is _ _ | exact add_is _ _ | exact sub_is _ _ | exact neg_is _ | exact div_is _ _ | exact dot_is _ _ _ _ _ _ | exact len_is _ _ _ | exact side_is _ _ _ _ | exact unit1_is _ _ | exact lown_is _ | exact unit1_is _ _ | (unfold isI; omega) | exact whv_is _) _).mono ?_; rintro e w1 ⟨rfl, hnew⟩) | (go_at_call 17; refine (vcross _ _ _ _ _ _ (by first | assumption | exact mul_is _ _ | exact add_is _ _ | exact sub_is _ _ | exact neg_is _ | exact div_is _ _ | exact dot_is _ _ _ _ _ _ | exact len_is _ _ _ | exact side_is _ _ _ _ | exact unit1_is _ _ | exact lown_is _ | exact unit1_is _ _ | (unfold isI; omega) | exact whv_is _) (by first | assumption | exact mul_is _ _ | exact add_is _ _ | exact sub_is _ _ | exact neg_is _ | exact div_is _ _ | exact dot_is _ _ _ _ _ _ | exact len_is _ _ _ | exact side_is _ _ _ _ | exact unit1_is _ _ | exact lown_is _ | exact unit1_is _ _ | (unfold isI; omega) | exact whv_is _) (by first | assumption | exact mul_is _ _ | exact add_is _ _ | exact sub_is _ _ | exact neg_is _ | exact div_is _ _ | exact dot_is _ _ _ _ _ _ | exact len_is _ _ _ | exact side_is _ _ _ _ | exact unit1_is _ _ | exact lown_is _ | exact unit1_is _ _ | (unfold isI; omega) | exact whv_is _) (by first | assumption | exact mul_is _ _ | exact add_is _ _ | exact sub_is _ _ | exact neg_is _ | exact div_is _ _ | exact dot_is _ _ _ _ _ _ | exact len_is _ _ _ | exact side_is _ _ _ _ | exact unit1_is _ _ | exact lown_is _ | exact unit1_is _ _ | (unfold isI; omega) | exact whv_is _) (by first | assumption | exact mul_is _ _ | exact add_is _ _ | exact sub_is _ _ | exact neg_is _ | exact div_is _ _ | exact dot_is _ _ _ _ _ _ | exact len_is _ _ _ | exact side_is _ _ _ _ | exact unit1_is _ _ | exact lown_is _ | exact unit1_is _ _ | (unfold isI; omega) | exact whv_is _) (by first | assumption | exact mul_is _ _ | exact add_is _ _ | exact sub_is _ _ | exact neg_is _ | exact div_is _ _ | exact dot_is _ _ _ _ _ _ | exact len_is _ _ _ | exact side_is _ _ _ _ | exact unit1_is _ _ | exact lown_is _ | exact unit1_is _ _ | (unfold isI; omega) | exact whv_is _) _).mono ?_; rintro e w1 ⟨rfl, hnew⟩) | (go_at_call 24; refine (vdot _ _ _ _ _ _ (by first | assumption | exact mul_is _ _ | exact add_is _ _ | exact sub_is _ _ | exact neg_is _ | exact div_is _ _ | exact dot_is _ _ _ _ _ _ | exact len_is _ _ _ | exact side_is _ _ _ _ | exact unit1_is _ _ | exact lown_is _ | exact unit1_is _ _ | (unfold isI; omega) | exact whv_is _) (by first | assumption | exact mul_is _ _ | exact add_is _ _ | exact sub_is _ _ | exact neg_is _ | exact div_is _ _ | exact dot_is _ _ _ _ _ _ | exact len_is _ _ _ | exact side_is _ _ _ _ | exact unit1_is _ _ | exact lown_is _ | exact unit1_is _ _ | (unfold isI; omega) | exact whv_is _) (by first | assumption | exact mul_is _ _ | exact add_is _ _ | exact sub_is _ _ | exact neg_is _ | exact div_is _ _ | exact dot_is _ _ _ _ _ _ | exact len_is _ _ _ | exact side_is _ _ _ _ | exact unit1_is _ _ | exact lown_is _ | exact unit1_is _ _ | (unfold isI; omega) | exact whv_is _) (by first | assumption | exact mul_is _ _ | exact add_is _ _ | exact sub_is _ _ | exact neg_is _ | exact div_is _ _ | exact dot_is _ _ _ _ _ _ | exact len_is _ _ _ | exact side_is _ _ _ _ | exact unit1_is _ _ | exact lown_is _ | exact unit1_is _ _ | (unfold isI; omega) | exact whv_is _) (by first | assumption | exact mul_is _ _ | exact add_is _ _ | exact sub_is _ _ | exact neg_is _ | exact div_is _ _ | exact dot_is _ _ _ _ _ _ | exact len_is _ _ _ | exact side_is _ _ _ _ | exact unit1_is _ _ | exact lown_is _ | exact unit1_is _ _ | (unfold isI; omega) | exact whv_is _) (by first | assumption | exact mul_is _ _ | exact add_is _ _ | exact sub_is _ _ | exact neg_is _ | exact div_is _ _ | exact dot_is _ _ _ _ _ _ | exact len_is _ _ _ | exact side_is _ _ _ _ | exact unit1_is _ _ | exact lown_is _ | exact unit1_is _ _ | (unfold isI; omega) | exact whv_is _) _).mono ?_; rintro e w1 ⟨rfl, hnew⟩) | (go_at_call 32; refine (whole_one _ _).mono ?_; rintro e w' ⟨rfl, rfl⟩) | (go_at_call 18; refine (awake_any _).mono ?_; rintro e w1 ⟨rfl, hnew⟩))
    rename_i hh
    have hE := p4_below hh
    clear hh HK3
    go_wp2
    go_ret
    exact ⟨rfl, hE⟩
end Go.Proofs.Ytddagmcmajjnfaa.Fx
