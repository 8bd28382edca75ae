/-
  The walk of PngNone. The conditions are that the numbers are bytes, and what the document's Pieces does.
-/
import Derived.Test.YtefdlidjdmlnaaaPngA
namespace Go.Proofs.Ytefdlidjdmlnaaa.Fx
open Go Go.RowKit Go.Joins
set_option linter.unusedVariables false
set_option maxHeartbeats 4000000 in
set_option maxRecDepth 100000 in
theorem pnone_law (D : PDoes) (W : World) (a b c d : Nat) (ha : a ≤ 255) (hb : b ≤ 255) (hc : c ≤ 255) (hd : d ≤ 255) :
    Calls Try.prog 5 #[.agg (px4 a b c d)] W fun e w' => e = .returned (.bool true) ∧ Below W.heap.size W w' := by
  go_enter Try.func5, Try.ntmps5
  go_upto_region 3 with fail
  obtain ⟨w3, e3⟩ : ∃ v, v = ((W.alloc (.cells (px4 a b c d) 39)).alloc (.cells #[.pointer none] 44)).alloc (.cells #[.pointer none, .pointer (some ⟨W.heap.size + 1, 0, none⟩)] 24) := ⟨_, rfl⟩
  have s1 : (W.alloc (.cells (px4 a b c d) 39)).heap.size = W.heap.size + 1 := alloc_size _ _
  have s2 : ((W.alloc (.cells (px4 a b c d) 39)).alloc (.cells #[.pointer none] 44)).heap.size = W.heap.size + 1 + 1 := by rw [alloc_size, s1]
  have hb3 : Below W.heap.size W w3 := by
    rw [e3]
    exact ((below_alloc1 W _).alloc (by rw [s1]; omega) _).alloc (by rw [s2]; omega) _
  have hx : w3.heap[W.heap.size]? = some (.cells (px4 a b c d) 39 (0, 0)) := by
    rw [e3]
    exact alloc_old (alloc_old (heap_alloc_new W _))
  have hn : w3.heap[W.heap.size + 1]? = some (.cells #[.pointer none] 44 (0, 0)) := by
    rw [e3, ← s1]
    exact alloc_old (heap_alloc_new _ _)
  have hl : w3.heap[W.heap.size + 1 + 1]? = some (.cells #[.pointer none, .pointer (some ⟨W.heap.size + 1, 0, none⟩)] 24 (0, 0)) := by
    rw [e3, ← s2]
    exact heap_alloc_new _ _
  have hs3 : w3.heap.size = W.heap.size + 3 := by rw [e3, alloc_size, s2]
  rw [← e3]
  have HX := Lib.hid (And.intro hx (And.intro hn hl))
  have HB3 := Lib.hid hb3
  have HS3 := Lib.hid hs3
  clear e3 s1 s2 hb3 hx hn hl hs3
  go_loopw [13] (fun s13 wk => ∃ k : Nat, k ≤ 2 ∧ s13 = .int .i64 (k : Int) ∧ Hid (Below w3.heap.size w3 wk)) (fun s13 _ => 2 - (intOf s13).toNat)
  case atStart => exact ⟨0, by omega, rfl, Below.refl _ _⟩
  case round =>
    obtain ⟨k, hk, rfl, HB⟩ := hrel
    have hbx := (HB.out.block W.heap.size (by rw [HS3.out]; omega)).trans HX.out.1
    have hbn := (HB.out.block (W.heap.size + 1) (by rw [HS3.out]; omega)).trans HX.out.2.1
    have hbl := (HB.out.block (W.heap.size + 1 + 1) (by rw [HS3.out]; omega)).trans HX.out.2.2
    have x0 := cell_of_block hbx 0
    have x1 := cell_of_block hbx 1
    have x2 := cell_of_block hbx 2
    have x3 := cell_of_block hbx 3
    have l0 := cell_of_block hbl 0
    have l1 := cell_of_block hbl 1
    have HN : Hid (noPng wr (.pointer (some ⟨W.heap.size + 1, 0, none⟩))) := .inr ⟨_, rfl, cell_of_block hbn 0⟩
    clear hbx hbn hbl
    have KA : Hid (∀ v, noPng wr v → Calls Try.prog 17 #[v, .agg (px4 a b c d)] wr fun e w' => e = .returned (.tuple #[.slice none 0 0, .int .i64 1]) ∧ Hid (Below w3.heap.size w3 w' ∧ noPng w' v)) := fun v hv => by
      refine (putNone_code wr v a b c d hv).mono ?_
      rintro e w' ⟨rfl, h⟩
      refine ⟨rfl, HB.out.trans (h.out.mono HB.out.size), ?_⟩
      rcases hv with rfl | ⟨h0, rfl, hc⟩
      · exact .inl rfl
      · exact .inr ⟨h0, rfl, (h.out.cell (World.block_lt_of_cell? _ _ hc)).trans hc⟩
    by_cases hk2 : k < 2
    · have d1 : decide ((k : Int) < 2) = true := decide_eq_true (by omega)
      have d1' : decide (k < 2) = true := decide_eq_true hk2
      obtain rfl | rfl : k = 0 ∨ k = 1 := by omega
      · go_wp2_with fail
        go_at_call 17
        refine (KA.out _ (.inl rfl)).mono ?_
        rintro e w5 ⟨rfl, HB5⟩
        clear x0 x1 x2 x3 l0 l1
        go_wp2_with fail
        go_at_call 12
        refine (leftNone_code w5 _ HB5.out.2).mono ?_
        rintro e w6 ⟨rfl, rfl⟩
        go_wp2_with fail
        go_roundw
        case rel => exact ⟨1, by omega, by first | rfl | trivial, HB5.out.1⟩
        case measure => simp [intOf]
      · go_wp2_with fail
        go_at_call 17
        refine (KA.out _ HN.out).mono ?_
        rintro e w5 ⟨rfl, HB5⟩
        clear x0 x1 x2 x3 l0 l1
        go_wp2_with fail
        go_at_call 12
        refine (leftNone_code w5 _ HB5.out.2).mono ?_
        rintro e w6 ⟨rfl, rfl⟩
        go_wp2_with fail
        go_roundw
        case rel => exact ⟨2, by omega, by first | rfl | trivial, HB5.out.1⟩
        case measure => simp [intOf]
    · obtain rfl : k = 2 := by omega
      clear x0 x1 x2 x3 l0 l1
      go_wp2_with fail
      go_at_call 15
      refine (pawake_any D wr).mono ?_
      rintro e w5 ⟨rfl, HB5⟩
      go_wp2_with fail
      go_ret
      exact ⟨rfl, (HB3.out.trans (HB.out.mono HB3.out.size)).trans (HB5.out.mono (Nat.le_trans HB3.out.size HB.out.size))⟩
end Go.Proofs.Ytefdlidjdmlnaaa.Fx
