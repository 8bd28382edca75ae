/-
  The document's own reader. The conditions stand in each.
-/
import Derived.Test.YtbfpbmnnlckldaaDoorBitsR
namespace Go.Proofs.YtbfpbmnnlckldaaDoor.Fx
open Go Go.RowKit Go.Joins
set_option linter.unusedVariables false
theorem below_two (W : World) (o o' : Obj) : Below W.heap.size W ((W.alloc o).alloc o') := ((Below.refl _ _).alloc (Nat.le_refl _) _).alloc (by show W.heap.size ≤ (W.heap.push _).size; simp) _
/-! ### The document's own writer: up to whole bytes; what is taken -/
def sliceLen : Value → Nat
  | .slice _ n _ => n
  | _ => 0
set_option maxHeartbeats 4000000 in
set_option maxRecDepth 100000 in
theorem rwalign_any (v : Value) (L : List Bool) (t : Int) (W : World) (hr : bools W v L) (hl : L.length ≤ 1099511627000) :
    Calls Tryd.prog 47 #[.agg #[v, .int .i64 t]] W fun e w' =>
      ∃ u, e = .returned (.agg #[u, .int .i64 t]) ∧ bools w' u (aligned L) ∧ (∀ b, inBlock u b → u = v ∨ W.heap.size ≤ b) ∧ Below W.heap.size W w' := by
  obtain ⟨w1, e1, hs1, hB0, hB1, hbl⟩ := two_blocks W 36 v (.int .i64 t) (.slice none 0 0) (.int .i64 0)
  have hr1 := listed_on hr hbl
  have hvb : ∀ b, inBlock v b → b < W.heap.size := fun b hb => by
    obtain ⟨off, n, cap, rfl, hn⟩ := hb
    rcases hr with ⟨⟨o, c, h, _⟩, _⟩ | ⟨b', off', cap', h, hlt, _⟩
    · simp only [Value.slice.injEq] at h
      omega
    · simp only [Value.slice.injEq, Option.some.injEq, Addr.mk.injEq] at h
      obtain ⟨⟨rfl, _⟩, _⟩ := h
      exact hlt
  have HVB := Lib.hid hvb
  have HAL := Lib.hid (aligned_length L)
  clear hr hvb
  go_enter Tryd.func47, Tryd.ntmps47
  go_wp2_with fail
  rw [← e1]
  clear e1
  go_loopw [6] (fun _ wr => ∃ (u : Value) (l : List Bool), bools wr u l ∧ aligned l = aligned L ∧ l.length ≤ (L.length + 7) / 8 * 8 ∧ wr.heap[W.heap.size]? = some (.cells #[u, .int .i64 t] 36 (0, 0)) ∧ wr.heap[W.heap.size + 1]? = some (.cells #[.slice none 0 0, .int .i64 0] 36 (0, 0)) ∧ (∀ b, inBlock u b → u = v ∨ W.heap.size + 2 ≤ b) ∧ Below W.heap.size W wr ∧ W.heap.size + 2 ≤ wr.heap.size) (fun _ wr => (L.length + 7) / 8 * 8 - sliceLen ((wr.cell? ⟨W.heap.size, 0, none⟩).getD undef))
  case atStart => exact ⟨v, L, hr1, rfl, by omega, hB0, hB1, fun b hb => .inl rfl, hbl, by omega⟩
  case round =>
    clear hr1 hB0 hB1 hbl hs1
    obtain ⟨u, l, hr, hal, hle, hB0, hB1, hfr, hbl, hsz⟩ := hrel
    have HRU := Lib.hid hr
    obtain ⟨uo, uc, rfl⟩ := listed_length hr
    have HA := Lib.hid hal
    have HFR := Lib.hid hfr
    have HBL := Lib.hid hbl
    have q0 := cell_of_block hB0 0
    have q1 := cell_of_block hB0 1
    have q2 := cell_of_block hB1 0
    have q3 := cell_of_block hB1 1
    have f0 := unfrozen_of_block hB0 0
    have f1 := unfrozen_of_block hB0 1
    have f2 := unfrozen_of_block hB1 0
    have f3 := unfrozen_of_block hB1 1
    have HB0 := Lib.hid hB0
    have HB1 := Lib.hid hB1
    have hne : ¬ W.heap.size = W.heap.size + 1 := by omega
    have hl2 : l.length ≤ 1099511627008 := by omega
    have HSTEP : Hid (l.length % 8 ≠ 0 → aligned (l ++ [false]) = aligned l) := aligned_step l
    have HDONE : Hid (l.length % 8 = 0 → aligned l = l) := aligned_done l
    have HLE := Lib.hid hle
    clear hr hal hfr hbl hB0 hB1 hle
    obtain ⟨n, en⟩ : ∃ n, l.length = n := ⟨_, rfl⟩
    have EN := Lib.hid en
    rw [en] at q0 HFR HB0 HRU HSTEP HDONE HLE hl2
    clear en
    by_cases h8 : n % 8 = 0
    · have ht : ((n : Int) % 8 != 0) = false := by simp; omega
      have hdone := HDONE.out h8
      have HALL : Hid (aligned L = l) := HA.out.symm.trans hdone
      clear h8 hdone HSTEP HDONE
      go_wp2_with fail
      refine bodyPost_ret (v := .agg #[.slice uo n uc, .int .i64 t]) (by simp [results, Tryd.results47, asAddr, Result.andThen, go_sem, q2, q3]) rfl ⟨_, rfl, ?_, fun b hb => ?_, ?_⟩
      · rw [HALL.out]
        refine listed_kept HRU.out (Nat.le_of_eq (by simp)) (fun b hb => ?_)
        have hb2 : b ≠ W.heap.size + 1 := by
          rcases HFR.out b hb with h | h
          · have := HVB.out b (by rw [← h]; exact hb)
            omega
          · omega
        rw [Below.heap_setCell _ _ _ b hb2, Below.heap_setCell _ _ _ b hb2]
      · rcases HFR.out b hb with h | h
        · exact .inl h
        · exact .inr (by omega)
      · exact (HBL.out.setCell (p := ⟨W.heap.size + 1, 0, none⟩) (Nat.le_succ _) _).setCell (p := ⟨W.heap.size + 1, 1, none⟩) (Nat.le_succ _) _
    · have ht : ((n : Int) % 8 != 0) = true := by simp; omega
      have hstep := HSTEP.out h8
      have HST := Lib.hid (hstep.trans HA.out)
      have hlt : n + 1 ≤ (L.length + 7) / 8 * 8 := by
        have h1 := congrArg List.length HA.out
        rw [aligned_length, aligned_length, EN.out] at h1
        omega
      have HLT := Lib.hid hlt
      clear h8 hstep hlt HSTEP HDONE
      go_wp2_with fail
      go_at_call 67
      refine (rput_any (.slice uo n uc) l t 0 1 wr HRU.out (by rw [EN.out]; omega) (by omega) (by decide)).mono ?_
      rintro e w2 ⟨u2, rfl, hu2, hfr2, hb2⟩
      obtain ⟨vo2, vc2, rfl⟩ := listed_length hu2
      have hB0' := (hb2.block W.heap.size (by omega)).trans HB0.out
      have hB1' := (hb2.block (W.heap.size + 1) (by omega)).trans HB1.out
      have hl' : (l ++ bitsOf 0 1).length = n + 1 := by rw [List.length_append, bitsOf_length, EN.out]
      rw [hl'] at hu2 hfr2 ⊢
      clear q0 q1 q2 q3 f0 f1 f2 f3
      have q0 := cell_of_block hB0' 0
      have q1 := cell_of_block hB0' 1
      have f0 := unfrozen_of_block hB0' 0
      have f1 := unfrozen_of_block hB0' 1
      have HU2 := Lib.hid hu2
      have HF2 := Lib.hid hfr2
      have HBB := Lib.hid hb2
      have HC0 := Lib.hid hB0'
      have HC1 := Lib.hid hB1'
      clear hu2 hfr2 hb2 hB0' hB1' hl'
      go_wp2_with fail
      go_roundw
      case rel =>
        have hE : bitsOf 0 1 = [false] := by decide
        have hN0 : ((w2.setCell ⟨W.heap.size, 0, none⟩ (.slice vo2 (n + 1) vc2)).setCell ⟨W.heap.size, 1, none⟩ (.int .i64 t)).heap[W.heap.size]? = some (.cells #[.slice vo2 (n + 1) vc2, .int .i64 t] 36 (0, 0)) := block_setCell (block_setCell HC0.out _) _
        refine ⟨_, l ++ [false], ?_, HST.out, ?_, hN0, ?_, fun b hb => .inr (Nat.le_trans hsz (HF2.out b hb)), ?_, ?_⟩
        · rw [← hE]
          refine listed_kept HU2.out (Nat.le_of_eq (by simp)) (fun b hb => ?_)
          have hge := HF2.out b hb
          rw [Below.heap_setCell _ _ _ b (by show b ≠ W.heap.size; omega), Below.heap_setCell _ _ _ b (by show b ≠ W.heap.size; omega)]
        · rw [List.length_append, EN.out]
          exact HLT.out
        · rw [Below.heap_setCell _ _ _ _ (by show W.heap.size + 1 ≠ W.heap.size; omega), Below.heap_setCell _ _ _ _ (by show W.heap.size + 1 ≠ W.heap.size; omega)]
          exact HC1.out
        · exact ((HBL.out.trans (HBB.out.mono (by omega))).setCell (p := ⟨W.heap.size, 0, none⟩) (Nat.le_refl _) _).setCell (p := ⟨W.heap.size, 1, none⟩) (Nat.le_refl _) _
        · have := HBB.out.size
          simp
          omega
      case measure =>
        have hN0 : ((w2.setCell ⟨W.heap.size, 0, none⟩ (.slice vo2 (n + 1) vc2)).setCell ⟨W.heap.size, 1, none⟩ (.int .i64 t)).heap[W.heap.size]? = some (.cells #[.slice vo2 (n + 1) vc2, .int .i64 t] 36 (0, 0)) := block_setCell (block_setCell HC0.out _) _
        have h1 := cell_of_block hN0 0
        have h2 := cell_of_block HB0.out 0
        have h3 := HLT.out
        rw [h1, h2]
        simp [sliceLen]
        omega
end Go.Proofs.YtbfpbmnnlckldaaDoor.Fx
