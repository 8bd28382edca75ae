/-
  What the document's own writer hands on; the document's own reader of bytes. The conditions stand in each.
-/
import Derived.Test.YtbfpbmnnlckldaaDoorRegion
import Derived.Test.YtbfpbmnnlckldaaDoorBitsG
namespace Go.Proofs.YtbfpbmnnlckldaaDoor.Fx
open Go Go.RowKit Go.Joins
set_option linter.unusedVariables false
theorem info8 : (Tryd.prog.info? 5).map (fun i => (i.zero, i.size, i.bytes)) = some (some (.int .u8 0), 1, 1) := by kernel_rfl
set_option maxHeartbeats 4000000 in
set_option maxRecDepth 100000 in
theorem rtake_any (v : Value) (L : List Bool) (t : Nat) (W : World) (hr : bools W v L) (hl : L.length ≤ 1099511627000) (ht : 8 * t ≤ L.length) :
    Calls Tryd.prog 46 #[.agg #[v, .int .i64 (t : Int)]] W fun e w' =>
      ∃ u, e = .returned (.tuple #[.agg #[v, .int .i64 ((L.length / 8 : Nat) : Int)], u]) ∧ bytesIn w' u (bytesAt L t (L.length / 8 - t)) ∧ (∀ b, inBlock u b → W.heap.size ≤ b) ∧ Below W.heap.size W w' := by
  obtain ⟨w1, e1, hs1, hB0, hB1, hbl⟩ := two_blocks W 36 v (.int .i64 (t : Int)) (.slice none 0 0) (.int .i64 0)
  have HR := Lib.hid hr
  obtain ⟨vo, vc, rfl⟩ := listed_length hr
  clear hr
  obtain ⟨n, en⟩ : ∃ n, L.length = n := ⟨_, rfl⟩
  have EN := Lib.hid en
  rw [en] at HR hl ht hB0 e1 ⊢
  clear en
  have hb1 : Below w1.heap.size w1 w1 := Below.refl _ _
  go_enter Tryd.func46, Tryd.ntmps46
  go_wp2_with fail
  rw [← e1]
  clear e1
  go_loopw [4] (fun o wr => ∃ m : Nat, 8 * (t + m) ≤ n ∧ wr.ownsRow (W.heap.size + 2) 5 1 o m ((bytesAt L t m).map byteVal) ∧ wr.heap[W.heap.size]? = some (.cells #[.slice vo n vc, .int .i64 ((t + m : Nat) : Int)] 36 (0, 0)) ∧ wr.heap[W.heap.size + 1]? = some (.cells #[.slice none 0 0, .int .i64 0] 36 (0, 0)) ∧ Below W.heap.size W wr ∧ W.heap.size + 2 ≤ wr.heap.size) (fun o _ => n / 8 - t - sliceLen o)
  case atStart => exact ⟨0, by omega, World.ownsRow_nil _ _ _ _, hB0, hB1, hbl, by omega⟩
  case round =>
    clear hB0 hB1 hbl hs1 hb1
    obtain ⟨m, hm, hown, hB0, hB1, hbl, hsz⟩ := hrel
    have HO := Lib.hid hown
    have HBL := Lib.hid hbl
    have HB0 := Lib.hid hB0
    have HB1 := Lib.hid hB1
    have hrow := own_listed (c := byteVal) hown
    have HFR := Lib.hid (fun b hb => own_fresh hown b hb)
    have HROW := Lib.hid hrow
    obtain ⟨oo, oc, rfl⟩ := listed_length hrow
    have hbm : (bytesAt L t m).length = m := bytesAt_length _ _ _
    rw [hbm] at HO HROW HFR ⊢
    clear hbl hown hbm hrow
    obtain ⟨q, eq⟩ : ∃ q, t + m = q := ⟨_, rfl⟩
    have EQ := Lib.hid eq
    have hm2 : m + 1 ≤ 140737488355328 := by omega
    rw [eq] at hB0 HB0 hm
    have q0 := cell_of_block hB0 0
    have q1 := cell_of_block hB0 1
    have q2 := cell_of_block hB1 0
    have q3 := cell_of_block hB1 1
    have f0 := unfrozen_of_block hB0 0
    have f1 := unfrozen_of_block hB0 1
    have f2 := unfrozen_of_block hB1 0
    have f3 := unfrozen_of_block hB1 1
    have hne : ¬ W.heap.size = W.heap.size + 1 := by omega
    clear hB0 hB1
    by_cases h8 : 8 * (q + 1) ≤ n
    · have hd : decide (8 * ((q : Int) + 1) ≤ (n : Int)) = true := decide_eq_true (by omega)
      obtain ⟨f, ef⟩ : ∃ f, 8 * q = f := ⟨_, rfl⟩
      have hf : 8 * (q : Int) = (f : Int) := by omega
      have KN : Hid (∀ w', Below W.heap.size W w' → Calls Tryd.prog 66 #[.slice vo n vc, .int .i64 (f : Int), .int .i64 8] w' fun e w'' => e = .returned (.int .u32 (numAt L f 8 : Nat)) ∧ w' = w'') := fun w' hb => number_any _ L f 8 w' (listed_on HR.out hb) (by rw [EN.out]; omega) (by omega) (by rw [EN.out]; omega)
      have bN := numAt_below L f 8
      have HNX := Lib.hid (bytesAt_next L t m)
      rw [EQ.out, ef] at HNX
      obtain ⟨N, eN⟩ : ∃ N, numAt L f 8 = N := ⟨_, rfl⟩
      rw [eN] at KN bN HNX
      clear eN eq
      have hw8 : IntKind.u8.wrap (N : Int) = (N : Int) := by
        rw [IntKind.wrap_u8']
        omega
      go_wp2_with (first | (go_at_call 66; refine (KN.out _ HBL.out).mono ?_; rintro e w' ⟨rfl, rfl⟩) | (at_builtin; refine wpList_append_one (c := byteVal) rfl _ _ 24 rfl (W.heap.size + 2) 5 (.int .u8 0) Tryd.underlying24 info8 rfl (fun _ => rfl) _ m (bytesAt L t m) rfl (HO.out.alloc _) wr.heap.size N rfl ?c1 hm2 (by simp; omega) ?_))
      case c1 => simp [byteVal]
      intro v' w3 hown' hgrow
      have hown'' : w3.ownsRow (W.heap.size + 2) 5 1 v' (m + 1) ((bytesAt L t (m + 1)).map byteVal) := by
        rw [HNX.out]
        simpa using hown'
      have hb2 : Below (W.heap.size + 2) wr w3 := ((Below.refl _ _).alloc hsz _).grown hgrow (by simp; omega) (fun q hq => (HO.out.lt q hq).1)
      clear hown' hgrow
      obtain ⟨o3, c3, rfl⟩ := listed_length (own_listed (c := byteVal) hown'')
      have hbm : (bytesAt L t (m + 1)).length = m + 1 := bytesAt_length _ _ _
      rw [hbm] at hown'' ⊢
      have HOWN := Lib.hid hown''
      have HB2 := Lib.hid hb2
      have hC0 := (hb2.block W.heap.size (by omega)).trans HB0.out
      have hC1 := (hb2.block (W.heap.size + 1) (by omega)).trans HB1.out
      clear q0 q1 q2 q3 f0 f1 f2 f3 hown'' hb2 hbm
      have q1 := cell_of_block hC0 1
      have f1 := unfrozen_of_block hC0 1
      have HC0 := Lib.hid hC0
      have HC1 := Lib.hid hC1
      have H8 := Lib.hid h8
      clear hC0 hC1
      go_wp2_with fail
      go_roundw
      case rel =>
        have e1 : t + (m + 1) = q + 1 := by have := EQ.out; omega
        have hN0 : (w3.setCell ⟨W.heap.size, 1, none⟩ (.int .i64 ((q : Int) + 1))).heap[W.heap.size]? = some (.cells #[.slice vo n vc, .int .i64 ((q + 1 : Nat) : Int)] 36 (0, 0)) := block_setCell HC0.out _
        refine ⟨m + 1, by rw [e1]; exact H8.out, ownsRow_setCell_below HOWN.out (by show W.heap.size < W.heap.size + 2; omega) _, by rw [e1]; exact hN0, ?_, ?_, ?_⟩
        · rw [Below.heap_setCell _ _ _ _ (by show W.heap.size + 1 ≠ W.heap.size; omega)]
          exact HC1.out
        · exact (HBL.out.trans (HB2.out.mono (by omega))).setCell (p := ⟨W.heap.size, 1, none⟩) (Nat.le_refl _) _
        · have := HB2.out.size
          simp
          omega
      case measure =>
        have h1 := H8.out
        have h2 := EQ.out
        simp [sliceLen]
        omega
    · have hd : decide (8 * ((q : Int) + 1) ≤ (n : Int)) = false := decide_eq_false (by omega)
      have hq : q = n / 8 := by omega
      have HQ := Lib.hid hq
      have hmm : n / 8 - t = m := by omega
      have HM := Lib.hid hmm
      clear hq hmm eq h8
      go_wp2_with fail
      refine bodyPost_ret (v := .tuple #[.agg #[.slice vo n vc, .int .i64 (q : Int)], .slice oo m oc]) ?_ rfl ⟨_, by rw [← HQ.out], ?_, fun b hb => Nat.le_trans (by omega) (HFR.out b hb), ?_⟩
      · rw [results_cell_tmp rfl]
        simp [asAddr, Result.andThen, go_sem, q2, q3]
      · rw [HM.out]
        refine listed_kept HROW.out (Nat.le_of_eq (by simp)) (fun b hb => ?_)
        have hge := HFR.out b hb
        rw [Below.heap_setCell _ _ _ b (by show b ≠ W.heap.size + 1; omega), Below.heap_setCell _ _ _ b (by show b ≠ W.heap.size + 1; omega)]
      · exact (HBL.out.setCell (p := ⟨W.heap.size + 1, 0, none⟩) (Nat.le_succ _) _).setCell (p := ⟨W.heap.size + 1, 1, none⟩) (Nat.le_succ _) _
end Go.Proofs.YtbfpbmnnlckldaaDoor.Fx
