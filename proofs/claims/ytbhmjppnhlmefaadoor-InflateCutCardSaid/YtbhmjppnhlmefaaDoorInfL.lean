/-
  Lengths of codes, got by their own codes, as landed. The conditions stand in each.
-/
import Derived.Test.YtbhmjppnhlmefaaDoorInfM
namespace Go.Proofs.YtbhmjppnhlmefaaDoor.Fx
open Go Go.RowKit Go.Joins
set_option linter.unusedVariables false
theorem apart_next {w w' : World} {O O' R : Nat → Prop} (h : WentOn O O' w w') (hR : ∀ k, R k → ¬ O k) (hlt : ∀ k, R k → k < w.heap.size) : ∀ k, R k → ¬ O' k := fun k hk h1 =>
  (h.own k h1).elim (hR k hk) (fun h2 => by have := hlt k hk; omega)
theorem sym_in {c : Cds} {N n l code first place : Nat} {L : List Bool} {m : Nat} {s u : St} {a : Nat} (hN : 0 < N) (hf : ∀ x ∈ c.syms, x < N) (h : Says (symFrom c n l code first place) L m s (.ok a u)) : a < N := by
  induction n generalizing l code first place s with
  | zero =>
    obtain ⟨f, h⟩ := h
    cases h
  | succ n ih =>
    obtain ⟨f, h⟩ := h
    obtain ⟨b, t, h1, h2⟩ := Way.bind_ok h
    split at h2
    · cases h2
      rw [List.getD_eq_getElem?_getD]
      cases hx : c.syms[place + (2 * code + b) - 2 * first]? with
      | none => exact hN
      | some x => exact hf x (List.mem_of_getElem? hx)
    · exact ih ⟨f, h2⟩
theorem symW_in {c : Cds} {N : Nat} {L : List Bool} {m : Nat} {s u : St} {a : Nat} (hN : 0 < N) (hf : ∀ x ∈ c.syms, x < N) (h : Says (symW c) L m s (.ok a u)) : a < N := sym_in hN hf h
theorem make_zero (n : Nat) (hn : n ≤ 400) (w : World) : (Instr.makeSlice 104 (.int .i64 0) (.int .i64 (n : Int))).run Tryd.prog w = .ok (.slice (some ⟨w.heap.size, 0, none⟩) 0 n) (w.alloc (.cells (cellsN (List.replicate n 0)) 3)) := by
  obtain ⟨i0, hi, hz0, hz1, hz2⟩ := info_parts8 infoInt
  have h := run_make (P := Tryd.prog) w 104 3 i0 (.int .i64 0) Tryd.underlying104 hi hz0 .i64 .i64 0 n (Int.le_refl _) (by omega) (by rw [hz2]; omega) (by omega)
  rw [hz1, Int.toNat_natCast, Nat.mul_one] at h
  have e : madeCells (Value.int .i64 0).cells n = cellsN (List.replicate n 0) := by
    apply Array.ext
    · rw [size_madeCells]
      simp [cellsN]
    · intro j h1 h2
      have e : (Value.int .i64 0).cells = #[.int .i64 0] := rfl
      simp [madeCells, cellsN, natVal, e, Nat.mod_one]
  rw [e] at h
  exact h
set_option maxHeartbeats 1000000 in
set_option maxRecDepth 100000 in
/-- A length again and again, unless there would be more than are wanted. -/
theorem addTo_code (w : World) (A B want : Nat) (ls : List Nat) (R : Nat → Prop) (l n : Nat) (hA : w.cell? ⟨A, 0, none⟩ = some (.int .i64 (want : Int))) (h : isG w B ls R) (hw : want ≤ 400) (hn : n ≤ 1000) (hl : ls.length ≤ want) :
    Calls Tryd.prog 73 #[.int .i64 (l : Int), .int .i64 (n : Int), .pointer (some ⟨A, 0, none⟩), .pointer (some ⟨B, 0, none⟩)] w fun e w' =>
      (∃ R', ls.length + n ≤ want ∧ e = .returned (.tuple #[]) ∧ isG w' B (ls ++ List.replicate n l) R' ∧ WentOn R R' w w') ∨ (want < ls.length + n ∧ e = .panicked (fault 10) ∧ Past R w w') := by
  have HG0 : Hid (isG w B (ls ++ List.replicate 0 l) R) := by
    show isG _ _ _ _
    rw [List.replicate_zero, List.append_nil]
    exact h
  obtain ⟨v, hv⟩ := h
  have qb := cell_of_block hv.box 0
  obtain ⟨vo, vc, rfl⟩ := row_shape hv.row
  clear hv
  obtain ⟨k, ek⟩ : ∃ k, ls.length = k := ⟨_, rfl⟩
  have EK := Lib.hid ek
  rw [ek] at qb hl
  have hsub : (want : Int) - (k : Int) = ((want - k : Nat) : Int) := by omega
  obtain ⟨d, ed⟩ : ∃ d, want - k = d := ⟨_, rfl⟩
  rw [ed] at hsub
  have hd : d ≤ 400 := by omega
  by_cases hnd : n ≤ d
  · have d1 : decide ((d : Int) < (n : Int)) = false := decide_eq_false (by omega)
    have d2 : decide (d < n) = false := decide_eq_false (by omega)
    have HFIT : Hid (ls.length + n ≤ want) := by rw [ek]; show _ ≤ _; omega
    clear ek ed
    go_enter Tryd.func73, Tryd.ntmps73
    go_wp2_with fail
    go_at_call 51
    refine (refuse_no _ _).mono ?_
    rintro e w1 ⟨rfl, rfl⟩
    clear qb hA hsub
    go_wp2_with fail
    go_loopw [14] (fun u6 wr => ∃ (i : Nat) (R' : Nat → Prop), i ≤ n ∧ u6 = .int .i64 i ∧ Hid (isG wr B (ls ++ List.replicate i l) R') ∧ Hid (WentOn R R' w wr)) (fun u6 _ => n - (intOf u6).toNat)
    case atStart => exact ⟨0, R, Nat.zero_le _, rfl, HG0, WentOn.refl _ _⟩
    case round =>
      obtain ⟨i, R', hi, rfl, hG, hW⟩ := hrel
      by_cases hin : i < n
      · have d1 : decide ((i : Int) < (n : Int)) = true := decide_eq_true (by omega)
        have d2 : decide (i < n) = true := decide_eq_true hin
        obtain ⟨v, hg⟩ := hG.out
        have HGA := Lib.hid hg
        have hlen : (ls ++ List.replicate i l).length = ls.length + i := by rw [List.length_append, List.length_replicate]
        have HREP : Hid ((ls ++ List.replicate i l) ++ [l] = ls ++ List.replicate (i + 1) l) := by
          show _ = _
          rw [List.append_assoc, ← List.replicate_succ']
        have hrow := hg.row
        obtain ⟨X, eX⟩ : ∃ X, ls ++ List.replicate i l = X := ⟨_, rfl⟩
        rw [eX] at HGA HREP hrow hlen
        obtain ⟨m, em⟩ : ∃ m, X.length = m := ⟨_, rfl⟩
        have EM := Lib.hid em
        rw [em] at hrow hlen
        obtain ⟨vo, vc, rfl⟩ := row_shape hrow
        have hROW := Lib.hid hrow
        have q0 := cell_of_block hg.box 0
        have a0 := fun o => cell_of_block (alloc_old (o' := o) hg.box) 0
        have hm : m + 1 ≤ 2000000 := by have := EK.out; omega
        clear hg hrow eX em hG hlen
        go_wp2_with (at_builtin; refine wpList_append_num rfl _ _ rfl (.slice vo m vc) m (X.map natVal) rfl (hROW.out.alloc _) wr.heap.size (.int .i64 (l : Int)) rfl (cell_of_block (heap_alloc_new wr _) 0) rfl (by omega) ?_)
        intro v' w6 hown hgrow hwhere
        obtain ⟨b2, cap2, rfl, hcc⟩ := numForm hown
        have hx0 := HGA.out.grown ((Below.refl _ _).alloc (Nat.le_refl _) _) hgrow
        have r1 := cell_of_block hx0 0
        have r2 := unfrozen_of_block hx0 0
        obtain ⟨R6, j1, j2⟩ := GrowAt.push (x := l) HGA.out ((Below.refl _ _).alloc (Nat.le_refl _) _) hgrow (by rw [EM.out, List.map_append]; exact hown) (fun k hk => (hwhere k hk).imp id (fun h => by simpa using h))
        rw [HREP.out] at j1
        have J1 := Lib.hid j1
        have J2 := Lib.hid (hW.out.trans j2)
        clear hown hgrow hwhere hx0 hcc j1 j2
        go_wp2_with fail
        go_roundw
        case rel => exact ⟨i + 1, R6, by omega, by go_num, J1, J2⟩
        case measure => simp [intOf]; omega
      · obtain rfl : i = n := by omega
        have d1 : decide ((i : Int) < (i : Int)) = false := decide_eq_false (by omega)
        have d2 : decide (i < i) = false := decide_eq_false (by omega)
        go_wp2_with fail
        go_end0
        exact .inl ⟨R', HFIT.out, rfl, hG.out, hW.out⟩
  · have d1 : decide ((d : Int) < (n : Int)) = true := decide_eq_true (by omega)
    have d2 : decide (d < n) = true := decide_eq_true (by omega)
    have HFIT : Hid (want < ls.length + n) := by rw [ek]; show _ < _; omega
    clear ek ed
    go_enter Tryd.func73, Tryd.ntmps73
    go_wp2_with fail
    go_at_call 51
    refine (refuse_yes 10 _).mono ?_
    rintro e w1 ⟨rfl, rfl⟩
    go_wp2_with fail
    exact ⟨rfl, .inr ⟨HFIT.out, rfl, Past.refl _ _⟩⟩
end Go.Proofs.YtbhmjppnhlmefaaDoor.Fx
