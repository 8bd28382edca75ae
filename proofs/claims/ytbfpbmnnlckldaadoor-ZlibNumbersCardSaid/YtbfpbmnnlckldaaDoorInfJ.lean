/-
  A pair of codes, put together; the fixed codes, as landed. The conditions stand in each.
-/
import Derived.Deep.RegionHeld
import Derived.Test.YtbfpbmnnlckldaaDoorInfK
namespace Go.Proofs.YtbfpbmnnlckldaaDoor.Fx
open Go Go.RowKit Go.Joins
set_option linter.unusedVariables false
set_option maxRecDepth 100000 in
theorem pair_built' (a0 a1 a2 a3 a4 a5 a6 a7 a8 a9 a10 a11 a12 a13 a14 a15 b0 b1 b2 b3 b4 b5 b6 b7 b8 b9 b10 b11 b12 b13 b14 b15 v1 v2 : Value) : Tryd.prog.built 164 [(0, .agg #[a0, a1, a2, a3, a4, a5, a6, a7, a8, a9, a10, a11, a12, a13, a14, a15, v1]), (1, .agg #[b0, b1, b2, b3, b4, b5, b6, b7, b8, b9, b10, b11, b12, b13, b14, b15, v2])] = some #[a0, a1, a2, a3, a4, a5, a6, a7, a8, a9, a10, a11, a12, a13, a14, a15, v1, b0, b1, b2, b3, b4, b5, b6, b7, b8, b9, b10, b11, b12, b13, b14, b15, v2] := by kernel_rfl
theorem pair_built (cs1 cs2 : List Nat) (v1 v2 : Value) (h1 : cs1.length = 16) (h2 : cs2.length = 16) : Tryd.prog.built 164 [(0, .agg (cellsC cs1 v1)), (1, .agg (cellsC cs2 v2))] = some (cellsC cs1 v1 ++ cellsC cs2 v2) := by
  match cs1, h1 with
  | [a0, a1, a2, a3, a4, a5, a6, a7, a8, a9, a10, a11, a12, a13, a14, a15], _ =>
    match cs2, h2 with
    | [b0, b1, b2, b3, b4, b5, b6, b7, b8, b9, b10, b11, b12, b13, b14, b15], _ =>
      have e1 : cellsC [a0, a1, a2, a3, a4, a5, a6, a7, a8, a9, a10, a11, a12, a13, a14, a15] v1 = #[natVal a0, natVal a1, natVal a2, natVal a3, natVal a4, natVal a5, natVal a6, natVal a7, natVal a8, natVal a9, natVal a10, natVal a11, natVal a12, natVal a13, natVal a14, natVal a15, v1] := rfl
      have e2 : cellsC [b0, b1, b2, b3, b4, b5, b6, b7, b8, b9, b10, b11, b12, b13, b14, b15] v2 = #[natVal b0, natVal b1, natVal b2, natVal b3, natVal b4, natVal b5, natVal b6, natVal b7, natVal b8, natVal b9, natVal b10, natVal b11, natVal b12, natVal b13, natVal b14, natVal b15, v2] := rfl
      have e3 : cellsC [a0, a1, a2, a3, a4, a5, a6, a7, a8, a9, a10, a11, a12, a13, a14, a15] v1 ++ cellsC [b0, b1, b2, b3, b4, b5, b6, b7, b8, b9, b10, b11, b12, b13, b14, b15] v2 = #[natVal a0, natVal a1, natVal a2, natVal a3, natVal a4, natVal a5, natVal a6, natVal a7, natVal a8, natVal a9, natVal a10, natVal a11, natVal a12, natVal a13, natVal a14, natVal a15, v1, natVal b0, natVal b1, natVal b2, natVal b3, natVal b4, natVal b5, natVal b6, natVal b7, natVal b8, natVal b9, natVal b10, natVal b11, natVal b12, natVal b13, natVal b14, natVal b15, v2] := by
        rw [e1, e2]
        simp
      rw [e3, e1, e2]
      exact pair_built' (natVal a0) (natVal a1) (natVal a2) (natVal a3) (natVal a4) (natVal a5) (natVal a6) (natVal a7) (natVal a8) (natVal a9) (natVal a10) (natVal a11) (natVal a12) (natVal a13) (natVal a14) (natVal a15) (natVal b0) (natVal b1) (natVal b2) (natVal b3) (natVal b4) (natVal b5) (natVal b6) (natVal b7) (natVal b8) (natVal b9) (natVal b10) (natVal b11) (natVal b12) (natVal b13) (natVal b14) (natVal b15) v1 v2
theorem pair_is {w : World} {b : Nat} {c1 c2 : Cds} {v1 v2 : Value} {t : TypeId} {fr : Nat × Nat} (hb : w.heap[b]? = some (.cells (cellsC c1.counts v1 ++ cellsC c2.counts v2) t fr)) (h1 : c1.counts.length = 16) (h2 : c2.counts.length = 16) (hl1 : listed natVal w v1 c1.syms) (hl2 : listed natVal w v2 c2.syms) (K : Nat → Prop) (hKb : K b) (hK1 : ∀ k, inBlock v1 k → K k) (hK2 : ∀ k, inBlock v2 k → K k) : isPair w b (c1, c2) K := by
  have s1 : (cellsC c1.counts v1).size = 17 := by rw [cellsC_size, h1]
  refine ⟨⟨_, ⟨v1, ⟨fun l hl => ?_, ?_, hl1, rfl⟩⟩, ?_⟩, ⟨_, ⟨v2, ⟨fun l hl => ?_, ?_, hl2, rfl⟩⟩, ?_⟩⟩
  · rw [Nat.zero_add, cell_of_block hb l, Array.getElem?_append_left (by omega)]
    exact cellsC_get _ _ l (by omega)
  · rw [Nat.zero_add, cell_of_block hb 16, Array.getElem?_append_left (by omega)]
    exact cellsC_last _ _ 16 h1.symm
  · rintro k (rfl | hk)
    · exact hKb
    · exact hK1 k hk
  · rw [cell_of_block hb (17 + l), Array.getElem?_append_right (by omega), s1, Nat.add_sub_cancel_left]
    exact cellsC_get _ _ l (by omega)
  · rw [cell_of_block hb (17 + 16), Array.getElem?_append_right (by omega), s1, Nat.add_sub_cancel_left]
    exact cellsC_last _ _ 16 h2.symm
  · rintro k (rfl | hk)
    · exact hKb
    · exact hK2 k hk
/-- All new: what lies behind a world, and what a row's blocks are. -/
theorem grow_start (W : World) (Z : Array Value) (n : Nat) (hZ : Z.size = n) (hn : n ≤ 400) :
    ∃ R, (isG ((W.alloc (.cells Z 3)).alloc (.cells #[.slice (some ⟨W.heap.size, 0, none⟩) 0 n] 144)) (W.heap.size + 1) [] R ∧ Below W.heap.size W ((W.alloc (.cells Z 3)).alloc (.cells #[.slice (some ⟨W.heap.size, 0, none⟩) 0 n] 144))) ∧ ∀ k, R k → W.heap.size ≤ k := by
  have s1 : (W.alloc (.cells Z 3)).heap.size = W.heap.size + 1 := by
    show (W.heap.push _).size = _
    simp
  have hrow : (W.alloc (.cells Z 3)).ownsRow 0 3 1 (.slice (some ⟨W.heap.size, 0, none⟩) 0 n) 0 [] := World.ownsRow_made W Z n (Nat.zero_le _) (by unfold maxLen; omega) (by omega)
  have hbox : ((W.alloc (.cells Z 3)).alloc (.cells #[.slice (some ⟨W.heap.size, 0, none⟩) 0 n] 144)).heap[W.heap.size + 1]? = some (.cells #[.slice (some ⟨W.heap.size, 0, none⟩) 0 n] 144 (0, 0)) := by
    rw [← s1]
    exact heap_alloc_new _ _
  refine ⟨_, ⟨⟨_, hbox, hrow.alloc _, by simp [Value.ownBlock], rfl⟩, ((Below.refl _ _).alloc (Nat.le_refl _) _).alloc (by rw [s1]; omega) _⟩, ?_⟩
  rintro k (rfl | hk)
  · omega
  · simp only [Value.ownBlock, Option.some.injEq] at hk
    omega
theorem below_went {W w w' : World} {R R' : Nat → Prop} (h : Below W.heap.size W w) (hR : ∀ k, R k → W.heap.size ≤ k) (h2 : WentOn R R' w w') : Below W.heap.size W w' ∧ ∀ k, R' k → W.heap.size ≤ k :=
  ⟨h.trans (h2.past.below hR h.size), fun k hk => (h2.own k hk).elim (hR k) (fun h3 => Nat.le_trans h.size h3)⟩
/-- 'lengths = lengths[:0]' behind a box of the call's own. -/
theorem cut_start {w4 w5 : World} {B b4 c4 n : Nat} {ls : List Nat} {R4 : Nat → Prop} {A1 : Array Value} (hv : GrowAt w4 B ls R4 (.slice (some ⟨b4, 0, none⟩) n c4)) (hb : Below w4.heap.size w4 w5)
    (hB : (w5.alloc (.cells A1 161)).heap[B]? = some (.cells #[.slice (some ⟨b4, 0, none⟩) n c4] 144 (0, 0))) :
    ∃ R5, isG ((w5.alloc (.cells A1 161)).setCell ⟨B, 0, none⟩ (.slice (some ⟨b4, 0, none⟩) 0 c4)) B [] R5 ∧ (∀ k, R5 k → R4 k ∧ k < w4.heap.size) ∧
      (∀ (v : Value) (zs : List Nat), listed natVal w5 v zs → (∀ b, inBlock v b → w4.heap.size ≤ b) → listed natVal ((w5.alloc (.cells A1 161)).setCell ⟨B, 0, none⟩ (.slice (some ⟨b4, 0, none⟩) 0 c4)) v zs) ∧
      w5.heap.size < ((w5.alloc (.cells A1 161)).setCell ⟨B, 0, none⟩ (.slice (some ⟨b4, 0, none⟩) 0 c4)).heap.size ∧
      ((w5.alloc (.cells A1 161)).setCell ⟨B, 0, none⟩ (.slice (some ⟨b4, 0, none⟩) 0 c4)).heap[w5.heap.size]? = some (.cells A1 161 (0, 0)) := by
  have hBlt := (Array.getElem?_eq_some_iff.1 hv.box).1
  have hblt := (hv.row.lt b4 rfl).2
  have hne : b4 ≠ B := fun e => hv.ne (by rw [e]; rfl)
  have hs := hb.size
  have hsz : ((w5.alloc (.cells A1 161)).setCell ⟨B, 0, none⟩ (.slice (some ⟨b4, 0, none⟩) 0 c4)).heap.size = w5.heap.size + 1 := by
    simp
  refine ⟨fun k => k = B ∨ k = b4, ⟨_, by simpa using block_setCell (i := 0) hB _, ?_, by simpa [Value.ownBlock] using hne, by simp [Value.ownBlock, eq_comm]⟩, ?_, fun v zs hl hn => ?_, by rw [hsz]; omega, ?_⟩
  · refine ⟨rfl, .inr ?_⟩
    rcases hv.row.2 with ⟨h, _⟩ | ⟨g, cap, cur, h, _, hg, _, hm, hsize, _⟩
    · cases h
    · simp only [Value.slice.injEq, Option.some.injEq, Addr.mk.injEq] at h
      obtain ⟨⟨rfl, _⟩, _, rfl⟩ := h
      exact ⟨b4, c4, cur, rfl, Nat.zero_le _, (Below.heap_setCell _ _ _ _ hne).trans (alloc_old ((hb.block b4 hblt).trans hg)), Nat.zero_le _, hm, hsize, by simp⟩
  · rintro k (rfl | rfl)
    · exact ⟨by rw [hv.own]; exact .inl rfl, hBlt⟩
    · exact ⟨by rw [hv.own]; exact .inr rfl, hblt⟩
  · refine listed_kept hl (by rw [hsz]; omega) (fun b hbk => ?_)
    have h1 := hn b hbk
    have h2 := inBlock_low hl hbk
    refine (Below.heap_setCell _ _ _ _ (by show b ≠ B; omega)).trans ?_
    exact ((Below.refl _ _).alloc (Nat.le_refl _) _ : Below w5.heap.size w5 _).block b h2
  · refine (Below.heap_setCell _ _ _ _ (by show w5.heap.size ≠ B; omega)).trans ?_
    exact heap_alloc_new w5 _
theorem wp_build_run {P : Program} {o : Oper} {a : Act} {w : World} {K : Act → World → Prop} {Q : Exit → Act → World → Prop} (t : TypeId) (parts : Array (Nat × Operand)) (ho : o.op = .build t parts) (cells : Array Value) (vals : Array (Nat × Value)) (hv : (parts.map fun (i, x) => (i, a.eval x)) = vals)
    (hrun : (Instr.build t vals).run P w = .ok (.agg cells) w) (h : K (a.put o.dst (.agg cells)) w) : o.wp P a w K Q := by
  subst hv
  unfold Oper.wp execOp
  simp only [ho, Sem.run_bind, hrun, Result.andThen_ok]
  exact h
theorem fixedLens_fit : fixedLens.length = 288 := by decide +kernel
set_option maxHeartbeats 4000000 in
set_option maxRecDepth 100000 in
theorem fixedPair_any (W : World) : Calls Tryd.prog 89 #[] W fun e w' => ∃ b, e = .returned (.pointer (some ⟨b, 0, none⟩)) ∧ isPair w' b fixedP (fun k => W.heap.size ≤ k ∧ k < w'.heap.size) ∧ Below W.heap.size W w' := by
  have hmf : ∀ (fn : Fn) (first cap : Array Value) (w : World), (Instr.makeFunc fn first cap).run Tryd.prog w = .ok (.func fn first cap) w := fun _ _ _ _ => rfl
  obtain ⟨Z, eZ⟩ : ∃ Z, cellsN (List.replicate 288 0) = Z := ⟨_, rfl⟩
  have hZ : Z.size = 288 := by rw [← eZ, cellsN_size, List.length_replicate]
  have HZ := Lib.hid hZ
  have hmake : ∀ w : World, (Instr.makeSlice 144 (.int .i64 0) (.int .i64 288)).run Tryd.prog w = .ok (.slice (some ⟨w.heap.size, 0, none⟩) 0 288) (w.alloc (.cells Z 3)) := fun w => by
    rw [← eZ]
    exact make_zero 288 (by decide) w
  obtain ⟨R0, hg0, hr0⟩ := grow_start W Z 288 hZ (by decide)
  have HG0 := Lib.hid hg0
  have HR0 := Lib.hid hr0
  clear eZ hZ hg0 hr0
  go_enter Tryd.func89, Tryd.ntmps89
  go_wp2_with fail
  go_at_call 97
  refine (again_code _ _ _ _ 8 144 HG0.out.1 (by decide)).mono ?_
  rintro e w1 ⟨R1, rfl, h1, h2⟩
  have HG1 := Lib.hid h1
  have HW1 := Lib.hid (below_went HG0.out.2 HR0.out h2)
  clear h1 h2
  go_wp2_with fail
  go_at_call 97
  refine (again_code _ _ _ _ 9 112 HG1.out (by simp)).mono ?_
  rintro e w2 ⟨R2, rfl, h1, h2⟩
  have HG2 := Lib.hid h1
  have HW2 := Lib.hid (below_went HW1.out.1 HW1.out.2 h2)
  clear h1 h2
  go_wp2_with fail
  go_at_call 97
  refine (again_code _ _ _ _ 7 24 HG2.out (by simp)).mono ?_
  rintro e w3 ⟨R3, rfl, h1, h2⟩
  have HG3 := Lib.hid h1
  have HW3 := Lib.hid (below_went HW2.out.1 HW2.out.2 h2)
  clear h1 h2
  go_wp2_with fail
  go_at_call 97
  refine (again_code _ _ _ _ 8 8 HG3.out (by simp)).mono ?_
  rintro e w4 ⟨R4, rfl, h1, h2⟩
  have HW4 := Lib.hid (below_went HW3.out.1 HW3.out.2 h2)
  have HG4 : Hid (isG w4 (W.heap.size + 1) fixedLens R4) := by
    have e : ((([] ++ List.replicate 144 8) ++ List.replicate 112 9) ++ List.replicate 24 7) ++ List.replicate 8 8 = fixedLens := rfl
    rw [← e]
    exact h1
  clear h1 h2 HG1 HG2 HG3
  obtain ⟨v4, hv4⟩ := HG4.out
  have q0 := cell_of_block hv4.box 0
  have HV4 := Lib.hid hv4
  have HLI := Lib.hid (own_listed hv4.row)
  obtain ⟨b4, c4, rfl, hc4⟩ := numForm (c := 287) (by have := hv4.row; rw [fixedLens_fit] at this; exact this)
  have f0 := unfrozen_of_block hv4.box 0
  clear hv4
  have KN := newCodes_any (.slice (some ⟨b4, 0, none⟩) (287 + 1) c4) fixedLens w4 HLI.out (by decide +kernel) (by rw [fixedLens_fit]; decide)
  go_wp2_with fail
  go_at_call 98
  refine KN.mono ?_
  rintro e w5 ⟨v5, rfl, h1, h2, h3, h4⟩
  have HS5 := Lib.hid h1
  have HN5 := Lib.hid h2
  have hone := h3
  have HB5 := Lib.hid h4
  have hi108 : (Tryd.prog.info? 161).map (·.size) = some 17 := by kernel_rfl
  have hA1s : (cellsC (countsOf fixedLens) v5).size = 17 := by rw [cellsC_size, counts_length]
  have hA1o := cellsC_one (countsOf fixedLens) v5 hone
  obtain ⟨A1, eA1⟩ : ∃ A1, cellsC (countsOf fixedLens) v5 = A1 := ⟨_, rfl⟩
  have EA1 := Lib.hid eA1
  rw [eA1] at hA1s hA1o ⊢
  have HI := Lib.hid hi108
  have HA1S := Lib.hid hA1s
  have HA1O := Lib.hid hA1o
  have hB5 : (w5.alloc (.cells A1 161)).heap[W.heap.size + 1]? = some (.cells #[.slice (some ⟨b4, 0, none⟩) (287 + 1) c4] 144 (0, 0)) :=
    alloc_old ((h4.block _ (Array.getElem?_eq_some_iff.1 HV4.out.box).1).trans HV4.out.box)
  have r0 := cell_of_block hB5 0
  have r1 := unfrozen_of_block hB5 0
  have HB5B := Lib.hid hB5
  have HT5 : Hid ((w5.alloc (.cells A1 161)).heap[w5.heap.size]? = some (.cells A1 161 (0, 0))) := heap_alloc_new w5 _
  clear h1 h2 h3 h4 hone hi108 hA1s hA1o eA1 q0 f0 KN hB5
  go_wp2_with (refine wpList_store_agg rfl 161 _ _ rfl ⟨w5.heap.size, 0, none⟩ rfl (.agg A1) rfl (run_storeVar_new w5 161 _ A1 (by rw [HA1S.out]; exact HI.out) (by rw [HA1S.out]; rfl) HA1O.out) ?_)
  obtain ⟨R5, hg6, hr6, hp6⟩ := cut_start HV4.out HB5.out HB5B.out
  obtain ⟨hp6, hp5⟩ := hp6
  have HG6 := Lib.hid hg6
  have hb6 : Below W.heap.size W ((w5.alloc (.cells A1 161)).setCell ⟨W.heap.size + 1, 0, none⟩ (.slice (some ⟨b4, 0, none⟩) 0 c4)) :=
    (((HW4.out.1.trans (HB5.out.mono HW4.out.1.size)).alloc (by have := HW4.out.1.size; have := HB5.out.size; omega) _).setCell (p := ⟨W.heap.size + 1, 0, none⟩) (Nat.le_succ _) _)
  have HB6 := Lib.hid hb6
  have hr6W : ∀ k, R5 k → W.heap.size ≤ k := fun k hk => HW4.out.2 k (hr6 k hk).1
  have HR6 := Lib.hid hr6
  have HR6W := Lib.hid hr6W
  have HP6 := Lib.hid hp6
  have HP5 := Lib.hid hp5
  clear hg6 hr6 hp6 hp5 hb6 hr6W r0 r1
  go_at_call 97
  refine (again_code _ _ _ _ 5 32 HG6.out (by decide)).mono ?_
  rintro e w7 ⟨R7, rfl, h1, h2⟩
  have HW7 := Lib.hid (below_went HB6.out HR6W.out h2)
  have HG7 : Hid (isG w7 (W.heap.size + 1) (List.replicate 32 5) R7) := h1
  have HT7 : Hid (w7.heap[w5.heap.size]? = some (.cells A1 161 (0, 0))) := (h2.past.block _ HP5.out.1 (fun hr => by have := (HR6.out _ hr).2; have := HB5.out.size; omega)).trans HP5.out.2
  have HS7 : Hid (listed natVal w7 v5 (newCds fixedLens).syms) := listed_past (HP6.out _ _ HS5.out HN5.out) h2.past (fun b hb hr => by have := HN5.out b hb; have := (HR6.out _ hr).2; omega)
  clear h1 h2
  obtain ⟨v7, hv7⟩ := HG7.out
  have q0 := cell_of_block hv7.box 0
  have HLI7 := Lib.hid (own_listed hv7.row)
  obtain ⟨b7, c7, rfl, hc7⟩ := numForm (c := 31) hv7.row
  have HV7 := Lib.hid hv7
  clear hv7
  go_wp2_with fail
  have HLD : Hid (∀ w', Below w7.heap.size w7 w' → (loadVar 161 ⟨w5.heap.size, 0, none⟩).run Tryd.prog w' = .ok (.agg A1) w') := fun w' hb =>
    run_loadVar_row w' w5.heap.size 161 161 _ (0, 0) _ ((hb.block _ (Array.getElem?_eq_some_iff.1 HT7.out).1).trans HT7.out) Tryd.underlying161 rfl (by rw [HA1S.out]; exact HI.out)
  have HQ : Hid (∀ w', Below w7.heap.size w7 w' → w'.cell? ⟨W.heap.size + 1, 0, none⟩ = some (.slice (some ⟨b7, 0, none⟩) (31 + 1) c7)) := fun w' hb =>
    (World.cell?_of_block (a := ⟨W.heap.size + 1, 0, none⟩) (hb.block _ (Array.getElem?_eq_some_iff.1 HV7.out.box).1)).trans (cell_of_block HV7.out.box 0)
  have KN : Hid (∀ w', Below w7.heap.size w7 w' → Calls Tryd.prog 98 #[.slice (some ⟨b7, 0, none⟩) (31 + 1) c7] w' fun e w'' => ∃ v, e = .returned (.agg (cellsC (countsOf (List.replicate 32 5)) v)) ∧ listed natVal w'' v (newCds (List.replicate 32 5)).syms ∧ (∀ b, inBlock v b → w'.heap.size ≤ b) ∧ v.oneCell' = true ∧ Below w'.heap.size w' w'') := fun w' hb =>
    newCodes_any _ (List.replicate 32 5) w' (listed_on HLI7.out hb) (by decide) (by decide)
  refine wp_region_held_drew (S := fun w' => Below w7.heap.size w7 w') (by kernel_rfl) (Below.refl _ _).drew (fun hS => ?_)
  refine wpAnyH_take (i := 0) (v := .agg A1) rfl (by kernel_rfl) (by kernel_rfl) (by kernel_rfl) (fun _ _ _ h => h) (.inl ⟨rfl, fun w' hS' => ?_⟩) hS ?_
  · have h := HLD.out w' hS'
    simp only [execOp, Act.eval, Instr.loadAt, Instr.sureAddr]
    simp [h, Result.andThen]
  refine wpAnyH_take (i := 1) (v := .slice (some ⟨b7, 0, none⟩) (31 + 1) c7) rfl (by kernel_rfl) (by kernel_rfl) (by kernel_rfl) (fun _ _ _ h => h) (.inl ⟨rfl, fun w' hS' => ?_⟩) hS ?_
  · have h := HQ.out w' hS'
    go_simp
  refine wpAnyH_ready (rs := [2]) (by kernel_rfl) (by simp) (AllReadyH.cons rfl (fun K' hK => ?_) AllReadyH.nil)
  go_simp
  go_at_call 98
  refine (KN.out _ hS).mono ?_
  rintro e w8 ⟨v8, rfl, h1, h2, h3, h4⟩
  have hS8 : Below w7.heap.size w7 w8 := hS.trans (h4.mono hS.size)
  have HS8 := Lib.hid h1
  have HN8 := Lib.hid h2
  have HB8 := Lib.hid hS8
  have hbuild : ∀ w, (Instr.build 164 #[(0, .agg A1), (1, .agg (cellsC (countsOf (List.replicate 32 5)) v8))]).run Tryd.prog w = .ok (.agg (A1 ++ cellsC (countsOf (List.replicate 32 5)) v8)) w := fun w => by
    rw [← EA1.out]
    exact run_build w 164 _ _ (pair_built (countsOf fixedLens) (countsOf (List.replicate 32 5)) v5 v8 (counts_length _) (counts_length _))
  obtain ⟨A2, eA2⟩ : ∃ A2, cellsC (countsOf (List.replicate 32 5)) v8 = A2 := ⟨_, rfl⟩
  have EA2 := Lib.hid eA2
  rw [eA2] at hbuild ⊢
  obtain ⟨A3, eA3⟩ : ∃ A3, A1 ++ A2 = A3 := ⟨_, rfl⟩
  have EA3 := Lib.hid eA3
  rw [eA3] at hbuild
  clear h1 h2 h3 h4 eA2 eA3
  refine hK.out _ _ hS8 (fun _ => ?_)
  refine wpAnyH_ready (rs := [3]) (by kernel_rfl) (by simp) (AllReadyH.cons rfl (fun K' hK => ?_) AllReadyH.nil)
  rw [if_pos (by rfl)]
  refine wp_build_run 164 _ rfl A3 #[(0, .agg A1), (1, .agg A2)] (by simp [Act.eval]) (hbuild w8) ?_
  refine hK.out _ _ hS8 (fun _ => ?_)
  refine wpAnyH_ready (rs := [4]) (by kernel_rfl) (by simp) (AllReadyH.cons rfl (fun K' hK => ?_) AllReadyH.nil)
  go_simp
  refine hK.out _ _ (hS8.alloc hS8.size _) (fun hS9 => ?_)
  refine wpAnyH_ready (rs := [5]) (by kernel_rfl) (by simp) (AllReadyH.cons rfl (fun K' hK => ?_) AllReadyH.nil)
  go_simp
  refine hK.out _ _ hS9 (fun _ => ?_)
  refine wpAnyH_done (by kernel_rfl) ?_ _
  go_wp2_with fail
  go_simp
  go_ret
  have hall := HW7.out.1.trans (hS9.mono HW7.out.1.size)
  have hnew : (w8.alloc (.cells A3 164)).heap[w8.heap.size]? = some (.cells A3 164 (0, 0)) := heap_alloc_new w8 _
  have hA3 : A3 = cellsC (newCds fixedLens).counts v5 ++ cellsC (newCds (List.replicate 32 5)).counts v8 := by
    rw [← EA3.out, ← EA1.out, ← EA2.out]
    rfl
  have hW8 : W.heap.size ≤ w8.heap.size := Nat.le_trans HW7.out.1.size HB8.out.size
  have hsz : (w8.alloc (.cells A3 164)).heap.size = w8.heap.size + 1 := by
    show (w8.heap.push _).size = _
    simp
  have hin1 := HS7.out
  refine ⟨w8.heap.size, rfl, ?_, hall⟩
  have hb8 : Below w8.heap.size w8 (w8.alloc (.cells A3 164)) := (Below.refl _ _).alloc (Nat.le_refl _) _
  have hl1 := listed_on HS7.out hS9
  have hl2 := listed_on HS8.out hb8
  have h45 : W.heap.size ≤ w4.heap.size := HW4.out.1.size
  refine pair_is (c1 := newCds fixedLens) (c2 := newCds (List.replicate 32 5)) (v1 := v5) (v2 := v8) (t := 164) (fr := (0, 0)) (by rw [← hA3]; exact hnew) (counts_length _) (counts_length _) hl1 hl2 _ ⟨hW8, by rw [hsz]; omega⟩ (fun k hk => ⟨Nat.le_trans h45 (HN5.out k hk), ?_⟩) (fun k hk => ⟨Nat.le_trans HW7.out.1.size (HN8.out k hk), ?_⟩)
  · exact inBlock_low hl1 hk
  · exact inBlock_low hl2 hk
end Go.Proofs.YtbfpbmnnlckldaaDoor.Fx
