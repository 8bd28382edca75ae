/-
  Bytes that are added to the window, as landed. The conditions stand in it.
-/
import Derived.Test.YtbhmjppnhlmefaaDoorWinG
namespace Go.Proofs.YtbhmjppnhlmefaaDoor.Fx
open Go Go.RowKit Go.Joins Go.Maps
set_option linter.unusedVariables false
/-- A packer's memory, whatever its parts are: the bytes that are kept, from which place on, and how many are in no block. -/
def isK (w : World) (g : Nat) (out : Value) (zs : List Nat) (first opn : Nat) (O : Nat → Prop) : Prop :=
  ∃ s t mb st D, Kept w g out s t mb zs first st opn D ∧ Steps zs st ∧ st.length = zs.length - 2 ∧ O = blocksK g s t mb
theorem Kept.cells {w : World} {g : Nat} {out s t : Value} {mb : Nat} {zs : List Nat} {first : Nat} {st : List Nat} {opn : Nat} {D : Book} (h : Kept w g out s t mb zs first st opn D) :
    w.cell? ⟨g, 0, none⟩ = some out ∧ w.cell? ⟨g, 1, none⟩ = some s ∧ w.cell? ⟨g, 2, none⟩ = some (.int .i64 (first : Int)) ∧ w.cell? ⟨g, 3, none⟩ = some t ∧ w.cell? ⟨g, 4, none⟩ = some (.map (some mb)) ∧ w.cell? ⟨g, 5, none⟩ = some (.int .i64 (opn : Int)) ∧ w.cell? ⟨g, 6, none⟩ = some (.bool false) :=
  ⟨cell_of_block h.blk 0, cell_of_block h.blk 1, cell_of_block h.blk 2, cell_of_block h.blk 3, cell_of_block h.blk 4, cell_of_block h.blk 5, cell_of_block h.blk 6⟩
theorem u32_wf (T : Nat) (hT : T < 4294967296) : (Lit.int .u32 (T : Int)).wf = true := by
  simp [Lit.wf, IntKind.min, IntKind.max, IntKind.bits, IntKind.signed]
  omega
theorem i64_wf (n : Int) (h : -9223372036854775808 ≤ n ∧ n < 9223372036854775808) : (Lit.int .i64 n).wf = true := by
  simp [Lit.wf, IntKind.min, IntKind.max, IntKind.bits, IntKind.signed]
  omega
theorem ownsMap_drewN {w : World} {P : Program} {k : TypeId} {R : Value → Option (Book × List MemPlace)} {b n : Nat} {D : Book} (h : w.ownsMap P k R b n D) (m : Nat) : (w.drewN m).ownsMap P k R b n D := h
set_option maxRecDepth 100000 in
theorem i32_type : Tryd.prog.underlying 51 = some (.slice (Tryd.prog.elem 51)) := Tryd.underlying51
set_option maxRecDepth 100000 in
theorem bytes_type' : Tryd.prog.underlying 22 = some (.slice (Tryd.prog.elem 22)) := Tryd.underlying22
set_option maxHeartbeats 4000000 in
set_option maxRecDepth 100000 in
theorem add_code (g : Nat) (out bv : Value) (zs xs : List Nat) (first opn : Nat) (W : World) (O : Nat → Prop) (hk : isK W g out zs first opn O) (hb : bytesIn W bv xs) (h8 : ∀ x ∈ zs ++ xs, x < 256) (hbO : ∀ b, inBlock bv b → ¬ O b) (hl : (zs ++ xs).length ≤ 65536) (hf : first ≤ 1099511627776) :
    Calls Tryd.prog 24 #[.pointer (some ⟨g, 1, none⟩), bv] W fun e w' => e = .returned (.tuple #[]) ∧ ∃ O', isK w' g out (zs ++ xs) first opn O' ∧ (∀ b, O' b → O b ∨ W.heap.size ≤ b) ∧ Past O W w' := by
  obtain ⟨s, t, mb, st, D, hkept, hsteps, hst, rfl⟩ := hk
  have HK := Lib.hid hkept
  have HST := Lib.hid hsteps
  have HSL := Lib.hid hst
  have HB := Lib.hid hb
  have H8 := Lib.hid h8
  obtain ⟨q0, q1, q2, q3, q4, q5, q6⟩ := hkept.cells
  have hll : zs.length + xs.length ≤ 65536 := by rw [← List.length_append]; exact hl
  have HL := Lib.hid hl
  have f1 := unfrozen_of_block hkept.blk 1
  have hglt := hkept.glt
  obtain ⟨so, sc, rfl⟩ := row_any hkept.own1
  obtain ⟨bo, bc, rfl⟩ := listed_length hb
  clear hkept hsteps hst hb h8 hl hbO q0 q2 q3 q4 q5 q6
  obtain ⟨n1, en1⟩ : ∃ n, zs.length = n := ⟨_, rfl⟩
  obtain ⟨m1, em1⟩ : ∃ n, xs.length = n := ⟨_, rfl⟩
  have HO1 := Lib.hid HK.out.own1
  have EN1 := Lib.hid en1
  have EM1 := Lib.hid em1
  rw [en1] at HK HO1 q1 hll ⊢
  rw [em1] at HB hll ⊢
  obtain ⟨Z, eZ⟩ : ∃ Z, zs ++ xs = Z := ⟨_, rfl⟩
  have EZ := Lib.hid eZ
  rw [eZ] at H8 HL ⊢
  clear en1 em1 eZ
  go_enter Tryd.func24, Tryd.ntmps24
  go_wp2_with (at_builtin; refine wpList_append_to (c := byteVal) rfl _ _ 22 rfl 5 (.int .u8 0) 1 Tryd.underlying22 infoU8 rfl (fun _ => rfl) (.slice so n1 sc) n1 zs rfl HO1.out (.slice bo m1 bc) xs rfl HB.out (by rw [EM1.out]; unfold maxLen; omega) (by rw [EM1.out]; omega) ?_)
  intro s' w1 hown hgrow hwhere
  obtain ⟨s1o, s1c, es'⟩ := row_any hown
  obtain ⟨k1, k2, k3⟩ := HK.out.add (by rw [HSL.out]; omega) s' xs (by rw [List.map_append, EN1.out]; exact hown) hgrow hwhere
  have hb1 := (hgrow.block g hglt (fun e => HK.out.ne1 e.symm)).trans HK.out.blk
  have c1 := cell_of_block hb1 1
  have f2 := unfrozen_of_block hb1 1
  have K1 := Lib.hid k1
  have K2 := Lib.hid k2
  have K3 := Lib.hid k3
  clear q1 f1 hown hgrow hwhere hb1 k1 k2 k3
  rw [EM1.out] at es'
  rw [es']
  go_upto_region 1 with fail
  rw [← es']
  clear es'
  obtain ⟨x, ex⟩ : ∃ x, x = w1.setCell ⟨g, 1, none⟩ s' := ⟨_, rfl⟩
  rw [← ex] at K1 K2 ⊢
  clear c1 f2 ex
  obtain ⟨q0, q1, q2, q3, q4, q5, q6⟩ := K1.out.cells
  have hlt := fun w => listed_len (u := 3) (P := Tryd.prog) (t := 51) i32_type (own_listed K1.out.own2) w
  have hZ : Z.length ≤ 65536 := HL.out
  have HS0 : Hid (Steps Z st) := by rw [← EZ.out]; exact HST.out.more xs
  have HSZ : Hid (st.length ≤ Z.length - 2) := by
    show _ ≤ _
    rw [← EZ.out, List.length_append, HSL.out]
    omega
  rw [EZ.out] at K1
  obtain ⟨n0, en0⟩ : ∃ n, st.length = n := ⟨_, rfl⟩
  rw [en0] at hlt
  have EN0 := Lib.hid en0
  clear en0 q0 q1 q2 q4 q5 q6
  go_wp2_with fail
  clear q3 hlt
  obtain ⟨O0, eO0⟩ : ∃ O0, O0 = blocksK g (.slice so n1 sc) t mb := ⟨_, rfl⟩
  have EO0 := Lib.hid eO0
  rw [← eO0] at K2 K3
  clear eO0
  go_loopw [4] (fun s4 wr => ∃ (t' : Value) (st' : List Nat) (D' : Book), s4 = .int .i64 (st'.length : Int) ∧ Hid (Kept wr g out s' t' mb Z first st' opn D') ∧ Hid (Steps Z st') ∧ st'.length ≤ Z.length - 2 ∧ Hid (∀ k, blocksK g s' t' mb k → O0 k ∨ W.heap.size ≤ k) ∧ Hid (Past O0 W wr)) (fun s4 _ => Z.length - (intOf s4).toNat)
  case atStart => exact ⟨t, st, D, by rw [EN0.out], K1, HS0, HSZ.out, K3, K2⟩
  case round =>
    obtain ⟨t', st', D', rfl, hK, hS, hle, hO, hP⟩ := hrel
    obtain ⟨q0, q1, q2, q3, q4, q5, q6⟩ := hK.out.cells
    have hlen := fun w => listed_len (u := 3) (P := Tryd.prog) (t := 22) bytes_type' (own_listed hK.out.own1) w
    obtain ⟨i, ei⟩ : ∃ i, st'.length = i := ⟨_, rfl⟩
    obtain ⟨len, el⟩ : ∃ i, Z.length = i := ⟨_, rfl⟩
    rw [ei] at hle ⊢
    rw [el] at hle hlen hZ ⊢
    have EI := Lib.hid ei
    have EL := Lib.hid el
    clear ei el
    by_cases hlt : i + 3 ≤ len
    · have d1 : decide ((i : Int) + 3 ≤ (len : Int)) = true := decide_eq_true (by omega)
      have K3c := fun (w : World) h1 h2 => three_code g s' Z i w h1 h2 H8.out (by rw [EL.out]; exact hlt) (by rw [EL.out]; omega)
      have hsum : (first : Int) + (i : Int) = ((first + i : Nat) : Int) := by omega
      obtain ⟨F, eF⟩ : ∃ F, first + i = F := ⟨_, rfl⟩
      rw [eF] at hsum
      have hF : F ≤ 1099511627776 + 65536 := by omega
      have wF : IntKind.i64.wrap (F : Int) = (F : Int) := by rw [IntKind.wrap_i64]; omega
      have EF := Lib.hid eF
      obtain ⟨T, eT⟩ : ∃ T, three Z i = T := ⟨_, rfl⟩
      rw [eT] at K3c
      have ET := Lib.hid eT
      have hT : T < 16777216 := by rw [← eT]; exact three_lt Z H8.out i
      have KT := fun n => K3c (wr.drewN n) q1 (own_listed hK.out.own1)
      clear K3c eT eF
      go_wp2_with fail
      go_quiet ((go_at_call 38; exact Calls.quiet_of (KT _)))
      have HMAP := Lib.hid hK.out.map
      have HLAST := Lib.hid (hK.out.last T hT)
      obtain ⟨hb, ehb⟩ : ∃ b, Maps.has D' (.int .u32 (T : Int)) = b := ⟨_, rfl⟩
      obtain ⟨p, hpb, hp⟩ : ∃ p : Nat, stepOf Z i = p ∧ (∀ c : Int, D'.atKey (.int .u32 (T : Int)) (.lit (.int .i64 0)) = .lit (.int .i64 c) → (hb = true → (F : Int) - c = (p : Int)) ∧ (hb = false → p = 0)) := by
        refine ⟨_, rfl, fun c hc => ?_⟩
        unfold stepOf
        rw [ET.out]
        have h1 := HLAST.out
        rw [EI.out] at h1
        cases hq : lastOf Z T i with
        | none =>
          rw [hq] at h1
          simp only at h1 ⊢
          rw [h1] at ehb
          exact ⟨(fun h => by rw [← ehb] at h; cases h), fun _ => by first | rfl | trivial⟩
        | some q =>
          rw [hq] at h1
          simp only at h1 ⊢
          obtain ⟨h2, h3⟩ := h1
          rw [h2] at ehb
          rw [h3] at hc
          simp only [DataW.lit.injEq, Lit.int.injEq, true_and] at hc
          have := (lastOf_some hq).1
          refine ⟨fun _ => by rw [← hc, ← EF.out]; omega, (fun h => by rw [← ehb] at h; cases h)⟩
      have hps : p ≤ 65536 := by
        rw [← hpb]
        unfold stepOf
        split <;> omega
      have EHB := Lib.hid ehb
      have HP1 := Lib.hid hpb
      have HP2 := Lib.hid hp
      have hbk := ehb
      clear ehb hpb hp
      have HTW := Lib.hid (u32_wf T (by omega))
      have HFW := Lib.hid (i64_wf (F : Int) (by omega))
      obtain ⟨to', tc', et'⟩ := row_shape hK.out.own2
      rw [EI.out] at et'
      subst et'
      have hglt2 := hK.out.glt
      have HOWN2 : Hid (∀ (n : Nat) (o : Obj), ((wr.drewN n).alloc o).ownsRow 0 21 1 (.slice to' i tc') i (st'.map stepVal)) := fun n o => by
        have h := hK.out.own2
        rw [EI.out] at h
        exact World.ownsRow.alloc (w := wr.drewN n) h o
      have HSN : Hid (Steps Z (st' ++ [p])) := by
        have := hS.out.snoc (by rw [EI.out, EL.out]; exact hlt) (by rw [EL.out]; exact hZ)
        rw [EI.out, HP1.out] at this
        exact this
      have HLP : Hid (Lasts Z first (st'.length + 1) (D'.put (.int .u32 (T : Int)) (.lit (.int .i64 (F : Int))))) := by
        have := hK.out.last.put hK.out.map.isMap
        rw [EI.out, ET.out, EF.out] at this
        show Lasts _ _ _ _
        rw [EI.out]
        exact this
      cases hb with
      | false =>
        go_upto_region 9 with (at_lookup; refine wpList_lookup_own_ok_int _ rfl _ _ 52 rfl 44 3 .i64 keyLaw Tryd.underlying52 Tryd.underlying3 (zeroInt _) mb (first + st'.length) D' rfl (ownsMap_drewN HMAP.out _) _ _ rfl (keyOf_int_mk Tryd.underlying44 HTW.out) ?_; intro c hat hwc; have hp0 := Lib.hid ((HP2.out c hat).2 (by first | rfl | trivial)); clear hat hwc)
        go_wp2_with (at_builtin; refine wpList_append_to (c := stepVal) rfl _ _ 51 rfl 21 (.int .i32 0) 4 Tryd.underlying51 info32 rfl (fun _ => rfl) (.slice to' i tc') i st' rfl (HOWN2.out _ _) (.slice (some ⟨wr.heap.size, 0, none⟩) 1 1) [p] rfl (listed_one (wr.drewN _) p (.int .i32 0) _ (by rw [hp0.out]; rfl)) (by unfold maxLen; simp; omega) (by simp; omega) ?_)
        intro t2 w2 hown2 hgrow2 hwhere2
        obtain ⟨t2o, t2c, rfl⟩ := row_shape hown2
        obtain ⟨j1, j2, j3⟩ := hK.out.stepped ((below_drewN (Below.refl _ _) _).alloc (Nat.le_refl _) _) (.slice t2o (i + 1) t2c) p (by rw [EI.out]; simpa using hown2) hgrow2 (fun k hk => (hwhere2 k hk).elim .inl (fun h => .inr (by show (wr.heap.push _).size ≤ k; rw [Array.size_push]; exact h)))
        have hb2 := (hgrow2.block g (by show g < (wr.drewN _ |>.alloc _).heap.size; have := hglt2; show g < (wr.heap.push _).size; simp; omega) (fun e => hK.out.ne2 e.symm)).trans (((below_drewN (Below.refl wr.heap.size wr) _).alloc (Nat.le_refl _) (.cells #[.int .i32 0] 21)).block g hglt2 |>.trans hK.out.blk)
        have J3 := Lib.hid j3
        have J2 := Lib.hid j2
        have d3 := cell_of_block hb2 3
        have d4 := cell_of_block hb2 4
        have f3 := unfrozen_of_block hb2 3
        clear q0 q1 q2 q3 q4 q5 q6 hown2 hgrow2 hwhere2 hb2 j1 j2 j3
        go_wp2_with (at_mapUpdate; refine wpList_mapUpdate_own _ rfl _ _ _ 52 rfl 44 3 keyLaw Tryd.underlying52 _ mb (first + st'.length) D' rfl J2.out (by unfold maxLen; rw [EI.out]; omega) _ _ _ rfl rfl (keyOf_int_mk Tryd.underlying44 HTW.out) _ [] (plainElem_int Tryd.underlying3 HFW.out) ?_)
        intro w3 hown3 hgrow3
        obtain ⟨l1, l2, l3⟩ := J3.out w3 _ hgrow3 hown3 HLP.out
        go_wp2_with fail
        go_roundw
        case rel => exact ⟨_, st' ++ [p], _, by rw [List.length_append, EI.out]; simp, l1, HSN.out, by rw [List.length_append, EI.out]; simp; omega, fun k hk => (l3 k hk).elim (fun h => hO.out k h) (fun h => .inr (by have := hP.out.size; omega)), hP.out.trans l2 hO.out⟩
        case measure => simp [intOf]; omega
      | true =>
        go_upto_region 9 with (at_lookup; refine wpList_lookup_own_ok_int _ rfl _ _ 52 rfl 44 3 .i64 keyLaw Tryd.underlying52 Tryd.underlying3 (zeroInt _) mb (first + st'.length) D' rfl (ownsMap_drewN HMAP.out _) _ _ rfl (keyOf_int_mk Tryd.underlying44 HTW.out) ?_; intro c hat hwc; have hp0 := (HP2.out c hat).1 (by first | rfl | trivial); clear hat hwc)
        clear hp0
        go_wp2_with (at_builtin; refine wpList_append_to (c := stepVal) rfl _ _ 51 rfl 21 (.int .i32 0) 4 Tryd.underlying51 info32 rfl (fun _ => rfl) (.slice to' i tc') i st' rfl (HOWN2.out _ _) (.slice (some ⟨wr.heap.size, 0, none⟩) 1 1) [p] rfl (listed_one (wr.drewN _) p (.int .i32 (p : Int)) _ rfl) (by unfold maxLen; simp; omega) (by simp; omega) ?_)
        intro t2 w2 hown2 hgrow2 hwhere2
        obtain ⟨t2o, t2c, rfl⟩ := row_shape hown2
        obtain ⟨j1, j2, j3⟩ := hK.out.stepped ((below_drewN (Below.refl _ _) _).alloc (Nat.le_refl _) _) (.slice t2o (i + 1) t2c) p (by rw [EI.out]; simpa using hown2) hgrow2 (fun k hk => (hwhere2 k hk).elim .inl (fun h => .inr (by show (wr.heap.push _).size ≤ k; rw [Array.size_push]; exact h)))
        have hb2 := (hgrow2.block g (by show g < (wr.drewN _ |>.alloc _).heap.size; have := hglt2; show g < (wr.heap.push _).size; simp; omega) (fun e => hK.out.ne2 e.symm)).trans (((below_drewN (Below.refl wr.heap.size wr) _).alloc (Nat.le_refl _) (.cells #[.int .i32 (p : Int)] 21)).block g hglt2 |>.trans hK.out.blk)
        have J3 := Lib.hid j3
        have J2 := Lib.hid j2
        have d3 := cell_of_block hb2 3
        have d4 := cell_of_block hb2 4
        have f3 := unfrozen_of_block hb2 3
        clear q0 q1 q2 q3 q4 q5 q6 hown2 hgrow2 hwhere2 hb2 j1 j2 j3
        go_wp2_with (at_mapUpdate; refine wpList_mapUpdate_own _ rfl _ _ _ 52 rfl 44 3 keyLaw Tryd.underlying52 _ mb (first + st'.length) D' rfl J2.out (by unfold maxLen; rw [EI.out]; omega) _ _ _ rfl rfl (keyOf_int_mk Tryd.underlying44 HTW.out) _ [] (plainElem_int Tryd.underlying3 HFW.out) ?_)
        intro w3 hown3 hgrow3
        obtain ⟨l1, l2, l3⟩ := J3.out w3 _ hgrow3 hown3 HLP.out
        go_wp2_with fail
        go_roundw
        case rel => exact ⟨_, st' ++ [p], _, by rw [List.length_append, EI.out]; simp, l1, HSN.out, by rw [List.length_append, EI.out]; simp; omega, fun k hk => (l3 k hk).elim (fun h => hO.out k h) (fun h => .inr (by have := hP.out.size; omega)), hP.out.trans l2 hO.out⟩
        case measure => simp [intOf]; omega
    · have d1 : decide ((i : Int) + 3 ≤ (len : Int)) = false := decide_eq_false (by omega)
      go_wp2_with fail
      refine bodyPost_end (v := .tuple #[]) (by simp [results, Tryd.results24, go_sem]) rfl ⟨rfl, _, ⟨s', t', mb, st', D', hK.out, hS.out, by rw [EI.out, EL.out]; omega, rfl⟩, ?_, ?_⟩
      · rw [← EO0.out]
        exact hO.out
      · rw [← EO0.out]
        exact hP.out
end Go.Proofs.YtbhmjppnhlmefaaDoor.Fx
