/-
  The walk of DeflatePieces. The conditions are that the lists read as bytes and as numbers.
-/
import Derived.Test.YtggkmbnogdikkaaDeflRun
namespace Go.Proofs.Ytggkmbnogdikkaa.Fx
open Go Go.RowKit Go.Joins
set_option linter.unusedVariables false
theorem told_length (all : List Nat) : (toldOf all).length ≤ all.length + 5 * (all.length / 4096 + 1) := by
  unfold toldOf
  rw [bytesAt_length]
  have := outOf_len all
  omega
theorem listed_low {α : Type} {c : α → Value} {W w w' : World} {v : Value} {zs : List α} (h : listed c w v zs) (hb : ∀ b, inBlock v b → b < W.heap.size) (h1 : Below W.heap.size W w) (h2 : Below W.heap.size W w') : listed c w' v zs := by
  rcases h with h | ⟨b, off, cap, rfl, hlt, hle, hc⟩
  · exact .inl h
  · by_cases h0 : zs.length = 0
    · refine .inl ⟨⟨_, cap, by rw [h0], fun h => by cases h⟩, List.eq_nil_of_length_eq_zero h0⟩
    · have hbW := hb b ⟨off, zs.length, cap, rfl, by omega⟩
      refine .inr ⟨b, off, cap, rfl, Nat.lt_of_lt_of_le hbW h2.size, hle, fun j z hz => ?_⟩
      exact (h2.cell (p := ⟨b, off + j, none⟩) hbW).trans ((h1.cell (p := ⟨b, off + j, none⟩) hbW).symm.trans (hc j z hz))
theorem quo_blocks (N : Nat) : ((N : Int) + 4095).tdiv 4096 = (((N + 4095) / 4096 : Nat) : Int) := by
  rw [Int.tdiv_eq_ediv_of_nonneg (by omega)]
  omega
set_option maxHeartbeats 4000000 in
set_option maxRecDepth 100000 in
theorem pieces_main (W : World) (bv : Value) (zs : List Nat) (cv : Value) (cs : List Int) (hb : bytesIn W bv zs) (h8 : ∀ x ∈ zs, x < 256) (hc : numsIn W cv cs) (hcs : ∀ x ∈ cs, -9223372036854775808 ≤ x ∧ x ≤ 9223372036854775807) (hl : zs.length ≤ 20000) :
    Calls Try.prog 6 #[bv, cv] W fun e w' => e = .returned (.bool true) ∧ Below W.heap.size W w' := by
  obtain ⟨bo, bc, ebv⟩ := listed_length hb
  obtain ⟨co, cc, ecv⟩ := listed_length hc
  subst ebv ecv
  obtain ⟨N, eN⟩ : ∃ n, zs.length = n := ⟨_, rfl⟩
  obtain ⟨nc, enc⟩ : ∃ n, cs.length = n := ⟨_, rfl⟩
  have HN := Lib.hid eN
  have HNC := Lib.hid enc
  have HB := Lib.hid hb
  have HC := Lib.hid hc
  have H8 := Lib.hid h8
  have HCS := Lib.hid hcs
  have HCB : Hid (∀ k, k < nc → ∃ b off c x, co = some ⟨b, off, none⟩ ∧ b < W.heap.size ∧ W.cell? ⟨b, off + k, none⟩ = some (.int .i64 x) ∧ -9223372036854775808 ≤ x ∧ x ≤ 9223372036854775807 ∧ c = cc) := by
    intro k hk
    obtain ⟨x, ex⟩ : ∃ x, cs[k]? = some x := ⟨cs[k]'(by rw [enc]; exact hk), List.getElem?_eq_getElem _⟩
    obtain ⟨b, off, cap, eb, hblt, hcell⟩ := listed_cell hc k x ex
    simp only [Value.slice.injEq] at eb
    exact ⟨b, off, cap, x, eb.1, hblt, hcell, (hcs x (List.mem_of_getElem? ex)).1, (hcs x (List.mem_of_getElem? ex)).2, eb.2.2.symm⟩
  have HBW : Hid (∀ b, inBlock (.slice bo zs.length bc) b → b < W.heap.size) := fun b hb2 => inBlock_lt hb hb2
  rw [eN] at HB HBW hl ⊢
  rw [enc] at HC ⊢
  clear hb h8 hc hcs eN enc
  have hd0 : decide ((20000 : Int) < (N : Int)) = false := decide_eq_false (by omega)
  go_enter Try.func6, Try.ntmps6
  go_wp2_with fail
  go_at_call 14
  refine (new_code W).mono ?_
  rintro e w1 ⟨v, O1, rfl, k1, k2, k3⟩
  obtain ⟨va, hv⟩ : ∃ a, v = .pointer a := by
    obtain ⟨h, g, ov, OP, rfl, _⟩ := k1
    exact ⟨_, rfl⟩
  subst hv
  have HR0 : Hid (OutIs W (.pointer va) (.slice none 0 0) [] (toldOf []) w1) := out_start k1 k2 k3
  have HB1 : Hid (bytesIn w1 (.slice bo N bc) zs) := listed_on HB.out k3
  clear k1 k2 k3
  go_wp2_with fail
  go_loopw [6, 7, 8] (fun o r i wr => ∃ k m : Nat, k ≤ 30 ∧ m ≤ N ∧ i = .int .i64 k ∧ Hid (bytesIn wr r (zs.drop m) ∧ (∀ b, inBlock r b → b < W.heap.size)) ∧ Hid (OutIs W (.pointer va) o (zs.take m) (toldOf (zs.take m)) wr)) (fun _ _ i _ => 30 - (intOf i).toNat)
  case atStart => exact ⟨0, 0, by omega, by omega, rfl, ⟨HB1.out, HBW.out⟩, HR0.out⟩
  case round =>
    obtain ⟨k, m, hk, hm, rfl, HRS, HR⟩ := hrel
    obtain ⟨L, eL⟩ : ∃ L, (zs.drop m).length = L := ⟨_, rfl⟩
    have hLN : L + m = N := by
      rw [← eL, List.length_drop, HN.out]
      omega
    obtain ⟨ro, rc, er⟩ := listed_length HRS.out.1
    rw [eL] at er
    subst er
    have hbr : Below W.heap.size W wr := by
      obtain ⟨_, _, _, _, _, h⟩ := HR.out
      exact h
    have HBR := Lib.hid hbr
    have HEL := Lib.hid eL
    have hL0 : L ≤ 20000 := by omega
    clear eL
    by_cases hgo : k < nc ∧ k < 30
    · obtain ⟨hg1, hg2⟩ := hgo
      have d1 : decide ((k : Int) < (nc : Int)) = true := decide_eq_true (by omega)
      have d2 : decide ((k : Int) < 30) = true := decide_eq_true (by omega)
      obtain ⟨b, off, c, x, eco, hblt, hcell, hx0, hx1, _⟩ := HCB.out k hg1
      subst eco
      have hcr := (hbr.cell (p := ⟨b, off + k, none⟩) hblt).trans hcell
      have hw1 : IntKind.i64.wrap ((L : Int) + 1) = (L : Int) + 1 := by rw [IntKind.wrap_i64]; omega
      have KP := pick_any x ((L : Int) + 1) ⟨hx0, hx1⟩ (by omega) (by omega) wr
      clear hbr hcell
      go_upto_region 9 with fail
      go_wp2_with fail
      go_at_call 20
      refine KP.mono ?_
      rintro e w2 ⟨⟨q, rfl, hq⟩, rfl⟩
      have hqL : q ≤ L := by have := hq (by omega); omega
      clear hq KP hcr
      obtain ⟨ut, hst, hut, hub⟩ := listed_take bytes_type bytes_one HRS.out.1 q (by rw [HEL.out]; exact hqL)
      obtain ⟨ud, hsd, hud, hudb⟩ := listed_drop bytes_type bytes_one HRS.out.1 q (by rw [HEL.out]; exact hqL)
      have HTK : Hid (zs.take m ++ (zs.drop m).take q = zs.take (m + q) ∧ (zs.drop m).drop q = zs.drop (m + q)) := by
        refine ⟨?_, by rw [List.drop_drop]⟩
        rw [List.take_add]
      rw [HTK.out.2] at hud
      have KW := write_run HR.out ut _ hut (by rw [HTK.out.1]; exact fun x hx => H8.out x (List.mem_of_mem_take hx)) (fun b hb => HRS.out.2 b (hub b hb)) (by rw [HTK.out.1, List.length_take, HN.out]; omega)
      rw [HTK.out.1] at KW
      have HUD : Hid (bytesIn wr ud (zs.drop (m + q)) ∧ ∀ b, inBlock ud b → b < W.heap.size) := ⟨hud, fun b hb => HRS.out.2 b (hudb b hb)⟩
      clear hut hub hud hudb
      go_wp2_with fail
      go_at_call 16
      refine KW.mono ?_
      rintro e w3 ⟨u, xs, rfl, HTO, HMID⟩
      have HUD3 : Hid (bytesIn w3 ud (zs.drop (m + q)) ∧ ∀ b, inBlock ud b → b < W.heap.size) := by
        obtain ⟨_, _, _, _, _, _, _, h⟩ := HMID.out
        exact ⟨listed_low HUD.out.1 HUD.out.2 HBR.out h, HUD.out.2⟩
      have HTL : Hid ((toldOf (zs.take m)).length + xs.length ≤ 1000000) := by
        show _ ≤ _
        have h := told_length (zs.take (m + q))
        rw [← HTO.out, List.length_append, List.length_take] at h
        omega
      obtain ⟨hown, hbx⟩ : w3.ownsRow 0 5 1 u6 (toldOf (zs.take m)).length ((toldOf (zs.take m)).map byteVal) ∧ bytesIn w3 u xs := by
        obtain ⟨_, _, _, h3, _, h5, _⟩ := HMID.out
        exact ⟨h3, h5⟩
      have HOWN := Lib.hid hown
      have HBX := Lib.hid hbx
      clear hown hbx KW
      go_wp2_with (at_builtin; refine wpList_append_to (c := byteVal) rfl _ _ 25 rfl 5 (.int .u8 0) 1 Try.underlying25 infoByte rfl (fun _ => rfl) u6 _ _ rfl HOWN.out u xs rfl HBX.out (by have := HTL.out; unfold maxLen; omega) (by have := HTL.out; omega) ?_)
      intro ov' w4 j1 j2 j3
      have HR4 := out_step HMID.out (by simpa using j1) j2 j3
      rw [HTO.out] at HR4
      have HR4' := Lib.hid HR4
      have HUD4 : Hid (bytesIn w4 ud (zs.drop (m + q)) ∧ ∀ b, inBlock ud b → b < W.heap.size) := by
        obtain ⟨_, _, _, _, _, h⟩ := HR4
        obtain ⟨_, _, _, _, _, _, _, h3⟩ := HMID.out
        exact ⟨listed_low HUD3.out.1 HUD3.out.2 h3 h, HUD3.out.2⟩
      clear j1 j2 j3 HR4 hst
      go_wp2_with fail
      go_roundw
      case rel => exact ⟨k + 1, m + q, by omega, by omega, by go_num, HUD4, HR4'⟩
      case measure => simp [intOf]; omega
    · have hcs2 : ((decide ((k : Int) < (nc : Int)) = true ∧ decide (k < nc) = true) ∧ (decide ((k : Int) < 30) = false ∧ decide (k < 30) = false)) ∨ (decide ((k : Int) < (nc : Int)) = false ∧ decide (k < nc) = false) := by
        by_cases h : k < nc
        · exact .inl ⟨⟨decide_eq_true (by omega), decide_eq_true h⟩, decide_eq_false (by omega), decide_eq_false (by omega)⟩
        · exact .inr ⟨decide_eq_false (by omega), decide_eq_false h⟩
      have HTD : Hid (zs.take m ++ zs.drop m = zs) := List.take_append_drop m zs
      have KW := write_run HR.out (.slice ro L rc) (zs.drop m) HRS.out.1 (by rw [HTD.out]; exact H8.out) HRS.out.2 (by rw [HTD.out, HN.out]; omega)
      rw [HTD.out] at KW
      have HKW := Lib.hid KW
      obtain ⟨Q, eQ⟩ : ∃ Q, (N + 4095) / 4096 = Q := ⟨_, rfl⟩
      have hquo := quo_blocks N
      rw [eQ] at hquo
      have hQ : Q ≤ 6 := by omega
      obtain ⟨B, eB⟩ : ∃ B, max Q 1 = B := ⟨_, rfl⟩
      have hmax : ∀ w ts t, (Builtin.max_ ts t #[.int .i64 (Q : Int), .int .i64 1]).run Try.prog w = .ok (.int .i64 (B : Int)) w := by
        intro w ts t
        rw [run_max_int2, ← eB]
        by_cases h : (1 : Int) > (Q : Int)
        · rw [if_pos h]
          congr 2
          omega
        · rw [if_neg h]
          congr 2
          omega
      have hB : B ≤ 6 := by omega
      have HLEN : Hid ((wholeOf zs).length ≤ N + 5 * B) := by
        have h := (whole_length zs).1
        rw [HN.out, eQ, eB] at h
        exact h
      have hw2 : IntKind.i64.wrap ((N : Int) + 4095) = (N : Int) + 4095 := by rw [IntKind.wrap_i64]; omega
      have hw3 : IntKind.i64.wrap (Q : Int) = (Q : Int) := by rw [IntKind.wrap_i64]; omega
      have hw4 : IntKind.i64.wrap (5 * (B : Int)) = 5 * (B : Int) := by rw [IntKind.wrap_i64]; omega
      have hw5 : IntKind.i64.wrap ((N : Int) + 5 * (B : Int)) = (N : Int) + 5 * (B : Int) := by rw [IntKind.wrap_i64]; omega
      clear KW hbr eQ eB
      rcases hcs2 with ⟨⟨d1, d1'⟩, d2, d2'⟩ | ⟨d1, d1'⟩ <;>
      · go_wp2_with fail
        go_at_call 16
        refine HKW.out.mono ?_
        rintro e w3 ⟨x, xs, rfl, HTO, HMID⟩
        have KE := end_run HMID.out H8.out (by rw [HN.out]; omega)
        go_wp2_with fail
        go_at_call 18
        refine KE.mono ?_
        rintro e w4 ⟨y, ys, rfl, HEN, HFIN⟩
        have HTL : Hid ((toldOf (zs.take m)).length + xs.length + ys.length ≤ 1000000) := by
          show _ ≤ _
          have h := HLEN.out
          rw [← HEN.out, ← HTO.out, List.length_append, List.length_append] at h
          omega
        have HOWN := Lib.hid HFIN.out.1
        have HBX := Lib.hid HFIN.out.2.2.1
        clear KE
        go_wp2_with (at_builtin; refine wpList_append_to (c := byteVal) rfl _ _ 25 rfl 5 (.int .u8 0) 1 Try.underlying25 infoByte rfl (fun _ => rfl) u6 _ _ rfl HOWN.out x xs rfl HBX.out (by have := HTL.out; unfold maxLen; omega) (by have := HTL.out; omega) ?_)
        intro ov2 w5 j1 j2 j3
        have HFS := Lib.hid (fin_step HFIN.out (by simpa using j1) j2 j3)
        have HOWN2 := Lib.hid HFS.out.1
        clear j1 j2 j3
        go_wp2_with (at_builtin; refine wpList_append_to (c := byteVal) rfl _ _ 25 rfl 5 (.int .u8 0) 1 Try.underlying25 infoByte rfl (fun _ => rfl) ov2 _ _ rfl HOWN2.out y ys rfl HFS.out.2.2.1 (by have := HTL.out; rw [List.length_append]; unfold maxLen; omega) (by have := HTL.out; rw [List.length_append]; omega) ?_)
        intro ov3 w6 j1 j2 j3
        have hfin : w6.ownsRow 0 5 1 ov3 (wholeOf zs).length ((wholeOf zs).map byteVal) ∧ Below W.heap.size W w6 := by
          refine ⟨?_, HFS.out.2.2.2.grown j2 HFS.out.2.2.2.size HFS.out.2.1⟩
          rw [← HEN.out, ← HTO.out]
          simpa [Nat.add_assoc] using j1
        obtain ⟨oo, oc, rfl⟩ := row_shape hfin.1
        obtain ⟨n3, en3⟩ : ∃ n, (wholeOf zs).length = n := ⟨_, rfl⟩
        have hov3 := own_listed hfin.1
        rw [en3] at hov3 ⊢
        have hn3 : n3 ≤ N + 5 * B := by rw [← en3]; exact HLEN.out
        have hd3 : decide ((n3 : Int) ≤ (N : Int) + 5 * (B : Int)) = true := decide_eq_true (by omega)
        have HOV3 := Lib.hid hov3
        have HBF := Lib.hid hfin.2
        clear hfin hov3 j1 j2 j3 en3
        go_wp2_with fail
        go_at_call 10
        refine (whole_code w6 (.slice bo N bc) zs (listed_on HB.out HBF.out) H8.out (by rw [HN.out]; omega)).mono ?_
        rintro e w7 ⟨uw, rfl, huw, _, hb7⟩
        have HUW := Lib.hid huw
        have HOV7 : Hid (bytesIn w7 (.slice oo n3 oc) (wholeOf zs)) := listed_on HOV3.out hb7
        have HBF7 := Lib.hid (HBF.out.trans (hb7.mono HBF.out.size))
        clear huw hb7
        go_wp2_with fail
        go_at_call 9
        refine (same_yes _ uw (wholeOf zs) w7 HOV7.out HUW.out).mono ?_
        rintro e w8 ⟨rfl, rfl⟩
        go_wp2_with fail
        go_at_call 13
        refine (awake_any w7).mono ?_
        rintro e w9 ⟨rfl, hb9⟩
        have HBF9 := Lib.hid (HBF7.out.trans (hb9.mono HBF7.out.size))
        clear hb9
        go_wp2_with fail
        go_ret
        exact ⟨rfl, HBF9.out⟩
theorem pieces_law (W : World) (bv : Value) (zs : List Nat) (cv : Value) (cs : List Int) (hb : bytesIn W bv zs) (h8 : ∀ x ∈ zs, x < 256) (hc : numsIn W cv cs) (hcs : ∀ x ∈ cs, -9223372036854775808 ≤ x ∧ x ≤ 9223372036854775807) :
    Calls Try.prog 6 #[bv, cv] W fun e w' => e = .returned (.bool true) ∧ Below W.heap.size W w' := by
  by_cases hl : zs.length ≤ 20000
  · exact pieces_main W bv zs cv cs hb h8 hc hcs hl
  · obtain ⟨bo, bc, ebv⟩ := listed_length hb
    subst ebv
    have hd0 : decide ((20000 : Int) < (zs.length : Int)) = true := decide_eq_true (by omega)
    clear hb h8 hc hcs hl
    generalize zs.length = N at *
    go_enter Try.func6, Try.ntmps6
    go_wp2_with fail
    go_at_call 13
    refine (awake_any W).mono ?_
    rintro e w9 ⟨rfl, hb9⟩
    go_wp2_with fail
    go_ret
    exact ⟨rfl, hb9⟩
end Go.Proofs.Ytggkmbnogdikkaa.Fx
