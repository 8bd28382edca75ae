/-
  The document's own answers of layer 6: a stored block. The conditions stand in each.
-/
import Derived.StillTailTactics
import Derived.Test.YtggkmbnogdikkaaBitsG
import Derived.Test.YtggkmbnogdikkaaDeflS
namespace Go.Proofs.Ytggkmbnogdikkaa.Fx
open Go Go.RowKit Go.Joins
set_option linter.unusedVariables false
theorem someBits_false (n k : Nat) : someBits n k false = bitsOf n k := rfl
theorem someBits_true (n k : Nat) : someBits n k true = turned n k := rfl
/-- A call of the document's own by its first two blocks: the writer's, the answer's; the list is a new one. -/
structure Boxed (W w : World) (u : Value) (X : List Bool) (t : Int) : Prop where
  box : w.heap[W.heap.size]? = some (.cells #[u, .int .i64 t] 34 (0, 0))
  res : w.heap[W.heap.size + 1]? = some (.cells #[.slice none 0 0, .int .i64 0] 34 (0, 0))
  val : bools w u X
  new : ∀ q, inBlock u q → W.heap.size + 2 ≤ q
  bl : Below W.heap.size W w
  sz : W.heap.size + 2 ≤ w.heap.size
theorem Boxed.store {W w0 w : World} {u : Value} {t : Int} (hb : w0.heap[W.heap.size]? = some (.cells #[u, .int .i64 t] 34 (0, 0))) (hr : w0.heap[W.heap.size + 1]? = some (.cells #[.slice none 0 0, .int .i64 0] 34 (0, 0))) (hbl : Below W.heap.size W w0) (hsz : W.heap.size + 2 ≤ w0.heap.size)
    {u2 : Value} {X2 : List Bool} (hv : bools w u2 X2) (hn : ∀ q, inBlock u2 q → W.heap.size + 2 ≤ q) (h2 : Below w0.heap.size w0 w) : Boxed W ((w.setCell ⟨W.heap.size, 0, none⟩ u2).setCell ⟨W.heap.size, 1, none⟩ (.int .i64 t)) u2 X2 t := by
  have hk : ∀ k, k ≠ W.heap.size → ((w.setCell ⟨W.heap.size, 0, none⟩ u2).setCell ⟨W.heap.size, 1, none⟩ (.int .i64 t)).heap[k]? = w.heap[k]? := fun k hk => by
    rw [Below.heap_setCell _ _ _ k hk, Below.heap_setCell _ _ _ k hk]
  have hs : ((w.setCell ⟨W.heap.size, 0, none⟩ u2).setCell ⟨W.heap.size, 1, none⟩ (.int .i64 t)).heap.size = w.heap.size := by simp
  refine ⟨block_setCell (block_setCell ((h2.block W.heap.size (by omega)).trans hb) _) _, (hk _ (by omega)).trans ((h2.block (W.heap.size + 1) (by omega)).trans hr), listed_kept hv (Nat.le_of_eq hs.symm) (fun q hq => hk q (by have := hn q hq; omega)), hn, ((hbl.trans (h2.mono (by omega))).setCell (p := ⟨W.heap.size, 0, none⟩) (Nat.le_refl _) _).setCell (p := ⟨W.heap.size, 1, none⟩) (Nat.le_refl _) _, ?_⟩
  rw [hs]
  have := h2.size
  omega
theorem Boxed.drew {W w : World} {u : Value} {X : List Bool} {t : Int} (h : Boxed W w u X t) : Boxed W w.drew u X t := ⟨h.box, h.res, h.val, h.new, h.bl.drew, h.sz⟩
set_option maxHeartbeats 4000000 in
set_option maxRecDepth 100000 in
theorem rstored_any (vL : Value) (L : List Bool) (t : Int) (b : Value) (zs : List Nat) (last : Nat) (W : World) (hr : bools W vL L) (hz : bytesIn W b zs) (h8 : ∀ x ∈ zs, x < 256) (hl : L.length ≤ 549755813888) (hzl : zs.length ≤ 65535) (hlast : last ≤ 1) :
    Calls Try.prog 56 #[.agg #[vL, .int .i64 t], b, .int .i64 (last : Int)] W fun e w' =>
      ∃ u, e = .returned (.agg #[u, .int .i64 t]) ∧ bools w' u (storedBlock L zs last) ∧ (∀ q, inBlock u q → W.heap.size ≤ q) ∧ Below W.heap.size W w' := by
  obtain ⟨w1, e1, hs1, hB0, hB1, hbl⟩ := two_blocks W 34 vL (.int .i64 t) (.slice none 0 0) (.int .i64 0)
  have HR := Lib.hid (listed_on hr hbl)
  obtain ⟨vo, vc, rfl⟩ := listed_length hr
  have hlen := fun w => listed_len (u := 3) Try.underlying25 hz w
  have HZ := Lib.hid hz
  have H8 := Lib.hid h8
  obtain ⟨l, el⟩ : ∃ l, L.length = l := ⟨_, rfl⟩
  have EL := Lib.hid el
  rw [el] at HR hB0 e1 ⊢
  obtain ⟨n, en⟩ : ∃ n, zs.length = n := ⟨_, rfl⟩
  have EN := Lib.hid en
  rw [en] at hlen hzl
  clear hr el hz h8 en
  have q0 := cell_of_block hB0 0
  have q1 := cell_of_block hB0 1
  have f0 := unfrozen_of_block hB0 0
  have f1 := unfrozen_of_block hB0 1
  have HB0 := Lib.hid hB0
  have HB1 := Lib.hid hB1
  have HBL := Lib.hid hbl
  have hne : ¬ W.heap.size = W.heap.size + 1 := by omega
  clear hB0 hB1 hbl
  have hsub : (65535 : Int) - (n : Int) = ((65535 - n : Nat) : Int) := by omega
  have hw : IntKind.i64.wrap ((65535 - n : Nat) : Int) = ((65535 - n : Nat) : Int) := by rw [IntKind.wrap_i64]; omega
  have hM : 65535 - n ≤ 65535 := by omega
  obtain ⟨M, eM⟩ : ∃ M, 65535 - n = M := ⟨_, rfl⟩
  have EM := Lib.hid eM
  rw [eM] at hsub hw hM
  clear eM
  have hl2 : l ≤ 549755813888 := by have := EL.out; omega
  go_enter Try.func56, Try.ntmps56
  go_wp2_with fail
  rw [← e1]
  clear e1
  go_at_call 73
  refine (rbits_some (.slice vo l vc) L t last 1 false w1 HR.out (by omega) (by decide) (by decide) (by omega)).mono ?_
  rintro e w2 ⟨o2, c2, rfl, v1, v2, hb2⟩
  rw [someBits_false] at v1
  rw [EL.out] at v1 v2 ⊢
  have HX := Lib.hid (Boxed.store HB0.out HB1.out HBL.out (by omega) v1 (fun q hq => by have := v2 q hq; omega) hb2)
  have hb0 := (hb2.block W.heap.size (by omega)).trans HB0.out
  clear q0 q1 f0 f1
  have q0 := cell_of_block hb0 0
  have q1 := cell_of_block hb0 1
  have f0 := unfrozen_of_block hb0 0
  have f1 := unfrozen_of_block hb0 1
  clear hb0 v1 v2 hb2
  go_upto_region 2 with fail
  obtain ⟨x2, ex2⟩ : ∃ x, x = (w2.setCell ⟨W.heap.size, 0, none⟩ (.slice o2 (l + 1) c2)).setCell ⟨W.heap.size, 1, none⟩ (.int .i64 t) := ⟨_, rfl⟩
  rw [← ex2] at HX ⊢
  clear ex2 q0 q1 f0 f1
  have q0 := cell_of_block HX.out.box 0
  have q1 := cell_of_block HX.out.box 1
  go_wp2_with fail
  go_at_call 73
  refine (rbits_some _ _ t 0 2 false x2 HX.out.val (by rw [List.length_append, bitsOf_length, EL.out]; omega) (by decide) (by decide) (by decide)).mono ?_
  rintro e w3 ⟨o3, c3, rfl, v1, v2, hb3⟩
  rw [someBits_false] at v1
  have hh : (L ++ bitsOf last 1).length + 2 = l + 3 := by rw [List.length_append, bitsOf_length, EL.out]
  rw [hh] at v1 v2 ⊢
  clear hh
  have v2 := fun q hq => Nat.le_trans HX.out.sz (v2 q hq)
  have hb0 := (hb3.block W.heap.size (by have := HX.out.sz; omega)).trans HX.out.box
  have HX := Lib.hid (Boxed.store HX.out.box HX.out.res HX.out.bl HX.out.sz v1 v2 hb3)
  clear q0 q1
  have q0 := cell_of_block hb0 0
  have q1 := cell_of_block hb0 1
  have f0 := unfrozen_of_block hb0 0
  have f1 := unfrozen_of_block hb0 1
  clear hb0 v1 v2 hb3
  go_upto_region 3 with fail
  obtain ⟨x3, ex3⟩ : ∃ x, x = (w3.setCell ⟨W.heap.size, 0, none⟩ (.slice o3 (l + 3) c3)).setCell ⟨W.heap.size, 1, none⟩ (.int .i64 t) := ⟨_, rfl⟩
  rw [← ex3] at HX ⊢
  clear ex3 q0 q1 f0 f1
  have q0 := cell_of_block HX.out.box 0
  have q1 := cell_of_block HX.out.box 1
  go_wp2_with fail
  go_at_call 39
  refine (rwalign_any _ _ t x3 HX.out.val (by rw [List.length_append, List.length_append, bitsOf_length, bitsOf_length, EL.out]; omega)).mono ?_
  rintro e w4 ⟨u4, rfl, v1, v2, hb4⟩
  obtain ⟨o4, c4, rfl⟩ := listed_length v1
  have hh : (aligned (L ++ bitsOf last 1 ++ bitsOf 0 2)).length = (l + 3 + 7) / 8 * 8 := by rw [aligned_length, List.length_append, List.length_append, bitsOf_length, bitsOf_length, EL.out]
  have EA := Lib.hid hh
  rw [hh] at v1 v2 ⊢
  clear hh
  have v2 := fun q hq => (v2 q hq).elim (fun h => HX.out.new q (h ▸ hq)) (fun h => Nat.le_trans HX.out.sz h)
  obtain ⟨la, ela⟩ : ∃ la, (l + 3 + 7) / 8 * 8 = la := ⟨_, rfl⟩
  have hla : la ≤ 549755813888 + 10 := by omega
  rw [ela] at v1 v2 EA ⊢
  clear ela
  have hb0 := (hb4.block W.heap.size (by have := HX.out.sz; omega)).trans HX.out.box
  have HX := Lib.hid (Boxed.store HX.out.box HX.out.res HX.out.bl HX.out.sz v1 v2 hb4)
  clear q0 q1
  have q0 := cell_of_block hb0 0
  have q1 := cell_of_block hb0 1
  have f0 := unfrozen_of_block hb0 0
  have f1 := unfrozen_of_block hb0 1
  clear hb0 v1 v2 hb4
  go_upto_region 4 with fail
  obtain ⟨x4, ex4⟩ : ∃ x, x = (w4.setCell ⟨W.heap.size, 0, none⟩ (.slice o4 (la) c4)).setCell ⟨W.heap.size, 1, none⟩ (.int .i64 t) := ⟨_, rfl⟩
  rw [← ex4] at HX ⊢
  clear ex4 q0 q1 f0 f1
  have q0 := cell_of_block HX.out.box 0
  have q1 := cell_of_block HX.out.box 1
  go_wp2_with fail
  go_at_call 73
  refine (rbits_some _ _ t n 16 false x4 HX.out.val (by rw [EA.out]; omega) (by decide) (by decide) (by omega)).mono ?_
  rintro e w5 ⟨o5, c5, rfl, v1, v2, hb5⟩
  rw [someBits_false] at v1
  rw [EA.out] at v1 v2 ⊢
  have v2 := fun q hq => Nat.le_trans HX.out.sz (v2 q hq)
  have hb0 := (hb5.block W.heap.size (by have := HX.out.sz; omega)).trans HX.out.box
  have HX := Lib.hid (Boxed.store HX.out.box HX.out.res HX.out.bl HX.out.sz v1 v2 hb5)
  clear q0 q1
  have q0 := cell_of_block hb0 0
  have q1 := cell_of_block hb0 1
  have f0 := unfrozen_of_block hb0 0
  have f1 := unfrozen_of_block hb0 1
  clear hb0 v1 v2 hb5
  go_upto_region 5 with fail
  obtain ⟨x5, ex5⟩ : ∃ x, x = (w5.setCell ⟨W.heap.size, 0, none⟩ (.slice o5 (la + 16) c5)).setCell ⟨W.heap.size, 1, none⟩ (.int .i64 t) := ⟨_, rfl⟩
  rw [← ex5] at HX ⊢
  clear ex5 q0 q1 f0 f1
  have q0 := cell_of_block HX.out.box 0
  have q1 := cell_of_block HX.out.box 1
  go_wp2_with fail
  go_at_call 73
  refine (rbits_some _ _ t M 16 false x5 HX.out.val (by rw [List.length_append, bitsOf_length, EA.out]; omega) (by decide) (by decide) (by omega)).mono ?_
  rintro e w6 ⟨o6, c6, rfl, v1, v2, hb6⟩
  rw [someBits_false] at v1
  have hh : (aligned (L ++ bitsOf last 1 ++ bitsOf 0 2) ++ bitsOf n 16).length + 16 = la + 32 := by rw [List.length_append, bitsOf_length, EA.out]
  rw [hh] at v1 v2 ⊢
  clear hh
  have v2 := fun q hq => Nat.le_trans HX.out.sz (v2 q hq)
  have hb0 := (hb6.block W.heap.size (by have := HX.out.sz; omega)).trans HX.out.box
  have HX := Lib.hid (Boxed.store HX.out.box HX.out.res HX.out.bl HX.out.sz v1 v2 hb6)
  clear q0 q1
  have q0 := cell_of_block hb0 0
  have q1 := cell_of_block hb0 1
  have f0 := unfrozen_of_block hb0 0
  have f1 := unfrozen_of_block hb0 1
  clear hb0 v1 v2 hb6
  go_upto_region 6 with fail
  obtain ⟨x6, ex6⟩ : ∃ x, x = (w6.setCell ⟨W.heap.size, 0, none⟩ (.slice o6 (la + 32) c6)).setCell ⟨W.heap.size, 1, none⟩ (.int .i64 t) := ⟨_, rfl⟩
  rw [← ex6] at HX ⊢
  clear ex6 q0 q1 f0 f1
  obtain ⟨Y, eY⟩ : ∃ Y, aligned (L ++ bitsOf last 1 ++ bitsOf 0 2) ++ bitsOf n 16 ++ bitsOf M 16 = Y := ⟨_, rfl⟩
  have EY := Lib.hid eY
  have hYl : Y.length = la + 32 := by rw [← eY, List.length_append, List.length_append, bitsOf_length, bitsOf_length, EA.out]
  have EYL := Lib.hid hYl
  rw [eY] at HX
  clear eY hYl
  go_wp2_with fail
  go_loopw [7] (fun i wr => ∃ (j : Nat) (u : Value), j ≤ n ∧ i = .int .i64 j ∧ Boxed W wr u (Y ++ bitsOfBytes (zs.take j)) t) (fun i _ => n - (intOf i).toNat)
  case atStart => exact ⟨0, _, Nat.zero_le _, rfl, by rw [List.take_zero]; unfold bitsOfBytes; rw [List.flatMap_nil, List.append_nil]; exact HX.out⟩
  case round =>
    clear HX HB0 HB1 HR HBL hs1
    obtain ⟨j, u, hj, rfl, hx⟩ := hrel
    obtain ⟨uo, uc, rfl⟩ := listed_length hx.val
    have hlenX : (Y ++ bitsOfBytes (zs.take j)).length = la + 32 + 8 * j := by
      rw [List.length_append, bitsOfBytes_length, List.length_take, EYL.out, EN.out, Nat.min_eq_left hj]
    rw [hlenX] at hx
    obtain ⟨m, em⟩ : ∃ m, la + 32 + 8 * j = m := ⟨_, rfl⟩
    rw [em] at hx hlenX
    have HLX := Lib.hid hlenX
    have hm40 : m ≤ 549756338168 + 100 := by omega
    have HXL := Lib.hid hx
    have q0 := cell_of_block hx.box 0
    have q1 := cell_of_block hx.box 1
    have f2 := unfrozen_of_block hx.res 0
    have f3 := unfrozen_of_block hx.res 1
    have g2 := cell_of_block hx.res 0
    have g3 := cell_of_block hx.res 1
    clear hx hlenX em
    by_cases hjn : j < n
    · have hd : decide ((j : Int) < (n : Int)) = true := decide_eq_true (by omega)
      obtain ⟨z, ez⟩ : ∃ z, zs[j]? = some z := ⟨zs[j]'(by rw [EN.out]; exact hjn), List.getElem?_eq_getElem _⟩
      obtain ⟨b', off, cap, rfl, hlt, hcell⟩ := listed_cell HZ.out j z ez
      rw [EN.out] at hlen
      have hz256 : z < 256 := H8.out z (List.mem_of_getElem? ez)
      have hcell := (HXL.out.bl.cell (p := ⟨b', off + j, none⟩) hlt).trans hcell
      unfold byteVal at hcell
      have HT : Hid (Y ++ bitsOfBytes (zs.take (j + 1)) = Y ++ bitsOfBytes (zs.take j) ++ bitsOf z 8) := by
        show _ = _
        rw [List.take_add_one, ez, Option.toList_some, bitsOfBytes_snoc, List.append_assoc]
      rw [EN.out]
      have hwz : IntKind.i64.wrap (z : Int) = (z : Int) := by rw [IntKind.wrap_i64]; omega
      have hj0 : (0 : Int) ≤ (j : Int) := by omega
      have hjn2 : (j : Int) < (n : Int) := by omega
      clear ez
      have KB : Hid (Calls Try.prog 73 #[.agg #[.slice uo m uc, .int .i64 t], .int .i64 (z : Int), .int .i64 8, .bool false] wr.drew fun e w' =>
          ∃ o c, e = .returned (.agg #[.slice o (m + 8) c, .int .i64 t]) ∧ bools w' (.slice o (m + 8) c) (Y ++ bitsOfBytes (zs.take j) ++ bitsOf z 8) ∧ (∀ q, inBlock (.slice o (m + 8) c) q → wr.heap.size ≤ q) ∧ Below wr.drew.heap.size wr.drew w') := by
        have h := rbits_some _ _ t z 8 false wr.drew HXL.out.drew.val (by rw [HLX.out]; omega) (by decide) (by decide) (by omega)
        rwa [HLX.out] at h
      go_wp2_with fail
      refine wp_region_still_tail 6 (by kernel_rfl) (by kernel_rfl) ?_
      simp only [List.take_succ_cons, List.take_zero, List.drop_succ_cons, List.drop_zero]
      repeat still_step
      refine wpStill_nil ?_
      change wpList _ _ _ _ _ wr.drew
      go_wp2_with (go_at_call 73; refine KB.out.mono ?_; rintro e w9 ⟨o9, c9, rfl, v1, v2, hb9⟩; have hb0 := (hb9.block W.heap.size (by have := HXL.out.drew.sz; omega)).trans HXL.out.drew.box; have HX9 := Lib.hid (Boxed.store HXL.out.drew.box HXL.out.drew.res HXL.out.drew.bl HXL.out.drew.sz v1 (fun q hq => Nat.le_trans HXL.out.sz (v2 q hq)) hb9); have r0 := cell_of_block hb0 0; have r1 := cell_of_block hb0 1; have r2 := unfrozen_of_block hb0 0; have r3 := unfrozen_of_block hb0 1; clear hb0 v1 v2 hb9)
      go_roundw
      case rel => exact ⟨j + 1, _, by omega, by go_num, by rw [HT.out]; exact HX9.out⟩
      case measure => simp [intOf]; omega
    · have hd : decide ((j : Int) < (n : Int)) = false := decide_eq_false (by omega)
      obtain rfl : j = n := by omega
      have hall : zs.take j = zs := by rw [← EN.out, List.take_length]
      rw [hall] at HXL
      go_wp2_with fail
      refine bodyPost_ret (v := .agg #[.slice uo m uc, .int .i64 t]) ?_ rfl ⟨_, rfl, ?_, fun q hq => ?_, ?_⟩
      · simp [results, Try.results56, asAddr, Result.andThen, go_sem, g2, g3]
      · have hfin : storedBlock L zs last = Y ++ bitsOfBytes zs := by
          unfold storedBlock
          rw [← EY.out, ← EM.out, EN.out]
        rw [hfin]
        refine listed_kept HXL.out.val (Nat.le_of_eq (by simp)) (fun q hq => ?_)
        have hge := HXL.out.new q hq
        rw [Below.heap_setCell _ _ _ q (by show q ≠ W.heap.size + 1; omega), Below.heap_setCell _ _ _ q (by show q ≠ W.heap.size + 1; omega)]
      · have := HXL.out.new q hq
        omega
      · exact (HXL.out.bl.setCell (p := ⟨W.heap.size + 1, 0, none⟩) (Nat.le_succ _) _).setCell (p := ⟨W.heap.size + 1, 1, none⟩) (Nat.le_succ _) _
end Go.Proofs.Ytggkmbnogdikkaa.Fx
