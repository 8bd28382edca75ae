/-
  A writer at work; whole streams; the chapter's examples, as each statement asks them (awake). The conditions stand in each.
-/
import Derived.Test.YtbfpbmnnlckldaaDoorZlO
import Derived.Test.YtbfpbmnnlckldaaDoorDeflY
namespace Go.Proofs.YtbfpbmnnlckldaaDoor.Fx
open Go Go.RowKit Go.Joins
set_option linter.unusedVariables false
/-- What a writer has told by then. -/
def ztOf (all : List Nat) (begun : Bool) : List Nat := if begun then 120 :: 1 :: toldOf all else []
theorem told_none : toldOf [] = [] := rfl
theorem zt_more (all zs : List Nat) (begun : Bool) (h : begun = false → all = []) : ztOf all begun ++ (headOf begun ++ nextOf all zs) = ztOf (all ++ zs) true := by
  have hm : toldOf all ++ nextOf all zs = toldOf (all ++ zs) := told_more all zs
  cases begun with
  | true =>
    show 120 :: 1 :: toldOf all ++ ([] ++ nextOf all zs) = 120 :: 1 :: toldOf (all ++ zs)
    rw [← hm]
    rfl
  | false =>
    obtain rfl := h rfl
    show [] ++ ([120, 1] ++ nextOf [] zs) = 120 :: 1 :: toldOf ([] ++ zs)
    rw [← hm, told_none]
    rfl
theorem zt_end (all : List Nat) (begun : Bool) (h : begun = false → all = []) : ztOf all begun ++ (headOf begun ++ restOf all ++ fourOf (sumOf all)) = streamOf all := by
  have hm : toldOf all ++ restOf all = wholeOf all := told_end all
  unfold streamOf
  cases begun with
  | true =>
    show 120 :: 1 :: toldOf all ++ ([] ++ restOf all ++ fourOf (sumOf all)) = _
    rw [← hm, List.nil_append, List.append_assoc, List.cons_append, List.cons_append]
  | false =>
    obtain rfl := h rfl
    show [] ++ ([120, 1] ++ restOf [] ++ fourOf (sumOf [])) = _
    rw [← hm, told_none]
    rfl
theorem zwrite_on {W w : World} {v : Value} {all : List Nat} {begun : Bool} {O : Nat → Prop} (hd : isZW w v all begun O) (hbg : begun = false → all = []) (hO : ∀ k, O k → W.heap.size ≤ k) (hB : Below W.heap.size W w) (bv : Value) (zs : List Nat) (hb : bytesIn w bv zs) (h8 : ∀ x ∈ all ++ zs, x < 256) (hbO : ∀ b, inBlock bv b → ¬ O b) (hl : (all ++ zs).length ≤ 100000000) :
    Calls Tryd.prog 10 #[v, bv] w fun e w' => ∃ u xs O', e = .returned (.tuple #[u, .int .i64 0]) ∧ Hid (ztOf all begun ++ xs = ztOf (all ++ zs) true) ∧ Hid (bytesIn w' u xs) ∧ Hid (∀ b, inBlock u b → ¬ O' b) ∧ Hid (isZW w' v (all ++ zs) true O') ∧ Hid (∀ k, O' k → W.heap.size ≤ k) ∧ Hid (∀ k, O' k → O k ∨ w.heap.size ≤ k) ∧ Hid (Past O w w') ∧ Hid (Below W.heap.size W w') ∧ Hid (w'.ownsRow w.heap.size 5 1 u xs.length (xs.map byteVal) ∧ (∀ k, u.ownBlock = some k → ¬ O' k) ∧ xs.length ≤ 200000002) := by
  refine (zwrite_code w v bv all zs begun O hd hb h8 hbO hl).mono ?_
  rintro e w' ⟨u, O', rfl, j1, j2, j3, j4, j5, j6, j7⟩
  exact ⟨u, _, O', rfl, zt_more all zs begun hbg, j1, fun b hb => (j2 b hb).2, j3, fun k hk => (j4 k hk).elim (hO k) (fun h => Nat.le_trans hB.size h), j4, j5, hB.trans (j5.below hO hB.size), j6, j7, by have := headOf_two begun; have := nextOf_length all zs hl; rw [List.length_append]; omega⟩
theorem zend_on {W w : World} {v : Value} {all : List Nat} {begun : Bool} {O : Nat → Prop} (hd : isZW w v all begun O) (hbg : begun = false → all = []) (hO : ∀ k, O k → W.heap.size ≤ k) (hB : Below W.heap.size W w) (h8 : ∀ x ∈ all, x < 256) (hl : all.length ≤ 100000000) :
    Calls Tryd.prog 11 #[v] w fun e w' => ∃ u xs O', e = .returned (.tuple #[u, .int .i64 0]) ∧ Hid (ztOf all begun ++ xs = streamOf all) ∧ Hid (bytesIn w' u xs) ∧ Hid (∀ b, inBlock u b → ¬ O' b) ∧ Hid (isZE w' v O') ∧ Hid (∀ k, O' k → O k) ∧ Hid (Past O w w') ∧ Hid (Below W.heap.size W w') := by
  refine (zend_code w v all begun O hd h8 hl).mono ?_
  rintro e w' ⟨u, O', rfl, j1, j2, j3, j4, j5⟩
  exact ⟨u, _, O', rfl, zt_end all begun hbg, j1, fun b hb => (j2 b hb).2, j3, j4, j5, hB.trans (j5.below hO hB.size)⟩
theorem keep_over {w w' : World} {u : Value} {xs : List Nat} {O : Nat → Prop} (h : bytesIn w u xs) (hn : ∀ b, inBlock u b → ¬ O b) (k : Past O w w') : bytesIn w' u xs :=
  listed_kept h k.size (fun b hb => k.block b (inBlock_lt h hb) (hn b hb))
set_option maxHeartbeats 2000000 in
set_option maxRecDepth 100000 in
/-- whole: a text's stream. -/
theorem zwhole_code (s : ByteArray) (zs : List Nat) (W : World) (hs : numsOf s = zs) (hl : zs.length ≤ 1000000) :
    Calls Tryd.prog 14 #[.string s] W fun e w' => ∃ o n c, e = .returned (.slice o n c) ∧ Hid (bytesIn w' (.slice o n c) (streamOf zs)) ∧ Hid (Below W.heap.size W w') := by
  have h8 := numsOf_lt s
  rw [hs] at h8
  have H8 := Lib.hid h8
  have HS := Lib.hid hs
  have HL := Lib.hid hl
  clear h8 hs hl
  go_enter Tryd.func14, Tryd.ntmps14
  go_wp2_with fail
  go_at_call 9
  refine (znew_code W).mono ?_
  rintro e w1 ⟨va, O1, rfl, k1, k2, k3⟩
  obtain ⟨x, w2, c1, hx, hf, hb⟩ := run_bytes s w1
  rw [HS.out] at hx
  have HD1 : Hid (isZW w2 (.pointer va) [] false O1) := isZW_keep k1 hb.size (fun k hk => hb.block k (isZW_lt k1 k hk))
  have HO1 := Lib.hid k2
  have HB1 : Hid (Below W.heap.size W w2) := k3.trans (hb.mono k3.size)
  have HXO : Hid (∀ b, inBlock x b → ¬ O1 b) := fun b hb' ho => by have := hf b hb'; have := isZW_lt k1 b ho; omega
  have HX := Lib.hid hx
  obtain ⟨xo, xc, ex⟩ := listed_length hx
  subst ex
  obtain ⟨N, eN⟩ : ∃ N, zs.length = N := ⟨_, rfl⟩
  have HN := Lib.hid eN
  rw [eN] at c1 HX HXO
  clear k1 k2 k3 hx hf hb eN
  go_wp2_with fail
  go_at_call 10
  refine (zwrite_on HD1.out (fun _ => rfl) HO1.out HB1.out (.slice xo N xc) zs HX.out (by rw [List.nil_append]; exact H8.out) HXO.out (by rw [List.nil_append]; have := HL.out; omega)).mono ?_
  rintro e w3 ⟨u, us, O3, rfl, HU1, HU2, HU3, HD3, HO3, _, HP3, HB3, HU4⟩
  rw [List.nil_append] at HD3 HU1
  clear c1
  obtain ⟨uo, uc, eu⟩ := listed_length HU2.out
  subst eu
  obtain ⟨M, eM⟩ : ∃ M, us.length = M := ⟨_, rfl⟩
  have HM := Lib.hid eM
  rw [eM] at HU2 HU3 HU4 ⊢
  clear eM
  go_wp2_with fail
  go_at_call 11
  refine (zend_on HD3.out (fun h => by cases h) HO3.out HB3.out H8.out (by have := HL.out; omega)).mono ?_
  rintro e w4 ⟨y, ys, O4, rfl, HY1, HY2, HY3, _, _, HP4, HB4⟩
  have HROW : Hid (w4.ownsRow w2.heap.size 5 1 (.slice uo M uc) M (us.map byteVal)) := owns_kept HU4.out.1 (fun k hk => HP4.out.block k ((HU4.out.1.lt k hk).2) (HU4.out.2.1 k hk))
  have HALL : Hid (us ++ ys = streamOf zs) := by
    show _ = _
    have h1 : [] ++ us = ztOf zs true := HU1.out
    rw [List.nil_append] at h1
    rw [h1, HY1.out]
  have hsz : w2.heap.size ≤ w4.heap.size := Nat.le_trans HP3.out.size HP4.out.size
  clear HU1 HU3 HU4 HY1
  go_wp2_with (at_builtin; refine wpList_append_listed (c := byteVal) rfl _ _ 24 rfl w2.heap.size 5 (.int .u8 0) Tryd.underlying24 infoU8 rfl (fun _ => rfl) (.slice uo M uc) M us rfl HROW.out y ys rfl HY2.out (by have := streamOf_most zs; have := HL.out; have := congrArg List.length HALL.out; rw [List.length_append, HM.out] at this; omega) hsz ?_)
  intro u5 w5 hown5 hgrow5
  have hb5 : Below w2.heap.size w4 w5 := (Below.refl _ _).grown hgrow5 hsz (fun q hq => (HROW.out.lt q hq).1)
  rw [← List.map_append, HALL.out] at hown5
  have H5 : Hid (bytesIn w5 u5 (streamOf zs)) := own_listed hown5
  obtain ⟨u5o, u5c, eu5⟩ := listed_length H5.out
  subst eu5
  have HB5 : Hid (Below W.heap.size W w5) := HB4.out.trans (hb5.mono HB1.out.size)
  clear hown5 hgrow5 hb5
  go_wp2_with fail
  go_ret
  exact ⟨_, _, _, rfl, H5, HB5⟩
end Go.Proofs.YtbfpbmnnlckldaaDoor.Fx
