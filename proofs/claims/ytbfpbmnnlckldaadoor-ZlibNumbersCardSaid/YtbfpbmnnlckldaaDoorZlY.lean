/-
  Whole streams of a list; what is told of bytes as they lie; the chapter's examples, as each statement asks them (awake). The conditions stand in each.
-/
import Derived.Test.YtbfpbmnnlckldaaDoorZlZ
import Derived.Test.YtbfpbmnnlckldaaDoorInfZ
namespace Go.Proofs.YtbfpbmnnlckldaaDoor.Fx
open Go Go.RowKit Go.Joins
set_option linter.unusedVariables false
set_option maxHeartbeats 2000000 in
set_option maxRecDepth 100000 in
/-- stream: a list's stream. -/
theorem zstream_code (W : World) (bv : Value) (zs : List Nat) (hb : bytesIn W bv zs) (h8 : ∀ x ∈ zs, x < 256) (hl : zs.length ≤ 1000000) :
    Calls Tryd.prog 21 #[bv] W fun e w' => ∃ o n c, e = .returned (.tuple #[.slice o n c, .bool true]) ∧ Hid ((streamOf zs).length = n) ∧ Hid (w'.ownsRow W.heap.size 5 1 (.slice o n c) n ((streamOf zs).map byteVal)) ∧ Hid (Below W.heap.size W w') := by
  obtain ⟨bo, bc, ebv⟩ := listed_length hb
  subst ebv
  have HBW : Hid (∀ b, inBlock (.slice bo zs.length bc) b → b < W.heap.size) := fun b hb2 => inBlock_lt hb hb2
  obtain ⟨N, eN⟩ : ∃ N, zs.length = N := ⟨_, rfl⟩
  have HN := Lib.hid eN
  have HB := Lib.hid hb
  have H8 := Lib.hid h8
  have HL := Lib.hid hl
  rw [eN] at HB HBW ⊢
  clear hb h8 hl eN
  go_enter Tryd.func21, Tryd.ntmps21
  go_wp2_with fail
  go_at_call 9
  refine (znew_code W).mono ?_
  rintro e w1 ⟨va, O1, rfl, k1, k2, k3⟩
  have HD1 := Lib.hid k1
  have HO1 := Lib.hid k2
  have HB1 := Lib.hid k3
  clear k1 k2 k3
  go_wp2_with fail
  go_at_call 10
  refine (zwrite_on HD1.out (fun _ => rfl) HO1.out HB1.out (.slice bo N bc) zs (listed_on HB.out HB1.out) (by rw [List.nil_append]; exact H8.out) (fun b hb ho => by have := HBW.out b hb; have := HO1.out b ho; omega) (by rw [List.nil_append]; have := HL.out; omega)).mono ?_
  rintro e w3 ⟨u, us, O3, rfl, HU1, HU2, HU3, HD3, HO3, _, _, HB3, HU4⟩
  rw [List.nil_append] at HD3 HU1
  obtain ⟨uo, uc, eu⟩ := listed_length HU2.out
  subst eu
  obtain ⟨M, eM⟩ : ∃ M, us.length = M := ⟨_, rfl⟩
  have HM := Lib.hid eM
  rw [eM] at HU2 HU3 ⊢
  have HUM : Hid (M ≤ 200000002) := by have := HU4.out.2.2; show _ ≤ _; omega
  clear eM HU4
  go_wp2_with fail
  go_at_call 11
  refine (zend_on HD3.out (fun h => by cases h) HO3.out HB3.out H8.out (by have := HL.out; omega)).mono ?_
  rintro e w4 ⟨y, ys, O4, rfl, HY1, HY2, HY3, _, _, HP4, HB4⟩
  have HU5 : Hid (bytesIn w4 (.slice uo M uc) us) := keep_over HU2.out HU3.out HP4.out
  have HALL : Hid (us ++ ys = streamOf zs) := by
    show _ = _
    have h1 : [] ++ us = ztOf zs true := HU1.out
    rw [List.nil_append] at h1
    rw [h1, HY1.out]
  obtain ⟨yo, yc, ey⟩ := listed_length HY2.out
  subst ey
  obtain ⟨K, eK⟩ : ∃ K, ys.length = K := ⟨_, rfl⟩
  have HK := Lib.hid eK
  rw [eK] at HY2 ⊢
  have hKM : M + K ≤ 200000000 := by
    have := streamOf_most zs
    have h2 := congrArg List.length HALL.out
    rw [List.length_append, HM.out, eK] at h2
    have := HL.out
    omega
  clear HU1 HU2 HU3 HY1 HY3 eK
  go_wp2_with fail
  go_at_call 19
  refine (copy_code _ us w4 HU5.out (by rw [HM.out]; omega)).mono ?_
  rintro e w5 ⟨u5, rfl, hu, hb5⟩
  rw [HM.out] at hu
  have HU := Lib.hid hu
  have HB5 := Lib.hid hb5
  clear hu hb5
  go_wp2_with (at_builtin; refine wpList_append_listed (c := byteVal) rfl _ _ 24 rfl w4.heap.size 5 (.int .u8 0) Tryd.underlying24 infoU8 rfl (fun _ => rfl) u5 M us rfl HU.out (.slice yo K yc) ys rfl (listed_on HY2.out HB5.out) (by rw [HK.out]; omega) HB5.out.size ?_)
  intro u6 w6 hown6 hgrow6
  have hb6 : Below w4.heap.size w4 w6 := HB5.out.grown hgrow6 HB5.out.size (fun q hq => (HU.out.lt q hq).1)
  rw [← List.map_append, HALL.out] at hown6
  obtain ⟨o6, c6, e6⟩ := row_shape hown6
  subst e6
  have hlen : (streamOf zs).length = M + K := by rw [← HALL.out, List.length_append, HM.out, HK.out]
  have HOWN : Hid (w6.ownsRow W.heap.size 5 1 (.slice o6 (M + ys.length) c6) (M + ys.length) ((streamOf zs).map byteVal)) := ownsRow_le hown6 HB4.out.size
  have HB6 : Hid (Below W.heap.size W w6) := HB4.out.trans (hb6.mono HB4.out.size)
  have HLEN : Hid ((streamOf zs).length = M + ys.length) := by
    show _ = _
    rw [hlen, HK.out]
  clear hown6 hgrow6 hb6 hlen
  generalize M + ys.length = P at *
  go_wp2_with fail
  refine bodyPost_ret (v := .tuple #[.slice o6 P c6, .bool true]) (by simp [results, Tryd.results21, asAddr, go_sem]) rfl ?_
  exact ⟨_, _, _, rfl, HLEN, HOWN, HB6⟩
set_option maxHeartbeats 1600000 in
set_option maxRecDepth 100000 in
theorem zbad_code (W : World) (b : Value) (zs : List Nat) (k : Nat) (hs : OpenSays zs 9 (.fault k)) (hr : bytesIn W b zs) (h8 : ∀ x ∈ zs, x < 256) (hz : zs.length ≤ 1000) (hl : LaidOrder W) (hk : 1 ≤ k) (hk2 : k ≤ 12) :
    Calls Tryd.prog 13 #[.int .i64 (k : Int), b] W fun e w' => e = .returned (.bool true) ∧ Hid (Below W.heap.size W w') := by
  have KO := opens_fault W b zs 9 k hs hr h8 (by omega) hl (by omega)
  have f1 : ((k : Int) == 0) = false := by simp; omega
  have f2 : decide ((k : Int) = 0) = false := decide_eq_false (by omega)
  have f3 : decide (k = 0) = false := decide_eq_false (by omega)
  clear hs hr h8 hz hl
  go_enter Tryd.func13, Tryd.ntmps13
  go_wp2_with fail
  go_at_call 20
  refine KO.mono ?_
  rintro e w1 ⟨rfl, HB⟩
  go_wp2_with fail
  go_ret
  exact ⟨by first | rfl | simp, HB⟩
set_option maxHeartbeats 1600000 in
set_option maxRecDepth 100000 in
theorem zgood_code (W : World) (b : Value) (zs out : List Nat) (hs : OpenSays zs 9 (.bytes out)) (hr : bytesIn W b zs) (h8 : ∀ x ∈ zs, x < 256) (hz : zs.length ≤ 1000) (hl : LaidOrder W) :
    Calls Tryd.prog 13 #[.int .i64 0, b] W fun e w' => e = .returned (.bool true) ∧ Hid (Below W.heap.size W w') := by
  have KO := opens_bytes W b zs out 9 hs hr h8 (by omega) hl (by omega)
  clear hs hr h8 hz hl
  go_enter Tryd.func13, Tryd.ntmps13
  go_wp2_with fail
  go_at_call 20
  refine KO.mono ?_
  rintro e w1 ⟨v, rfl, HV, HB⟩
  obtain ⟨vo, vc, ev⟩ := listed_length HV.out
  subst ev
  go_wp2_with fail
  go_ret
  exact ⟨by first | rfl | simp, HB⟩
theorem zbad_new (W w X : World) (zs : List Nat) (vals : Array Value) (n k : Nat) (hs : OpenSays zs 9 (.fault k)) (c3 : vals.toList = zs.map byteVal) (c4 : zs.length = n) (c8 : ∀ x ∈ zs, x < 256) (c5 : zs.length ≤ 1000) (hk : 1 ≤ k) (hk2 : k ≤ 12) (hl : LaidOrder W) (hX : X = w.alloc (.cells vals 5) ∨ X = (w.alloc (.cells vals 5)).drew) (hb : Below W.heap.size W w) :
    Calls Tryd.prog 13 #[.int .i64 (k : Int), .slice (some ⟨w.heap.size, 0, none⟩) n n] X fun e w' => e = .returned (.bool true) ∧ Hid (Below W.heap.size W w') := by
  have h1 := row_new hX c3 c4
  refine (zbad_code X _ zs k hs h1.1 c8 c5 (hl.below (hb.trans (h1.2.mono hb.size))) hk hk2).mono ?_
  rintro e w' ⟨rfl, h⟩
  exact ⟨rfl, hb.trans ((h1.2.trans (h.out.mono h1.2.size)).mono hb.size)⟩
theorem zgood_new (W w X : World) (zs out : List Nat) (vals : Array Value) (n : Nat) (hs : OpenSays zs 9 (.bytes out)) (c3 : vals.toList = zs.map byteVal) (c4 : zs.length = n) (c8 : ∀ x ∈ zs, x < 256) (c5 : zs.length ≤ 1000) (hl : LaidOrder W) (hX : X = w.alloc (.cells vals 5) ∨ X = (w.alloc (.cells vals 5)).drew) (hb : Below W.heap.size W w) :
    Calls Tryd.prog 13 #[.int .i64 0, .slice (some ⟨w.heap.size, 0, none⟩) n n] X fun e w' => e = .returned (.bool true) ∧ Hid (Below W.heap.size W w') := by
  have h1 := row_new hX c3 c4
  refine (zgood_code X _ zs out hs h1.1 c8 c5 (hl.below (hb.trans (h1.2.mono hb.size)))).mono ?_
  rintro e w' ⟨rfl, h⟩
  exact ⟨rfl, hb.trans ((h1.2.trans (h.out.mono h1.2.size)).mono hb.size)⟩
theorem same_new (W w X : World) (u : Value) (zs : List Nat) (vals : Array Value) (n : Nat) (hu : bytesIn w u zs) (c3 : vals.toList = zs.map byteVal) (c4 : zs.length = n) (hX : X = w.alloc (.cells vals 5) ∨ X = (w.alloc (.cells vals 5)).drew) (hb : Below W.heap.size W w) :
    Calls Tryd.prog 12 #[u, .slice (some ⟨w.heap.size, 0, none⟩) n n] X fun e w' => e = .returned (.bool true) ∧ Hid (Below W.heap.size W w') := by
  have h1 := row_new hX c3 c4
  refine (same_yes u _ zs X (listed_on hu h1.2) h1.1).mono ?_
  rintro e w' ⟨rfl, rfl⟩
  exact ⟨rfl, hb.trans (h1.2.mono hb.size)⟩
theorem exz_none : streamOf [] = [120, 1, 3, 0, 0, 0, 0, 1] := by
  unfold streamOf
  rw [ex_none, sumOf_nil]
  rfl
theorem sum_one : sumOf [97] = 6422626 := by decide +kernel
theorem exz_one : streamOf [97] = [120, 1, 75, 4, 0, 0, 98, 0, 98] := by
  unfold streamOf
  rw [ex_one, sum_one]
  rfl
theorem exz_sum : OpenSays [120, 1, 3, 0, 0, 0, 0, 2] 9 (.fault 11) := by
  have h := open_wrong [] [0, 0, 0, 2] 9 (fun z hz => by cases hz) (by decide) rfl (by rw [sumOf_nil]; decide)
  rwa [ex_none] at h
theorem exz_cut (q : Nat) (hq : q < 8) : OpenSays (([120, 1, 3, 0, 0, 0, 0, 1] : List Nat).take q) 9 (.fault 12) := by
  have h := open_cut [] 9 q (fun z hz => by cases hz) (by decide) (by rw [exz_none]; exact hq)
  rwa [exz_none] at h
theorem exz_head (x y : Nat) : OpenSays [x, y, 3, 0, 0, 0, 0, 1] 9 (if headOk x y then .bytes [] else .fault 10) := by
  have h := open_head x y [] [0, 0, 0, 1] 9 (fun z hz => by cases hz) (by decide)
  rw [ex_none, sumOf_nil] at h
  have e : sumSays [0, 0, 0, 1] 1 [] = .bytes [] := sum_right 1 []
  rwa [e] at h
set_option maxHeartbeats 4000000 in
set_option maxRecDepth 100000 in
theorem zawake_any (W : World) (hl : LaidOrder W) : Calls Tryd.prog 15 #[] W fun e w' => e = .returned (.bool true) ∧ Hid (Below W.heap.size W w') := by
  have HL := Lib.hid hl
  clear hl
  go_enter Tryd.func15, Tryd.ntmps15
  go_wp2_with fail
  go_at_call 9
  refine (znew_code W).mono ?_
  rintro e w1 ⟨va, O1, rfl, k1, k2, k3⟩
  have KE := zend_on k1 (fun _ => rfl) k2 k3 (fun x hx => by cases hx) (by decide)
  clear k1 k2 k3
  go_wp2_with fail
  go_at_call 11
  refine KE.mono ?_
  clear KE
  rintro e w2 ⟨u, us, O2, rfl, HU1, HU2, _, _, _, _, HB2⟩
  have HU : Hid (bytesIn w2 u [120, 1, 3, 0, 0, 0, 0, 1]) := by
    have h1 : [] ++ us = streamOf [] := HU1.out
    rw [List.nil_append, exz_none] at h1
    rw [← h1]
    exact HU2
  clear HU1 HU2
  obtain ⟨uo, uc, eu⟩ := listed_length HU.out
  simp only [List.length_cons, List.length_nil] at eu
  subst eu
  go_wp2_with fail
  go_at_call 12
  refine (same_new W w2 _ _ [120, 1, 3, 0, 0, 0, 0, 1] #[.int .u8 120, .int .u8 1, .int .u8 3, .int .u8 0, .int .u8 0, .int .u8 0, .int .u8 0, .int .u8 1] 8 HU.out (by rfl) rfl (by first | exact .inl rfl | exact .inr rfl) HB2.out).mono ?_
  rintro e w3 ⟨rfl, HB3⟩
  go_wp2_with fail
  go_at_call 14
  refine (zwhole_code _ [97] w3 (by rfl) (by decide)).mono ?_
  rintro e w4 ⟨o4, n4, c4, rfl, HV4, HB4'⟩
  rw [exz_one] at HV4
  have HB4 : Hid (Below W.heap.size W w4) := HB3.out.trans (HB4'.out.mono HB3.out.size)
  clear HB4'
  go_wp2_with fail
  go_at_call 12
  refine (same_new W w4 _ _ [120, 1, 75, 4, 0, 0, 98, 0, 98] #[.int .u8 120, .int .u8 1, .int .u8 75, .int .u8 4, .int .u8 0, .int .u8 0, .int .u8 98, .int .u8 0, .int .u8 98] 9 HV4.out (by rfl) rfl (by first | exact .inl rfl | exact .inr rfl) HB4.out).mono ?_
  rintro e w5 ⟨rfl, HB5⟩
  go_wp2_with fail
  go_at_call 14
  refine (zwhole_code _ [97] w5 (by rfl) (by decide)).mono ?_
  rintro e w6 ⟨o6, n6, c6, rfl, HV6, HB6'⟩
  have HB6 : Hid (Below W.heap.size W w6) := HB5.out.trans (HB6'.out.mono HB5.out.size)
  clear HB6'
  go_wp2_with fail
  go_at_call 13
  refine (zgood_code w6 _ _ [97] (open_back [97] 9 (by decide) (by decide)) HV6.out (streamOf_bytes _) (by rw [exz_one]; decide) (HL.out.below HB6.out)).mono ?_
  rintro e w7 ⟨rfl, HB7'⟩
  have HB7 : Hid (Below W.heap.size W w7) := HB6.out.trans (HB7'.out.mono HB6.out.size)
  clear HB7'
  go_wp2_with fail
  go_at_call 13
  refine (zbad_new W w7 _ [120, 1, 3, 0, 0, 0, 0, 2] #[.int .u8 120, .int .u8 1, .int .u8 3, .int .u8 0, .int .u8 0, .int .u8 0, .int .u8 0, .int .u8 2] 8 11 exz_sum (by rfl) rfl (by decide) (by decide) (by decide) (by decide) HL.out (by first | exact .inl rfl | exact .inr rfl) HB7.out).mono ?_
  rintro e w8 ⟨rfl, HB8⟩
  go_wp2_with fail
  go_at_call 13
  refine (zbad_new W w8 _ [120] #[.int .u8 120] 1 12 (exz_cut 1 (by decide)) (by rfl) rfl (by decide) (by decide) (by decide) (by decide) HL.out (by first | exact .inl rfl | exact .inr rfl) HB8.out).mono ?_
  rintro e w9 ⟨rfl, HB9⟩
  go_wp2_with fail
  go_at_call 13
  refine (zbad_new W w9 _ [121, 1, 3, 0, 0, 0, 0, 1] #[.int .u8 121, .int .u8 1, .int .u8 3, .int .u8 0, .int .u8 0, .int .u8 0, .int .u8 0, .int .u8 1] 8 10 (exz_head 121 1) (by rfl) rfl (by decide) (by decide) (by decide) (by decide) HL.out (by first | exact .inl rfl | exact .inr rfl) HB9.out).mono ?_
  rintro e w10 ⟨rfl, HB10⟩
  go_wp2_with fail
  go_ret
  exact ⟨rfl, HB10⟩
theorem own_unfrozen {w : World} {base n g cap : Nat} {e : TypeId} {xs : List Value} (h : w.ownsRow base e 1 (.slice (some ⟨g, 0, none⟩) n cap) n xs) (j : Nat) : w.frozen? ⟨g, j, none⟩ = false := by
  rcases h.2 with ⟨h, _⟩ | ⟨g', cap', cur, h, hb, hg, _⟩
  · simp at h
  · simp only [Value.slice.injEq, Option.some.injEq, Addr.mk.injEq] at h
    obtain ⟨⟨rfl, _⟩, _⟩ := h
    exact unfrozen_of_block hg j
end Go.Proofs.YtbfpbmnnlckldaaDoor.Fx
