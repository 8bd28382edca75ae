/-
  The walk of ZlibNumbers. The condition is that the order lies as the text lays it.
-/
import Derived.Test.YtbfpbmnnlckldaaDoorZlY
namespace Go.Proofs.YtbfpbmnnlckldaaDoor.Fx
open Go Go.RowKit Go.Joins
set_option linter.unusedVariables false
theorem exz_more : OpenSays [120, 1, 3, 0, 0, 0, 0, 1, 0] 9 (.fault 10) := by
  have h := open_more [] [] 0 9 (fun z hz => by cases hz) (by decide)
  rwa [exz_none] at h
theorem exz_kind : OpenSays [120, 1, 7] 9 (.fault 10) := .inr ⟨120, 1, [7], rfl, .inr ⟨head_120, .inl ⟨10, exi_kind, rfl⟩⟩⟩
theorem zfew_code (W : World) (k : Nat) (hk : k = 12) (hl : LaidOrder W) :
    Calls Tryd.prog 13 #[.int .i64 (k : Int), .slice none 0 0] W fun e w' => e = .returned (.bool true) ∧ Hid (Below W.heap.size W w') := by
  subst hk
  exact zbad_code W _ [] 12 (.inl ⟨by decide, rfl⟩) (listed_none _ _) (by decide) (by decide) hl (by decide) (by decide)
set_option maxHeartbeats 8000000 in
set_option maxRecDepth 100000 in
theorem znumbers_law (W : World) (hl : LaidOrder W) : Calls Tryd.prog 3 #[] W fun e w' => e = .returned (.bool true) ∧ Below W.heap.size W w' := by
  have HL := Lib.hid hl
  clear hl
  go_enter Tryd.func3, Tryd.ntmps3
  go_wp2_with fail
  go_at_call 9
  refine (znew_code W).mono ?_
  rintro e w1 ⟨va, O1, rfl, k1, k2, k3⟩
  have KW1 := zwrite_on k1 (fun _ => rfl) k2 k3 (.slice none 0 0) [] (listed_none _ _) (by simp) (fun b hb => absurd hb (not_nilBlock b)) (by decide)
  clear k1 k2 k3
  go_wp2_with fail
  go_at_call 10
  refine KW1.mono ?_
  clear KW1
  rintro e w2 ⟨a, aw, O2, rfl, HA1, HA2, HA3, HD2, HO2, _, _, HB2, _⟩
  have HA : Hid (aw = [120, 1]) := by
    have h1 : [] ++ aw = 120 :: 1 :: toldOf [] := HA1.out
    rwa [List.nil_append, told_none] at h1
  rw [HA.out] at HA2
  obtain ⟨ao, ac, ea⟩ := listed_length HA2.out
  simp only [List.length_cons, List.length_nil] at ea
  subst ea
  have KW2 := zwrite_on HD2.out (fun h => by cases h) HO2.out HB2.out (.slice none 0 0) [] (listed_none _ _) (by simp) (fun b hb => absurd hb (not_nilBlock b)) (by decide)
  clear HA HA1
  go_wp2_with fail
  go_at_call 10
  refine KW2.mono ?_
  clear KW2
  rintro e w3 ⟨b, bs, O3, rfl, HX1, HX2, _, HD3, HO3, HO3', HP3, HB3, _⟩
  have HA5 : Hid (bytesIn w3 (.slice ao 2 ac) [120, 1]) := keep_over HA2.out HA3.out HP3.out
  have HA6 : Hid (∀ q, inBlock (.slice ao 2 ac) q → ¬ O3 q) := fun q hq ho => (HO3'.out q ho).elim (HA3.out q hq) (fun h => by have := inBlock_lt HA2.out hq; omega)
  have HX : Hid (bs = []) := by
    have h1 : 120 :: 1 :: toldOf [] ++ bs = 120 :: 1 :: toldOf [] := HX1.out
    rw [told_none] at h1
    show bs = []
    simpa using h1
  rw [HX.out] at HX2
  obtain ⟨bo, bc, eb⟩ := listed_length HX2.out
  simp only [List.length_nil] at eb
  subst eb
  have KE := zend_on HD3.out (fun h => by cases h) HO3.out HB3.out (fun x hx => by simp at hx) (by decide)
  clear HX HX1 HX2 HA2 HA3
  go_wp2_with fail
  go_at_call 11
  refine KE.mono ?_
  clear KE
  rintro e w4 ⟨c, cs, O4, rfl, HC1, HC2, _, HE4, _, HP4, HB4⟩
  have HA7 : Hid (bytesIn w4 (.slice ao 2 ac) [120, 1]) := keep_over HA5.out HA6.out HP4.out
  have hcl : cs.length = 6 := by
    have h1 : 120 :: 1 :: toldOf [] ++ cs = streamOf [] := HC1.out
    rw [told_none, exz_none] at h1
    have h2 := congrArg List.length h1
    simp only [List.length_append, List.length_cons, List.length_nil] at h2
    omega
  obtain ⟨co, cc, ec⟩ := listed_length HC2.out
  rw [hcl] at ec
  subst ec
  clear hcl HC1 HC2 HA5 HA6
  go_wp2_with fail
  go_at_call 11
  refine (zendOver_code w4 _ _ HE4.out).mono ?_
  rintro e w5 ⟨rfl, rfl⟩
  go_wp2_with fail
  go_at_call 10
  refine (zwriteOver_code w4 _ _ _ HE4.out).mono ?_
  rintro e w5 ⟨rfl, rfl⟩
  go_wp2_with fail
  go_at_call 12
  refine (same_new W w4 _ _ [120, 1] #[.int .u8 120, .int .u8 1] 2 HA7.out (by rfl) rfl (by first | exact .inl rfl | exact .inr rfl) HB4.out).mono ?_
  rintro e w5 ⟨rfl, HB5⟩
  clear HA7 HE4 HD2 HD3 HO2 HO3 HP3 HP4
  go_wp2_with fail
  go_at_call 13
  refine (zfew_code w5 12 rfl (HL.out.below HB5.out)).mono ?_
  rintro e w6 ⟨rfl, HB6'⟩
  have HB6 : Hid (Below W.heap.size W w6) := HB5.out.trans (HB6'.out.mono HB5.out.size)
  clear HB6'
  go_wp2_with fail
  go_at_call 13
  refine (zbad_new W w6 _ [120, 1] #[.int .u8 120, .int .u8 1] 2 12 (exz_cut 2 (by decide)) (by rfl) rfl (by decide) (by decide) (by decide) (by decide) HL.out (by first | exact .inl rfl | exact .inr rfl) HB6.out).mono ?_
  rintro e w7 ⟨rfl, HB7⟩
  clear HB6
  go_wp2_with fail
  go_at_call 13
  refine (zbad_new W w7 _ [120, 1, 3, 0] #[.int .u8 120, .int .u8 1, .int .u8 3, .int .u8 0] 4 12 (exz_cut 4 (by decide)) (by rfl) rfl (by decide) (by decide) (by decide) (by decide) HL.out (by first | exact .inl rfl | exact .inr rfl) HB7.out).mono ?_
  rintro e w8 ⟨rfl, HB8⟩
  clear HB7
  go_wp2_with fail
  go_at_call 13
  refine (zbad_new W w8 _ [120, 1, 3, 0, 0, 0, 0] #[.int .u8 120, .int .u8 1, .int .u8 3, .int .u8 0, .int .u8 0, .int .u8 0, .int .u8 0] 7 12 (exz_cut 7 (by decide)) (by rfl) rfl (by decide) (by decide) (by decide) (by decide) HL.out (by first | exact .inl rfl | exact .inr rfl) HB8.out).mono ?_
  rintro e w9 ⟨rfl, HB9⟩
  clear HB8
  go_wp2_with fail
  go_at_call 13
  refine (zbad_new W w9 _ [120, 1, 3, 0, 0, 0, 0, 1, 0] #[.int .u8 120, .int .u8 1, .int .u8 3, .int .u8 0, .int .u8 0, .int .u8 0, .int .u8 0, .int .u8 1, .int .u8 0] 9 10 (exz_more) (by rfl) rfl (by decide) (by decide) (by decide) (by decide) HL.out (by first | exact .inl rfl | exact .inr rfl) HB9.out).mono ?_
  rintro e w10 ⟨rfl, HB10⟩
  clear HB9
  go_wp2_with fail
  go_at_call 13
  refine (zgood_new W w10 _ [120, 156, 3, 0, 0, 0, 0, 1] [] #[.int .u8 120, .int .u8 156, .int .u8 3, .int .u8 0, .int .u8 0, .int .u8 0, .int .u8 0, .int .u8 1] 8 (exz_head 120 156) (by rfl) rfl (by decide) (by decide) HL.out (by first | exact .inl rfl | exact .inr rfl) HB10.out).mono ?_
  rintro e w11 ⟨rfl, HB11⟩
  clear HB10
  go_wp2_with fail
  go_at_call 13
  refine (zbad_new W w11 _ [120, 2, 3, 0, 0, 0, 0, 1] #[.int .u8 120, .int .u8 2, .int .u8 3, .int .u8 0, .int .u8 0, .int .u8 0, .int .u8 0, .int .u8 1] 8 10 (exz_head 120 2) (by rfl) rfl (by decide) (by decide) (by decide) (by decide) HL.out (by first | exact .inl rfl | exact .inr rfl) HB11.out).mono ?_
  rintro e w12 ⟨rfl, HB12⟩
  clear HB11
  go_wp2_with fail
  go_at_call 13
  refine (zbad_new W w12 _ [120, 187, 3, 0, 0, 0, 0, 1] #[.int .u8 120, .int .u8 187, .int .u8 3, .int .u8 0, .int .u8 0, .int .u8 0, .int .u8 0, .int .u8 1] 8 10 (exz_head 120 187) (by rfl) rfl (by decide) (by decide) (by decide) (by decide) HL.out (by first | exact .inl rfl | exact .inr rfl) HB12.out).mono ?_
  rintro e w13 ⟨rfl, HB13⟩
  clear HB12
  go_wp2_with fail
  go_at_call 13
  refine (zgood_new W w13 _ [8, 29, 3, 0, 0, 0, 0, 1] [] #[.int .u8 8, .int .u8 29, .int .u8 3, .int .u8 0, .int .u8 0, .int .u8 0, .int .u8 0, .int .u8 1] 8 (exz_head 8 29) (by rfl) rfl (by decide) (by decide) HL.out (by first | exact .inl rfl | exact .inr rfl) HB13.out).mono ?_
  rintro e w14 ⟨rfl, HB14⟩
  clear HB13
  go_wp2_with fail
  go_at_call 13
  refine (zbad_new W w14 _ [136, 28, 3, 0, 0, 0, 0, 1] #[.int .u8 136, .int .u8 28, .int .u8 3, .int .u8 0, .int .u8 0, .int .u8 0, .int .u8 0, .int .u8 1] 8 10 (exz_head 136 28) (by rfl) rfl (by decide) (by decide) (by decide) (by decide) HL.out (by first | exact .inl rfl | exact .inr rfl) HB14.out).mono ?_
  rintro e w15 ⟨rfl, HB15⟩
  clear HB14
  go_wp2_with fail
  go_at_call 13
  refine (zbad_new W w15 _ [120, 1, 7] #[.int .u8 120, .int .u8 1, .int .u8 7] 3 10 (exz_kind) (by rfl) rfl (by decide) (by decide) (by decide) (by decide) HL.out (by first | exact .inl rfl | exact .inr rfl) HB15.out).mono ?_
  rintro e w16 ⟨rfl, HB16⟩
  clear HB15
  go_wp2_with fail
  go_at_call 14
  refine (zwhole_code _ [48, 49, 50, 51, 52, 53, 54, 55, 56, 57] w16 (by rfl) (by decide)).mono ?_
  rintro e w17 ⟨o17, n17, c17, rfl, HV17, HBa⟩
  have HB17 : Hid (Below W.heap.size W w17) := HB16.out.trans (HBa.out.mono HB16.out.size)
  clear HBa HB16
  go_wp2_with fail
  go_at_call 13
  refine (zbad_code w17 _ _ 3 (open_less [48, 49, 50, 51, 52, 53, 54, 55, 56, 57] 9 (by decide) (by decide)) HV17.out (streamOf_bytes _) (by have := (streamOf_most [48, 49, 50, 51, 52, 53, 54, 55, 56, 57]).1; simp only [List.length_cons, List.length_nil] at this; omega) (HL.out.below HB17.out) (by decide) (by decide)).mono ?_
  rintro e w18 ⟨rfl, HBa⟩
  have HB18 : Hid (Below W.heap.size W w18) := HB17.out.trans (HBa.out.mono HB17.out.size)
  clear HBa HB17 HV17
  go_wp2_with fail
  go_at_call 14
  refine (zwhole_code _ [48, 49, 50, 51, 52, 53, 54, 55, 56] w18 (by rfl) (by decide)).mono ?_
  rintro e w19 ⟨o19, n19, c19, rfl, HV19, HBa⟩
  have HB19 : Hid (Below W.heap.size W w19) := HB18.out.trans (HBa.out.mono HB18.out.size)
  clear HBa HB18
  go_wp2_with fail
  go_at_call 13
  refine (zgood_code w19 _ _ [48, 49, 50, 51, 52, 53, 54, 55, 56] (open_back [48, 49, 50, 51, 52, 53, 54, 55, 56] 9 (by decide) (by decide)) HV19.out (streamOf_bytes _) (by have := (streamOf_most [48, 49, 50, 51, 52, 53, 54, 55, 56]).1; simp only [List.length_cons, List.length_nil] at this; omega) (HL.out.below HB19.out)).mono ?_
  rintro e w20 ⟨rfl, HBa⟩
  have HB20 : Hid (Below W.heap.size W w20) := HB19.out.trans (HBa.out.mono HB19.out.size)
  clear HBa HB19 HV19
  go_wp2_with fail
  go_at_call 15
  refine (zawake_any w20 (HL.out.below HB20.out)).mono ?_
  rintro e w99 ⟨rfl, HB99⟩
  go_wp2_with fail
  go_ret
  exact ⟨rfl, HB20.out.trans (HB99.out.mono HB20.out.size)⟩
end Go.Proofs.YtbfpbmnnlckldaaDoor.Fx
