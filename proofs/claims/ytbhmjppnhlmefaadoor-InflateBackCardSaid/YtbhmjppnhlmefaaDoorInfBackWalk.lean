/-
  The walk of InflateBack. The conditions are that the lists read as bytes, and that the order lies as the text lays it.
-/
import Derived.Test.YtbhmjppnhlmefaaDoorInfZ
import Derived.Test.YtbhmjppnhlmefaaDoorInfR
import Derived.Test.YtbhmjppnhlmefaaDoorInfCutWalk
import Derived.Test.YtbhmjppnhlmefaaDoorWinP
namespace Go.Proofs.YtbhmjppnhlmefaaDoor.Fx
open Go Go.RowKit Go.Joins
set_option linter.unusedVariables false
theorem keep_past {w w' : World} {u : Value} {xs : List Nat} {O : Nat → Prop} (h : bytesIn w u xs) (hn : ∀ b, inBlock u b → ¬ O b) (k : Past O w w') : bytesIn w' u xs :=
  listed_kept h k.size (fun b hb => k.block b (inBlock_lt h hb) (hn b hb))
theorem write_on {W w : World} {v : Value} {all : List Nat} {O : Nat → Prop} (hd : isDW w v all O) (hO : ∀ k, O k → W.heap.size ≤ k) (hB : Below W.heap.size W w) (bv : Value) (zs : List Nat) (hb : bytesIn w bv zs) (h8 : ∀ x ∈ all ++ zs, x < 256) (hbW : ∀ b, inBlock bv b → b < W.heap.size) (hl : (all ++ zs).length ≤ 100000000) :
    Calls Tryd.prog 10 #[v, bv] w fun e w' => ∃ u xs O', e = .returned (.tuple #[u, .int .i64 0]) ∧ Hid (toldOf all ++ xs = toldOf (all ++ zs)) ∧ Hid (bytesIn w' u xs) ∧ Hid (∀ b, inBlock u b → ¬ O' b) ∧ Hid (isDW w' v (all ++ zs) O') ∧ Hid (∀ k, O' k → W.heap.size ≤ k) ∧ Hid (∀ k, O' k → O k ∨ w.heap.size ≤ k) ∧ Hid (Past O w w') ∧ Hid (Below W.heap.size W w') := by
  refine (write_code w v bv all zs O hd hb h8 (fun b hb ho => by have := hbW b hb; have := hO b ho; omega) hl).mono ?_
  rintro e w' ⟨u, O', rfl, j1, j2, j3, j4, j5⟩
  exact ⟨u, _, O', rfl, told_more all zs, j1, fun b hb => (j2 b hb).2, j3, fun k hk => (j4 k hk).elim (hO k) (fun h => Nat.le_trans hB.size h), j4, j5, hB.trans (j5.below hO hB.size)⟩
theorem end_on {W w : World} {v : Value} {all : List Nat} {O : Nat → Prop} (hd : isDW w v all O) (hO : ∀ k, O k → W.heap.size ≤ k) (hB : Below W.heap.size W w) (h8 : ∀ x ∈ all, x < 256) (hl : all.length ≤ 100000000) :
    Calls Tryd.prog 11 #[v] w fun e w' => ∃ u xs, e = .returned (.tuple #[u, .int .i64 0]) ∧ Hid (toldOf all ++ xs = wholeOf all) ∧ Hid (bytesIn w' u xs) ∧ Hid (Past O w w') ∧ Hid (Below W.heap.size W w') := by
  refine (end_code w v all O hd h8 hl).mono ?_
  rintro e w' ⟨u, O', rfl, j1, j2, j3, j4, j5⟩
  exact ⟨u, _, rfl, told_end all, j1, j5, hB.trans (j5.below hO hB.size)⟩
set_option maxHeartbeats 2000000 in
set_option maxRecDepth 100000 in
theorem back_main (W : World) (bv : Value) (zs : List Nat) (hv : Value) (hs : List Nat) (cut : Int) (hb : bytesIn W bv zs) (h8 : ∀ x ∈ zs, x < 256) (hh : bytesIn W hv hs) (hh8 : ∀ x ∈ hs, x < 256) (hc0 : -9223372036854775808 ≤ cut) (hc1 : cut ≤ 9223372036854775807) (hlen : zs.length ≤ 20000) (hlh : hs.length ≤ 100) (hl : LaidOrder W) :
    Calls Tryd.prog 3 #[bv, hv, .int .i64 cut] W fun e w' => e = .returned (.bool true) ∧ Below W.heap.size W w' := by
  obtain ⟨bo, bc, ebv⟩ := listed_length hb
  obtain ⟨ho, hc, ehv⟩ := listed_length hh
  subst ebv ehv
  obtain ⟨N, eN⟩ : ∃ n, zs.length = n := ⟨_, rfl⟩
  obtain ⟨M, eM⟩ : ∃ n, hs.length = n := ⟨_, rfl⟩
  have HN := Lib.hid eN
  have HM := Lib.hid eM
  have HB := Lib.hid hb
  have HH := Lib.hid hh
  have HBW : Hid (∀ b, inBlock (.slice bo zs.length bc) b → b < W.heap.size) := fun b hb2 => inBlock_lt hb hb2
  have H8 := Lib.hid h8
  have HH8 := Lib.hid hh8
  have HL := Lib.hid hl
  rw [eN] at HB HBW hlen ⊢
  rw [eM] at HH hlh ⊢
  have d1 : decide ((20000 : Int) < (N : Int)) = false := decide_eq_false (by omega)
  have d2 : decide ((100 : Int) < (M : Int)) = false := decide_eq_false (by omega)
  have hw1 : IntKind.i64.wrap ((N : Int) + 1) = (N : Int) + 1 := by rw [IntKind.wrap_i64]; omega
  have KP := fun w => pick_any cut ((N : Int) + 1) ⟨hc0, hc1⟩ (by omega) (by omega) w
  clear hb h8 hh hh8 eN eM hl
  go_enter Tryd.func3, Tryd.ntmps3
  go_wp2_with fail
  go_at_call 8
  refine (new_code W).mono ?_
  rintro e w1 ⟨v, O1, rfl, k1, k2, k3⟩
  obtain ⟨va, hva⟩ : ∃ a, v = .pointer a := by
    obtain ⟨h, g, ov, OP, rfl, _⟩ := k1
    exact ⟨_, rfl⟩
  subst hva
  have HD1 := Lib.hid k1
  have HO1 := Lib.hid k2
  have HB1 := Lib.hid k3
  clear k1 k2 k3
  go_wp2_with fail
  go_at_call 9
  refine (KP _).mono ?_
  rintro e w2 ⟨⟨q, rfl, hq⟩, rfl⟩
  have hqN : q ≤ N := by have := hq (by omega); omega
  clear hq KP hc0 hc1 hw1
  obtain ⟨ut, hst, hut, hub⟩ := listed_take bytes_type bytes_one HB.out q (by rw [HN.out]; exact hqN)
  obtain ⟨ud, hsd, hud, hudb⟩ := listed_drop bytes_type bytes_one HB.out q (by rw [HN.out]; exact hqN)
  have HUT := Lib.hid hut
  have HUD := Lib.hid hud
  have HUTW : Hid (∀ b, inBlock ut b → b < W.heap.size) := fun b hb => HBW.out b (hub b hb)
  have HUDW : Hid (∀ b, inBlock ud b → b < W.heap.size) := fun b hb => HBW.out b (hudb b hb)
  have HTD : Hid ([] ++ zs.take q ++ zs.drop q = zs) := by rw [List.nil_append]; exact List.take_append_drop q zs
  clear hut hud hub hudb
  go_wp2_with fail
  go_at_call 10
  refine (write_on HD1.out HO1.out HB1.out ut (zs.take q) (listed_on HUT.out HB1.out) (fun x hx => H8.out x (List.mem_of_mem_take hx)) HUTW.out (by rw [List.nil_append, List.length_take, HN.out]; omega)).mono ?_
  rintro e w2 ⟨x, xs, O2, rfl, HX1, HX2, HX3, HD2, HO2, HP2, _, HB2⟩
  clear hst
  go_wp2_with fail
  go_at_call 10
  refine (write_on HD2.out HO2.out HB2.out ud (zs.drop q) (listed_on HUD.out HB2.out) (by rw [HTD.out]; exact H8.out) HUDW.out (by rw [HTD.out, HN.out]; omega)).mono ?_
  rintro e w3 ⟨y, ys, O3, rfl, HY1, HY2, HY3, HD3, HO3, HP3', HP3, HB3⟩
  rw [HTD.out] at HY1 HD3
  have HX4 : Hid (bytesIn w3 x xs) := keep_past HX2.out HX3.out HP3.out
  have HX5 : Hid (∀ b, inBlock x b → ¬ O3 b) := fun b hb h => (HP3'.out b h).elim (HX3.out b hb) (fun h2 => by have := inBlock_lt HX2.out hb; omega)
  clear hsd
  go_wp2_with fail
  go_at_call 11
  refine (end_on HD3.out HO3.out HB3.out H8.out (by rw [HN.out]; omega)).mono ?_
  rintro e w4 ⟨z, cs, rfl, HZ1, HZ2, HP4, HB4⟩
  have HX6 : Hid (bytesIn w4 x xs) := keep_past HX4.out HX5.out HP4.out
  have HY4 : Hid (bytesIn w4 y ys) := keep_past HY2.out HY3.out HP4.out
  have HALL : Hid (xs ++ ys ++ cs = wholeOf zs) := by
    have h1 := HX1.out
    have h0 : toldOf [] = [] := rfl
    rw [h0, List.nil_append, List.nil_append] at h1
    have h2 := HY1.out
    rw [List.nil_append] at h2
    show _ = _
    rw [h1, h2, HZ1.out]
  obtain ⟨K, eK⟩ : ∃ k, (wholeOf zs).length = k := ⟨_, rfl⟩
  have HK := Lib.hid eK
  have hK : 0 < K ∧ K ≤ 1000000 := by
    have h := whole_length zs
    rw [eK, HN.out] at h
    omega
  have HKL : Hid (xs.length + ys.length + cs.length = K) := by
    show _ = _
    rw [← eK, ← HALL.out, List.length_append, List.length_append]
  have HW8 : Hid (∀ b ∈ wholeOf zs, b < 256) := fun b hb => bytesAt_bytes _ _ _ b hb
  clear eK HX1 HX2 HX3 HX4 HX5 HY1 HY2 HY3 HZ1 HD1 HD2 HD3 HO1 HO2 HO3 HP2 HP3 HP3' HP4 HB1 HB2 HB3
  go_wp2_with fail
  go_at_call 12
  refine (copy_code x xs w4 HX6.out (by have := HKL.out; omega)).mono ?_
  rintro e w5 ⟨u, rfl, hu, hb5⟩
  have HU := Lib.hid hu
  have HB5 := Lib.hid hb5
  clear hu hb5
  go_wp2_with (at_builtin; refine wpList_append_listed (c := byteVal) rfl _ _ 22 rfl w4.heap.size 5 (.int .u8 0) Tryd.underlying22 infoByte rfl (fun _ => rfl) u xs.length xs rfl HU.out y ys rfl (listed_on HY4.out HB5.out) (by have := HKL.out; omega) HB5.out.size ?_)
  intro u6 w6 hown6 hgrow6
  have HU6 : Hid (w6.ownsRow w4.heap.size 5 1 u6 (xs.length + ys.length) ((xs ++ ys).map byteVal)) := by
    show World.ownsRow _ _ _ _ _ _ _
    rw [List.map_append]
    exact hown6
  have HB6 : Hid (Below w4.heap.size w4 w6) := HB5.out.grown hgrow6 HB5.out.size (fun q hq => (HU.out.lt q hq).1)
  clear hown6 hgrow6
  go_wp2_with (at_builtin; refine wpList_append_listed (c := byteVal) rfl _ _ 22 rfl w4.heap.size 5 (.int .u8 0) Tryd.underlying22 infoByte rfl (fun _ => rfl) u6 (xs.length + ys.length) (xs ++ ys) rfl HU6.out z cs rfl (listed_on HZ2.out HB6.out) (by have := HKL.out; omega) HB6.out.size ?_)
  intro av w7 hown7 hgrow7
  have hb7 : Below w4.heap.size w4 w7 := HB6.out.grown hgrow7 HB6.out.size (fun q hq => (HU6.out.lt q hq).1)
  have hav : bytesIn w7 av (wholeOf zs) := by
    rw [← List.map_append, ← List.map_append, ← List.append_assoc, HALL.out] at hown7
    exact own_listed hown7
  obtain ⟨ao, ac, eav⟩ := listed_length hav
  rw [HK.out] at eav
  subst eav
  have HAV := Lib.hid hav
  have HB7 : Hid (Below W.heap.size W w7) := HB4.out.trans (hb7.mono HB4.out.size)
  clear hown7 hgrow7 hb7 hav HX6 HY4 HZ2 HU HU6 HB5 HB6
  go_wp2_with fail
  go_at_call 12
  refine (copy_code _ (wholeOf zs) w7 HAV.out (by rw [HK.out]; omega)).mono ?_
  rintro e w8 ⟨u8, rfl, hu8, hb8⟩
  have HU8 := Lib.hid hu8
  have HB8 := Lib.hid hb8
  clear hu8 hb8
  have HH8w : Hid (bytesIn w8 (.slice ho M hc) hs) := listed_on HH.out (HB7.out.trans (HB8.out.mono HB7.out.size))
  go_wp2_with (at_builtin; refine wpList_append_listed (c := byteVal) rfl _ _ 22 rfl w7.heap.size 5 (.int .u8 0) Tryd.underlying22 infoByte rfl (fun _ => rfl) u8 (wholeOf zs).length (wholeOf zs) rfl HU8.out (.slice ho M hc) hs rfl HH8w.out (by rw [HK.out, HM.out]; omega) HB8.out.size ?_)
  intro u9 w9 hown9 hgrow9
  have hb9 : Below w7.heap.size w7 w9 := HB8.out.grown hgrow9 HB8.out.size (fun q hq => (HU8.out.lt q hq).1)
  have HU9 : Hid (bytesIn w9 u9 (wholeOf zs ++ hs)) := by
    rw [← List.map_append] at hown9
    exact own_listed (c := byteVal) hown9
  have HB9 : Hid (Below W.heap.size W w9) := HB7.out.trans (hb9.mono HB7.out.size)
  have HAV9 : Hid (bytesIn w9 (.slice ao K ac) (wholeOf zs)) := listed_on HAV.out hb9
  clear hown9 hgrow9 hb9
  go_wp2_with fail
  go_at_call 13
  refine (infl_any w9 u9 (wholeOf zs ++ hs) N HU9.out (fun x hx => by
      rcases List.mem_append.1 hx with h | h
      · exact HW8.out x h
      · exact HH8.out x h) (by rw [List.length_append, HK.out, HM.out]; omega) (HL.out.below HB9.out) (by omega)).mono ?_
  rintro e w10 h10
  obtain ⟨out, rfl, hout, hb10⟩ := told_row (back_says zs hs N H8.out (by rw [HN.out]; exact Nat.le_refl _)) h10
  simp only at hout ⊢
  rw [(back_length zs).1, HK.out]
  have HOUT := Lib.hid hout
  have HB10 : Hid (Below W.heap.size W w10) := HB9.out.trans (hb10.mono HB9.out.size)
  have HAV10 : Hid (bytesIn w10 (.slice ao K ac) (wholeOf zs)) := listed_on HAV9.out hb10
  have HBV10 : Hid (bytesIn w10 (.slice bo N bc) zs) := listed_on HB.out HB10.out
  have z1 : ((K : Int) == 0) = false := by simp; omega
  have z2 : decide ((K : Int) = 0) = false := decide_eq_false (by omega)
  have z3 : decide (K = 0) = false := decide_eq_false (by omega)
  have hwK : IntKind.i64.wrap ((K : Int) - 1) = ((K - 1 : Nat) : Int) := by rw [IntKind.wrap_i64]; omega
  clear h10 hout hb10
  go_wp2_with fail
  go_at_call 14
  refine (same_yes out _ zs w10 HOUT.out HBV10.out).mono ?_
  rintro e w11 ⟨rfl, rfl⟩
  obtain ⟨K1, eK1⟩ : ∃ k, K - 1 = k := ⟨_, rfl⟩
  rw [eK1] at hwK
  obtain ⟨uk, hsk, huk, _⟩ := listed_take bytes_type bytes_one HAV10.out K1 (by rw [HK.out]; omega)
  have HUK := Lib.hid huk
  have HCUT : Hid (Says blocksW (bitsOfBytes ((wholeOf zs).take K1)) N ⟨0, []⟩ (.err 12)) := cut_bytes (back_all zs N H8.out (by rw [HN.out]; exact Nat.le_refl _)) K1 (by
    simp only
    rw [(back_length zs).1, HK.out]
    omega)
  have HALLS : Hid (Says blocksW (bitsOfBytes (wholeOf zs)) N ⟨0, []⟩ (.ok () ⟨(lastBits zs).length, zs⟩)) := back_all zs N H8.out (by rw [HN.out]; exact Nat.le_refl _)
  have fin : ∀ w, Below w10.heap.size w10 w → Calls Tryd.prog 13 #[uk, .int .i64 (N : Int)] w fun e w' => e = .returned (.tuple #[.slice none 0 0, .int .i64 0, .int .i64 12]) ∧ Below w.heap.size w w' := by
    intro w hw
    refine (infl_any w uk ((wholeOf zs).take K1) N (listed_on HUK.out hw) (fun x hx => HW8.out x (List.mem_of_mem_take hx)) (by rw [List.length_take, HK.out]; omega) (HL.out.below (HB10.out.trans (hw.mono HB10.out.size))) (by omega)).mono ?_
    rintro e w' h
    exact told_err HCUT.out h
  have FIN := Lib.hid fin
  clear huk fin eK1
  by_cases hN0 : 0 < N
  · have d3 : decide ((0 : Int) < (N : Int)) = true := decide_eq_true (by omega)
    have d3' : decide (0 < N) = true := decide_eq_true (by omega)
    obtain ⟨N1, eN1⟩ : ∃ k, N - 1 = k := ⟨_, rfl⟩
    have hwN1 : IntKind.i64.wrap ((N : Int) - 1) = (N1 : Int) := by rw [IntKind.wrap_i64]; omega
    have HN1 := Lib.hid eN1
    clear eN1
    go_wp2_with fail
    go_at_call 13
    with_reducible refine (infl_any w10 _ (wholeOf zs) N1 HAV10.out HW8.out (by rw [HK.out]; omega) (HL.out.below HB10.out) (by have := HN1.out; omega)).mono ?_
    rintro e w12 h12
    obtain ⟨rfl, hb12⟩ := told_err (less_bytes HALLS.out (by have := HN1.out; omega) (by have := HN1.out; have := HN.out; simp only; omega)) h12
    have HB12 := Lib.hid hb12
    clear h12 hb12
    go_wp2_with fail
    go_at_call 13
    refine (FIN.out w12 HB12.out).mono ?_
    rintro e w13 ⟨rfl, hb13⟩
    have HB13 : Hid (Below W.heap.size W w13) := HB10.out.trans ((HB12.out.trans (hb13.mono HB12.out.size)).mono HB10.out.size)
    clear hb13
    go_wp2_with fail
    go_at_call 7
    refine (awakeInf_any w13 (HL.out.below HB13.out)).mono ?_
    rintro e w14 ⟨rfl, hb14⟩
    have HB14 : Hid (Below W.heap.size W w14) := HB13.out.trans (hb14.mono HB13.out.size)
    clear hb14
    go_wp2_with fail
    go_ret
    exact ⟨rfl, HB14.out⟩
  · have d3 : decide ((0 : Int) < (N : Int)) = false := decide_eq_false (by omega)
    have d3' : decide (0 < N) = false := decide_eq_false (by omega)
    go_wp2_with fail
    go_at_call 13
    refine (FIN.out w10 (Below.refl _ _)).mono ?_
    rintro e w13 ⟨rfl, hb13⟩
    have HB13 : Hid (Below W.heap.size W w13) := HB10.out.trans (hb13.mono HB10.out.size)
    clear hb13
    go_wp2_with fail
    go_at_call 7
    refine (awakeInf_any w13 (HL.out.below HB13.out)).mono ?_
    rintro e w14 ⟨rfl, hb14⟩
    have HB14 : Hid (Below W.heap.size W w14) := HB13.out.trans (hb14.mono HB13.out.size)
    clear hb14
    go_wp2_with fail
    go_ret
    exact ⟨rfl, HB14.out⟩
theorem back_law (W : World) (hl : LaidOrder W) (bv : Value) (zs : List Nat) (hv : Value) (hs : List Nat) (cut : Int) (hb : bytesIn W bv zs) (h8 : ∀ x ∈ zs, x < 256) (hh : bytesIn W hv hs) (hh8 : ∀ x ∈ hs, x < 256) (hc0 : -9223372036854775808 ≤ cut) (hc1 : cut ≤ 9223372036854775807) :
    Calls Tryd.prog 3 #[bv, hv, .int .i64 cut] W fun e w' => e = .returned (.bool true) ∧ Below W.heap.size W w' := by
  by_cases hlen : zs.length ≤ 20000
  · by_cases hlh : hs.length ≤ 100
    · exact back_main W bv zs hv hs cut hb h8 hh hh8 hc0 hc1 hlen hlh hl
    · obtain ⟨bo, bc, ebv⟩ := listed_length hb
      obtain ⟨ho, hc, ehv⟩ := listed_length hh
      subst ebv ehv
      have d1 : decide ((20000 : Int) < (zs.length : Int)) = false := decide_eq_false (by omega)
      have d2 : decide ((100 : Int) < (hs.length : Int)) = true := decide_eq_true (by omega)
      clear hb h8 hh hh8 hlen hlh
      generalize zs.length = N at *
      generalize hs.length = M at *
      go_enter Tryd.func3, Tryd.ntmps3
      go_wp2_with fail
      go_at_call 7
      refine (awakeInf_any W hl).mono ?_
      rintro e w9 ⟨rfl, hb9⟩
      go_wp2_with fail
      go_ret
      exact ⟨rfl, hb9⟩
  · obtain ⟨bo, bc, ebv⟩ := listed_length hb
    obtain ⟨ho, hc, ehv⟩ := listed_length hh
    subst ebv ehv
    have hd0 : decide ((20000 : Int) < (zs.length : Int)) = true := decide_eq_true (by omega)
    clear hb h8 hh hh8 hlen
    generalize zs.length = N at *
    generalize hs.length = M at *
    go_enter Tryd.func3, Tryd.ntmps3
    go_wp2_with fail
    go_at_call 7
    refine (awakeInf_any W hl).mono ?_
    rintro e w9 ⟨rfl, hb9⟩
    go_wp2_with fail
    go_ret
    exact ⟨rfl, hb9⟩
end Go.Proofs.YtbhmjppnhlmefaaDoor.Fx
