/-
  The walk of ZlibBack. The conditions are that the list reads as bytes, and that the order lies as the text lays it.
-/
import Derived.Test.YtbfpbmnnlckldaaDoorZlY
namespace Go.Proofs.YtbfpbmnnlckldaaDoor.Fx
open Go Go.RowKit Go.Joins
set_option linter.unusedVariables false
theorem whole_two (all : List Nat) : 2 ≤ (wholeOf all).length := by
  obtain ⟨_, h2⟩ := endOf_length all
  unfold wholeOf
  rw [bytesAt_length]
  have h3 : 10 ≤ (endOf all).length := by
    unfold endOf
    rw [aligned_length]
    unfold blockOf
    split
    · rw [storedBlock_length]
      omega
    · unfold fixedBlock
      have h7 : (fixedSym 256).length = 7 := by decide
      simp only [List.length_append, bitsOf_length, h7]
      omega
  omega
theorem stream_eight (zs : List Nat) {k : Nat} (h : (streamOf zs).length = k) : 8 ≤ k := by
  have h1 := streamOf_length zs
  have h2 := whole_two zs
  omega
/-- One byte of a sum that is turned. -/
theorem turn_wrong (zs : List Nat) (p t : Nat) (hp : p < 4) (ht0 : t ≠ 0) (ht : t < 256) : ∃ l, l.length = 4 ∧ l ≠ fourOf (sumOf zs) ∧ (∀ z ∈ l, z < 256) ∧ ∃ z, (streamOf zs)[(streamOf zs).length - 1 - p]? = some z ∧ z < 256 ∧ (streamOf zs).set ((streamOf zs).length - 1 - p) (z ^^^ t) = 120 :: 1 :: (wholeOf zs ++ l) := by
  have hl := streamOf_length zs
  have e : (streamOf zs).length - 1 - p = (120 :: 1 :: wholeOf zs).length + (3 - p) := by
    rw [hl]
    simp only [List.length_cons]
    omega
  have hs : streamOf zs = (120 :: 1 :: wholeOf zs) ++ fourOf (sumOf zs) := rfl
  have h4 := fourOf_length (sumOf zs)
  obtain ⟨z, hz⟩ : ∃ z, (fourOf (sumOf zs))[3 - p]? = some z := ⟨_, List.getElem?_eq_getElem (by rw [h4]; omega)⟩
  have hz8 : z < 256 := fourOf_bytes _ z (List.mem_of_getElem? hz)
  have hx : z ^^^ t < 256 := Nat.xor_lt_two_pow (n := 8) hz8 ht
  have hne : z ^^^ t ≠ z := by
    intro h
    apply ht0
    have h2 : z ^^^ (z ^^^ t) = z ^^^ z := by rw [h]
    rw [← Nat.xor_assoc, Nat.xor_self, Nat.zero_xor] at h2
    exact h2
  refine ⟨(fourOf (sumOf zs)).set (3 - p) (z ^^^ t), by rw [List.length_set, h4], fun h => ?_, fun y hy => ?_, z, ?_, hz8, ?_⟩
  · have h1 : ((fourOf (sumOf zs)).set (3 - p) (z ^^^ t))[3 - p]? = some z := by rw [h, hz]
    rw [List.getElem?_set, if_pos rfl, if_pos (by rw [h4]; omega)] at h1
    exact hne (Option.some.inj h1)
  · rcases List.mem_or_eq_of_mem_set hy with h | rfl
    · exact fourOf_bytes _ y h
    · exact hx
  · rw [e, hs, List.getElem?_append_right (by omega), Nat.add_sub_cancel_left]
    exact hz
  · rw [e]
    conv => lhs; rw [hs]
    rw [List.set_append_right _ _ (by omega), Nat.add_sub_cancel_left]
    rfl
/-- A byte of a row of the call's own is written over. -/
theorem one_set {w : World} {base g n cap j x : Nat} {zs : List Nat} (h : w.ownsRow base 5 1 (.slice (some ⟨g, 0, none⟩) n cap) n (zs.map byteVal)) :
    (w.setCell ⟨g, j, none⟩ (.int .u8 (x : Int))).ownsRow base 5 1 (.slice (some ⟨g, 0, none⟩) n cap) n ((zs.set j x).map byteVal) := by
  have h1 := World.ownsRow.stored h j (.int .u8 (x : Int))
  rw [List.map_set]
  exact h1.1
set_option maxHeartbeats 4000000 in
set_option maxRecDepth 100000 in
theorem zback_main (W : World) (bv : Value) (zs : List Nat) (cut at_ : Int) (t : Nat) (hb : bytesIn W bv zs) (h8 : ∀ z ∈ zs, z < 256) (hc0 : -9223372036854775808 ≤ cut) (hc1 : cut ≤ 9223372036854775807) (ha0 : -9223372036854775808 ≤ at_) (ha1 : at_ ≤ 9223372036854775807) (ht : t ≤ 255) (hlen : zs.length ≤ 10000) (hl : LaidOrder W) :
    Calls Tryd.prog 6 #[bv, .int .i64 cut, .int .i64 at_, .int .u8 (t : Int)] W fun e w' => e = .returned (.bool true) ∧ Below W.heap.size W w' := by
  obtain ⟨bo, bc, ebv⟩ := listed_length hb
  subst ebv
  obtain ⟨N, eN⟩ : ∃ n, zs.length = n := ⟨_, rfl⟩
  have HN := Lib.hid eN
  have HB := Lib.hid hb
  have HBW : Hid (∀ b, inBlock (.slice bo zs.length bc) b → b < W.heap.size) := fun b hb2 => inBlock_lt hb hb2
  have H8 := Lib.hid h8
  have HL := Lib.hid hl
  rw [eN] at HB HBW hlen ⊢
  have d1 : decide ((10000 : Int) < (N : Int)) = false := decide_eq_false (by omega)
  have hw1 : IntKind.i64.wrap ((N : Int) + 1) = (N : Int) + 1 := by rw [IntKind.wrap_i64]; omega
  have KP := fun w => pick_any cut ((N : Int) + 1) ⟨hc0, hc1⟩ (by omega) (by omega) w
  have KP2 : Hid (∀ w, Calls Tryd.prog 18 #[.int .i64 at_, .int .i64 4] w fun e w' => (∃ p : Nat, e = .returned (.int .i64 (p : Int)) ∧ ((1 : Int) ≤ 4 → (p : Int) < 4)) ∧ w = w') := fun w => pick_any at_ 4 ⟨ha0, ha1⟩ (by omega) (by omega) w
  have HSM := Lib.hid (streamOf_most zs)
  have HS8 := Lib.hid (streamOf_bytes zs)
  have HYES : Hid (OpenSays (streamOf zs) N (.bytes zs)) := open_back zs N h8 (by omega)
  have HCUT : Hid (∀ q, q < (streamOf zs).length → OpenSays ((streamOf zs).take q) N (.fault 12)) := fun q hq => open_cut zs N q h8 (by omega) hq
  have HMORE : Hid (OpenSays (streamOf zs ++ [t]) N (.fault 10)) := open_more zs [] t N h8 (by omega)
  have HWRONG : Hid (∀ l, l.length = 4 → l ≠ fourOf (sumOf zs) → OpenSays (120 :: 1 :: (wholeOf zs ++ l)) N (.fault 11)) := fun l h1 h2 => open_wrong zs l N h8 (by omega) h1 h2
  clear hb h8 eN hl ha0 ha1
  go_enter Tryd.func6, Tryd.ntmps6
  go_wp2_with fail
  go_at_call 9
  refine (znew_code W).mono ?_
  rintro e w1 ⟨va, O1, rfl, k1, k2, k3⟩
  have HD1 := Lib.hid k1
  have HO1 := Lib.hid k2
  have HB1 := Lib.hid k3
  clear k1 k2 k3
  go_wp2_with fail
  go_at_call 18
  refine (KP _).mono ?_
  rintro e w2 ⟨⟨q, rfl, hq⟩, rfl⟩
  have hqN : q ≤ N := by have := hq (by omega); omega
  clear hq KP hc0 hc1 hw1
  obtain ⟨ut, hst, hut, hub⟩ := listed_take bytes_type bytes_one HB.out q (by rw [HN.out]; exact hqN)
  obtain ⟨ud, hsd, hud, hudb⟩ := listed_drop bytes_type bytes_one HB.out q (by rw [HN.out]; exact hqN)
  have HUT := Lib.hid hut
  have HUD := Lib.hid hud
  have HUTW : Hid (∀ b, inBlock ut b → b < W.heap.size) := fun b hb => HBW.out b (hub b hb)
  have HUDW : Hid (∀ b, inBlock ud b → b < W.heap.size) := fun b hb => HBW.out b (hudb b hb)
  have HTD : Hid ([] ++ zs.take q ++ zs.drop q = zs) := by
    show _ = _
    rw [List.nil_append]; exact List.take_append_drop q zs
  clear hut hud hub hudb
  go_wp2_with fail
  go_at_call 10
  refine (zwrite_on HD1.out (fun _ => rfl) HO1.out HB1.out ut (zs.take q) (listed_on HUT.out HB1.out) (fun x hx => H8.out x (List.mem_of_mem_take (by rwa [List.nil_append] at hx))) (fun b hb ho => by have := HUTW.out b hb; have := HO1.out b ho; omega) (by rw [List.nil_append, List.length_take, HN.out]; omega)).mono ?_
  rintro e w2 ⟨x, xs, O2, rfl, HX1, HX2, HX3, HD2, HO2, _, _, HB2, _⟩
  clear hst
  go_wp2_with fail
  go_at_call 10
  refine (zwrite_on HD2.out (fun h => by cases h) HO2.out HB2.out ud (zs.drop q) (listed_on HUD.out HB2.out) (by rw [HTD.out]; exact H8.out) (fun b hb ho => by have := HUDW.out b hb; have := HO2.out b ho; omega) (by rw [HTD.out, HN.out]; omega)).mono ?_
  rintro e w3 ⟨y, ys, O3, rfl, HY1, HY2, HY3, HD3, HO3, HO3', HP3, HB3, _⟩
  rw [HTD.out] at HY1 HD3
  have HX4 : Hid (bytesIn w3 x xs) := keep_over HX2.out HX3.out HP3.out
  have HX5 : Hid (∀ b, inBlock x b → ¬ O3 b) := fun b hb h => (HO3'.out b h).elim (HX3.out b hb) (fun h2 => by have := inBlock_lt HX2.out hb; omega)
  clear hsd
  go_wp2_with fail
  go_at_call 11
  refine (zend_on HD3.out (fun h => by cases h) HO3.out HB3.out H8.out (by rw [HN.out]; omega)).mono ?_
  rintro e w4 ⟨z, cs, O4, rfl, HZ1, HZ2, _, _, _, HP4, HB4⟩
  have HX6 : Hid (bytesIn w4 x xs) := keep_over HX4.out HX5.out HP4.out
  have HY4 : Hid (bytesIn w4 y ys) := keep_over HY2.out HY3.out HP4.out
  have HALL : Hid (xs ++ ys ++ cs = streamOf zs) := by
    show _ = _
    have h1 : [] ++ xs = _ := HX1.out
    rw [List.nil_append] at h1
    rw [h1, HY1.out, HZ1.out]
  obtain ⟨K, eK⟩ : ∃ k, (streamOf zs).length = k := ⟨_, rfl⟩
  have HK := Lib.hid eK
  have hK : 7 ≤ K ∧ K ≤ 1000000 := by
    have h := HSM.out
    rw [eK, HN.out] at h
    omega
  have hK8 : 8 ≤ K := stream_eight zs eK
  have HKL : Hid (xs.length + ys.length + cs.length = K) := by
    show _ = _
    rw [← eK, ← HALL.out, List.length_append, List.length_append]
  clear eK HX1 HX2 HX3 HX4 HX5 HY1 HY2 HY3 HZ1 HD1 HD2 HD3 HO1 HO2 HO3 HO3' HP3 HP4 HB1 HB2 HB3
  go_wp2_with fail
  go_at_call 19
  refine (copy_code x xs w4 HX6.out (by have := HKL.out; omega)).mono ?_
  rintro e w5 ⟨u, rfl, hu, hb5⟩
  have HU := Lib.hid hu
  have HB5 := Lib.hid hb5
  clear hu hb5
  go_wp2_with (at_builtin; refine wpList_append_listed (c := byteVal) rfl _ _ 24 rfl w4.heap.size 5 (.int .u8 0) Tryd.underlying24 infoByte rfl (fun _ => rfl) u xs.length xs rfl HU.out y ys rfl (listed_on HY4.out HB5.out) (by have := HKL.out; omega) HB5.out.size ?_)
  intro u6 w6 hown6 hgrow6
  have HU6 : Hid (w6.ownsRow w4.heap.size 5 1 u6 (xs.length + ys.length) ((xs ++ ys).map byteVal)) := by
    show World.ownsRow _ _ _ _ _ _ _
    rw [List.map_append]
    exact hown6
  have HB6 : Hid (Below w4.heap.size w4 w6) := HB5.out.grown hgrow6 HB5.out.size (fun q hq => (HU.out.lt q hq).1)
  clear hown6 hgrow6
  go_wp2_with (at_builtin; refine wpList_append_listed (c := byteVal) rfl _ _ 24 rfl w4.heap.size 5 (.int .u8 0) Tryd.underlying24 infoByte rfl (fun _ => rfl) u6 (xs.length + ys.length) (xs ++ ys) rfl HU6.out z cs rfl (listed_on HZ2.out HB6.out) (by have := HKL.out; omega) HB6.out.size ?_)
  intro av w7 hown7 hgrow7
  have hb7 : Below w4.heap.size w4 w7 := HB6.out.grown hgrow7 HB6.out.size (fun q hq => (HU6.out.lt q hq).1)
  rw [← List.map_append, ← List.map_append, ← List.append_assoc, HALL.out, HKL.out] at hown7
  obtain ⟨ao, ac, eav⟩ := row_shape hown7
  subst eav
  obtain ⟨g, rfl⟩ : ∃ g, ao = some ⟨g, 0, none⟩ := by
    rcases hown7.2 with ⟨h, _⟩ | ⟨g, c, cur, h, _⟩
    · simp only [Value.slice.injEq] at h; omega
    · simp only [Value.slice.injEq] at h; exact ⟨g, h.1⟩
  have HOWN := Lib.hid hown7
  have HAV : Hid (bytesIn w7 (.slice (some ⟨g, 0, none⟩) K ac) (streamOf zs)) := own_listed hown7
  have HB7 : Hid (Below W.heap.size W w7) := HB4.out.trans (hb7.mono HB4.out.size)
  have HGW : Hid (W.heap.size ≤ g) := Nat.le_trans HB4.out.size (hown7.lt g rfl).1
  clear hown7 hgrow7 hb7 HX6 HY4 HZ2 HU HU6 HB5 HB6
  go_wp2_with fail
  go_at_call 20
  refine (opens_bytes w7 _ _ zs N HYES.out HAV.out HS8.out (by rw [HK.out]; omega) (HL.out.below HB7.out) (by omega)).mono ?_
  rintro e w8 ⟨v, rfl, HV, HB8'⟩
  have HB8 : Hid (Below W.heap.size W w8) := HB7.out.trans (HB8'.out.mono HB7.out.size)
  have HOWN8 : Hid (w8.ownsRow w4.heap.size 5 1 (.slice (some ⟨g, 0, none⟩) K ac) K ((streamOf zs).map byteVal)) := owns_kept HOWN.out (fun k hk => HB8'.out.block k (HOWN.out.lt k hk).2)
  have HAV8 : Hid (bytesIn w8 (.slice (some ⟨g, 0, none⟩) K ac) (streamOf zs)) := own_listed HOWN8.out
  clear HB8' HOWN HAV
  have d8 : decide ((K : Int) < 8) = false := decide_eq_false (by omega)
  have d8' : decide (K < 8) = false := decide_eq_false (by omega)
  obtain ⟨K1, eK1⟩ : ∃ k, K - 1 = k := ⟨_, rfl⟩
  have hwK : IntKind.i64.wrap ((K : Int) - 1) = (K1 : Int) := by rw [IntKind.wrap_i64]; omega
  obtain ⟨uk, hsk, huk, _⟩ := listed_take bytes_type bytes_one HAV8.out K1 (by rw [HK.out]; omega)
  have HUK := Lib.hid huk
  have HC1 := Lib.hid (HCUT.out K1 (by rw [HK.out]; omega))
  have HEK1 := Lib.hid eK1
  clear huk HCUT eK1
  go_wp2_with fail
  go_at_call 12
  refine (same_yes v _ zs w8 HV.out (listed_on HB.out HB8.out)).mono ?_
  rintro e w9 ⟨rfl, rfl⟩
  go_wp2_with fail
  go_at_call 20
  refine (opens_fault w8 uk _ N 12 HC1.out HUK.out (fun z hz => HS8.out z (List.mem_of_mem_take hz)) (by rw [List.length_take, HK.out]; omega) (HL.out.below HB8.out) (by omega)).mono ?_
  rintro e w9 ⟨rfl, HB9'⟩
  have HB9 : Hid (Below W.heap.size W w9) := HB8.out.trans (HB9'.out.mono HB8.out.size)
  have HOWN9 : Hid (w9.ownsRow w4.heap.size 5 1 (.slice (some ⟨g, 0, none⟩) K ac) K ((streamOf zs).map byteVal)) := owns_kept HOWN8.out (fun k hk => HB9'.out.block k (HOWN8.out.lt k hk).2)
  clear HB9' HOWN8 HAV8 hsk HUK
  go_wp2_with fail
  go_at_call 19
  refine (copy_code _ (streamOf zs) w9 (own_listed HOWN9.out) (by rw [HK.out]; omega)).mono ?_
  rintro e w10 ⟨u10, rfl, hu10, hb10⟩
  rw [HK.out] at hu10
  have HU10 := Lib.hid hu10
  have HB10 := Lib.hid hb10
  clear hu10 hb10
  go_wp2_with (at_builtin; refine wpList_append_one (c := byteVal) rfl _ _ 24 rfl w9.heap.size 5 (.int .u8 0) Tryd.underlying24 infoByte rfl (fun _ => rfl) u10 K (streamOf zs) rfl (HU10.out.alloc _) w10.heap.size t rfl (cell_of_block (heap_alloc_new w10 _) 0) (by omega) (by have := HB10.out.size; simp; omega) ?_)
  intro u11 w11 hown11 hgrow11
  have hb11 : Below w9.heap.size w9 w11 := (HB10.out.alloc HB10.out.size _).grown hgrow11 (by have := HB10.out.size; simp; omega) (fun q hq => (HU10.out.lt q hq).1)
  have HU11 : Hid (bytesIn w11 u11 (streamOf zs ++ [t])) := by
    have h : w11.ownsRow w9.heap.size 5 1 u11 (K + 1) ((streamOf zs ++ [t]).map byteVal) := by rw [List.map_append]; exact hown11
    exact own_listed h
  have HB11 : Hid (Below W.heap.size W w11) := HB9.out.trans (hb11.mono HB9.out.size)
  have HOWN11 : Hid (w11.ownsRow w4.heap.size 5 1 (.slice (some ⟨g, 0, none⟩) K ac) K ((streamOf zs).map byteVal)) := owns_kept HOWN9.out (fun k hk => hb11.block k (HOWN9.out.lt k hk).2)
  clear hown11 hgrow11 hb11 HU10 HB10 HOWN9
  go_wp2_with fail
  go_at_call 20
  refine (opens_fault w11 u11 _ N 10 HMORE.out HU11.out (fun z hz => by
    rcases List.mem_append.1 hz with h | h
    · exact HS8.out z h
    · simp at h
      omega) (by simp only [List.length_append, List.length_cons, List.length_nil]; rw [HK.out]; omega) (HL.out.below HB11.out) (by omega)).mono ?_
  rintro e w12 ⟨rfl, HB12'⟩
  have HB12 : Hid (Below W.heap.size W w12) := HB11.out.trans (HB12'.out.mono HB11.out.size)
  have HOWN12 : Hid (w12.ownsRow w4.heap.size 5 1 (.slice (some ⟨g, 0, none⟩) K ac) K ((streamOf zs).map byteVal)) := owns_kept HOWN11.out (fun k hk => HB12'.out.block k (HOWN11.out.lt k hk).2)
  clear HB12' HOWN11 HU11
  by_cases ht0 : t = 0
  · subst ht0
    go_wp2_with fail
    go_at_call 15
    refine (zawake_any w12 (HL.out.below HB12.out)).mono ?_
    rintro e w13 ⟨rfl, HB13⟩
    go_wp2_with fail
    go_ret
    exact ⟨rfl, HB12.out.trans (HB13.out.mono HB12.out.size)⟩
  · have t1 : ((t : Int) == 0) = false := by simp; omega
    have t2 : decide ((t : Int) = 0) = false := decide_eq_false (by omega)
    have t3 : decide (t = 0) = false := decide_eq_false ht0
    have HT0 := Lib.hid ht0
    clear ht0
    go_wp2_with fail
    go_at_call 18
    refine (KP2.out _).mono ?_
    rintro e w13 ⟨⟨p, rfl, hp⟩, rfl⟩
    have hp4 : p < 4 := by have := hp (by omega); omega
    obtain ⟨l, hl4, hlne, hl8, z0, hz0, hz8, hset⟩ := turn_wrong zs p t hp4 HT0.out (by omega)
    rw [HK.out] at hz0 hset
    obtain ⟨J, eJ⟩ : ∃ J, K - 1 - p = J := ⟨_, rfl⟩
    rw [eJ] at hz0 hset
    have hJK : J < K := by omega
    have hwJ : IntKind.i64.wrap ((K1 : Int) - (p : Int)) = (J : Int) := by have := HEK1.out; rw [IntKind.wrap_i64]; omega
    have hsJ : (K1 : Int) - (p : Int) = (J : Int) := by have := HEK1.out; omega
    have cJ : w12.cell? ⟨g, J, none⟩ = some (byteVal z0) := by
      have := HOWN12.out.cells (g := g) rfl J (byteVal z0) (by rw [List.getElem?_map, hz0]; rfl)
      rwa [Addr.add_lit, Nat.zero_add] at this
    unfold byteVal at cJ
    have fJ : w12.frozen? ⟨g, J, none⟩ = false := own_unfrozen HOWN12.out J
    have hxr := u8_xor_nat z0 t (by omega) (by omega)
    have hrow : bytesIn (w12.setCell ⟨g, J, none⟩ (.int .u8 ((z0 ^^^ t : Nat) : Int))) (.slice (some ⟨g, 0, none⟩) K ac) (120 :: 1 :: (wholeOf zs ++ l)) := by
      have h := one_set (j := J) (x := z0 ^^^ t) HOWN12.out
      rw [hset] at h
      exact own_listed h
    have HROW := Lib.hid hrow
    have HW11 := Lib.hid (HWRONG.out l hl4 hlne)
    have HL8 : Hid (∀ y ∈ 120 :: 1 :: (wholeOf zs ++ l), y < 256) := fun y hy => by
      rcases List.mem_cons.1 hy with rfl | hy
      · omega
      · rcases List.mem_cons.1 hy with rfl | hy
        · omega
        · rcases List.mem_append.1 hy with h | h
          · exact whole_bytes zs y h
          · exact hl8 y h
    have HLL : Hid ((120 :: 1 :: (wholeOf zs ++ l)).length ≤ 2000000) := by
      show _ ≤ _
      have := congrArg List.length hset
      rw [List.length_set, HK.out] at this
      omega
    obtain ⟨X, eX⟩ : ∃ X, z0 ^^^ t = X := ⟨_, rfl⟩
    rw [eX] at hxr HROW
    have HB14 : Hid (Below W.heap.size W (w12.setCell ⟨g, J, none⟩ (.int .u8 (X : Int)))) := HB12.out.setCell (p := ⟨g, J, none⟩) HGW.out _
    clear hp hl4 hlne hl8 hz0 hset eJ hrow eX
    go_upto_region 18 with fail
    obtain ⟨w14, ew14⟩ : ∃ x, x = w12.setCell ⟨g, J, none⟩ (.int .u8 (X : Int)) := ⟨_, rfl⟩
    rw [← ew14] at HROW HB14 ⊢
    clear ew14 cJ fJ
    go_wp2_with fail
    go_at_call 20
    refine (opens_fault w14 _ _ N 11 HW11.out HROW.out HL8.out (by have := HLL.out; omega) (HL.out.below HB14.out) (by omega)).mono ?_
    rintro e w15 ⟨rfl, HB15'⟩
    have HB15 : Hid (Below W.heap.size W w15) := HB14.out.trans (HB15'.out.mono HB14.out.size)
    clear HB15'
    go_wp2_with fail
    go_at_call 15
    refine (zawake_any w15 (HL.out.below HB15.out)).mono ?_
    rintro e w16 ⟨rfl, HB16⟩
    go_wp2_with fail
    go_ret
    exact ⟨rfl, HB15.out.trans (HB16.out.mono HB15.out.size)⟩
theorem zback_law (W : World) (hl : LaidOrder W) (bv : Value) (zs : List Nat) (cut at_ : Int) (t : Nat) (hb : bytesIn W bv zs) (h8 : ∀ z ∈ zs, z < 256) (hc0 : -9223372036854775808 ≤ cut) (hc1 : cut ≤ 9223372036854775807) (ha0 : -9223372036854775808 ≤ at_) (ha1 : at_ ≤ 9223372036854775807) (ht : t ≤ 255) :
    Calls Tryd.prog 6 #[bv, .int .i64 cut, .int .i64 at_, .int .u8 (t : Int)] W fun e w' => e = .returned (.bool true) ∧ Below W.heap.size W w' := by
  by_cases hlen : zs.length ≤ 10000
  · exact zback_main W bv zs cut at_ t hb h8 hc0 hc1 ha0 ha1 ht hlen hl
  · obtain ⟨bo, bc, ebv⟩ := listed_length hb
    subst ebv
    have hd0 : decide ((10000 : Int) < (zs.length : Int)) = true := decide_eq_true (by omega)
    clear hb h8 hlen
    generalize zs.length = N at *
    go_enter Tryd.func6, Tryd.ntmps6
    go_wp2_with fail
    go_at_call 15
    refine (zawake_any W hl).mono ?_
    rintro e w9 ⟨rfl, hb9⟩
    go_wp2_with fail
    go_ret
    exact ⟨rfl, hb9.out⟩
end Go.Proofs.YtbfpbmnnlckldaaDoor.Fx
