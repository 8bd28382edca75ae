/-
  The walk of InflateCut. The conditions are that the list reads as bytes, and that the order lies as the text lays it.
-/
import Derived.Test.YtbhmjppnhlmefaaDoorInfZ
import Derived.Test.YtbhmjppnhlmefaaDoorInfR
import Derived.Test.YtbhmjppnhlmefaaDoorWinE
namespace Go.Proofs.YtbhmjppnhlmefaaDoor.Fx
open Go Go.RowKit Go.Joins
set_option linter.unusedVariables false
theorem told_row {zs : List Nat} {m : Nat} {w : World} {t : St} {e : Ending} {w' : World} (hs : Says blocksW (bitsOfBytes zs) m ⟨0, []⟩ (.ok () t)) (h : InflTo zs m w e w') :
    ∃ v, e = .returned (.tuple #[v, .int .i64 (((t.pos + 7) / 8 : Nat) : Int), .int .i64 0]) ∧ bytesIn w' v t.out ∧ Below w.heap.size w w' := by
  rcases h with ⟨t1, v, h1, rfl, hown, hb⟩ | ⟨k, h1, _⟩
  · have h2 := Way.says_one h1 hs
    cases h2
    exact ⟨v, rfl, own_listed hown, hb⟩
  · have h2 := Way.says_one h1 hs
    cases h2
theorem told_err {zs : List Nat} {m k : Nat} {w : World} {e : Ending} {w' : World} (hs : Says blocksW (bitsOfBytes zs) m ⟨0, []⟩ (.err k)) (h : InflTo zs m w e w') :
    e = .returned (.tuple #[.slice none 0 0, .int .i64 0, .int .i64 (k : Int)]) ∧ Below w.heap.size w w' := by
  rcases h with ⟨t1, v, h1, _⟩ | ⟨k1, h1, _, _, rfl, hb⟩
  · have h2 := Way.says_one h1 hs
    cases h2
  · have h2 := Way.says_one h1 hs
    cases h2
    exact ⟨rfl, hb⟩
theorem infl_any (W : World) (b : Value) (zs : List Nat) (m : Nat) (hr : bytesIn W b zs) (h8 : ∀ x ∈ zs, x < 256) (hz : zs.length ≤ 34359738368) (hl : LaidOrder W) (hm : m ≤ 1099511627776) :
    Calls Tryd.prog 13 #[b, .int .i64 (m : Int)] W (InflTo zs m W) := by
  have h := inflate_code W b zs (m : Int) hr h8 hz hl (by omega) (by omega)
  rwa [Int.toNat_natCast] at h
set_option maxHeartbeats 4000000 in
set_option maxRecDepth 100000 in
theorem cut_main (W : World) (bv : Value) (zs : List Nat) (M C D : Nat) (hb : bytesIn W bv zs) (h8 : ∀ x ∈ zs, x < 256) (hlen : zs.length ≤ 3000) (hM : M ≤ 20000) (hC : C ≤ 65535) (hD : D ≤ 255) (hl : LaidOrder W) :
    Calls Tryd.prog 4 #[bv, .int .u16 (M : Int), .int .u16 (C : Int), .int .u8 (D : Int)] W fun e w' => e = .returned (.bool true) ∧ Below W.heap.size W w' := by
  obtain ⟨bo, bc, ebv⟩ := listed_length hb
  subst ebv
  obtain ⟨N, eN⟩ : ∃ n, zs.length = n := ⟨_, rfl⟩
  have KI := infl_any W _ zs M hb h8 (by omega) hl (by omega)
  rw [eN] at KI
  have HN := Lib.hid eN
  have HB := Lib.hid hb
  have H8 := Lib.hid h8
  have HL := Lib.hid hl
  rw [eN] at HB hlen ⊢
  have d1 : decide ((3000 : Int) < (N : Int)) = false := decide_eq_false (by omega)
  have d2 : decide ((20000 : Int) < (M : Int)) = false := decide_eq_false (by omega)
  have wM : IntKind.i64.wrap (M : Int) = (M : Int) := by rw [IntKind.wrap_i64]; omega
  have wC : IntKind.i64.wrap (C : Int) = (C : Int) := by rw [IntKind.wrap_i64]; omega
  have wMC : IntKind.i64.wrap ((M : Int) + (C : Int)) = ((M + C : Nat) : Int) := by rw [IntKind.wrap_i64]; omega
  clear hb h8 eN hl
  go_enter Tryd.func4, Tryd.ntmps4
  go_wp2_with fail
  go_at_call 13
  refine KI.mono ?_
  clear KI
  rintro e w1 h1
  by_cases hok : ∃ t, Says blocksW (bitsOfBytes zs) M ⟨0, []⟩ (.ok () t)
  · obtain ⟨t, hs⟩ := hok
    obtain ⟨v, rfl, hv, hb1⟩ := told_row hs h1
    have hsome := some_bytes hs
    have hcut := cut_bytes hs
    have hmore := more_bytes hs
    rw [HN.out] at hsome
    obtain ⟨n, en⟩ : ∃ n, (t.pos + 7) / 8 = n := ⟨_, rfl⟩
    rw [en] at hsome hcut ⊢
    have hmore1 := hmore n en [D] (M + C) (by omega)
    obtain ⟨vo, vc, ev⟩ := listed_length hv
    subst ev
    obtain ⟨k, ek⟩ : ∃ k, t.out.length = k := ⟨_, rfl⟩
    rw [ek] at hv hsome ⊢
    obtain ⟨q, eq⟩ : ∃ q, C % n = q := ⟨_, rfl⟩
    have hqn : q < n := by rw [← eq]; exact Nat.mod_lt _ (by omega)
    have htm : (C : Int).tmod (n : Int) = (q : Int) := by
      rw [Int.tmod_eq_emod_of_nonneg (by omega), ← eq]
      omega
    have wq : IntKind.i64.wrap (q : Int) = (q : Int) := by rw [IntKind.wrap_i64]; omega
    have z1 : ((n : Int) == 0) = false := by simp; omega
    have z2 : decide ((n : Int) = 0) = false := decide_eq_false (by omega)
    have z3 : decide (n = 0) = false := decide_eq_false (by omega)
    have d3 : decide ((n : Int) < 1) = false := decide_eq_false (by omega)
    have d4 : decide ((N : Int) < (n : Int)) = false := decide_eq_false (by omega)
    have d4' : decide (N < n) = false := decide_eq_false (by omega)
    have d5 : decide ((M : Int) < (k : Int)) = false := decide_eq_false (by omega)
    have d5' : decide (M < k) = false := decide_eq_false (by omega)
    have hn1 : n ≤ N := hsome.2.1
    have HS1 := Lib.hid (hcut q hqn)
    have HS2 := Lib.hid hmore1
    have HE := Lib.hid en
    have HV := Lib.hid hv
    have HB1 := Lib.hid hb1
    have HL1 : Hid (LaidOrder w1) := HL.out.below hb1
    have HBW1 : Hid (bytesIn w1 (.slice bo N bc) zs) := listed_on HB.out hb1
    obtain ⟨ut, hst, hut, _⟩ := listed_take bytes_type bytes_one HBW1.out q (by rw [HN.out]; omega)
    obtain ⟨un, hsn, hun, _⟩ := listed_take bytes_type bytes_one HBW1.out n (by rw [HN.out]; omega)
    have HUT := Lib.hid hut
    have HUN := Lib.hid hun
    clear h1 hs hcut hmore hmore1 en hv hb1 hut hun ek eq hsome
    go_wp2_with fail
    go_at_call 13
    refine (infl_any w1 ut (zs.take q) M HUT.out (fun x hx => H8.out x (List.mem_of_mem_take hx)) (by rw [List.length_take]; omega) HL1.out (by omega)).mono ?_
    rintro e w2 h2
    obtain ⟨rfl, hb2⟩ := told_err HS1.out h2
    have HB2 : Hid (Below W.heap.size W w2) := HB1.out.trans (hb2.mono HB1.out.size)
    have HL2 : Hid (LaidOrder w2) := HL1.out.below hb2
    have HV2 : Hid (bytesIn w2 (.slice vo k vc) t.out) := listed_on HV.out hb2
    have HUN2 : Hid (bytesIn w2 un (zs.take n)) := listed_on HUN.out hb2
    clear h2 hb2 hst
    go_wp2_with fail
    go_at_call 12
    refine (copy_code un (zs.take n) w2 HUN2.out (by rw [List.length_take]; omega)).mono ?_
    rintro e w3 ⟨u, rfl, hu, hb3⟩
    have HU := Lib.hid hu
    have HB3 := Lib.hid hb3
    clear hu hb3 hsn
    go_wp2_with (at_builtin; refine wpList_append_one (c := byteVal) rfl _ _ 22 rfl w2.heap.size 5 (.int .u8 0) Tryd.underlying22 infoByte rfl (fun _ => rfl) u (zs.take n).length (zs.take n) rfl (HU.out.alloc _) w3.heap.size D rfl (cell_of_block (heap_alloc_new w3 _) 0) (by rw [List.length_take]; omega) (by have := HB3.out.size; simp; omega) ?_)
    intro u4 w4 hown4 hgrow4
    rw [← List.map_take, show [byteVal D] = [D].map byteVal from rfl, ← List.map_append] at hown4
    have hb4 : Below w2.heap.size w2 w4 := (HB3.out.alloc HB3.out.size _).grown hgrow4 (by have := HB3.out.size; simp; omega) (fun q hq => (HU.out.lt q hq).1)
    have HU4 : Hid (bytesIn w4 u4 (zs.take n ++ [D])) := own_listed (c := byteVal) hown4
    have HB4 : Hid (Below W.heap.size W w4) := HB2.out.trans (hb4.mono HB2.out.size)
    have HL4 : Hid (LaidOrder w4) := HL2.out.below hb4
    have HV4 : Hid (bytesIn w4 (.slice vo k vc) t.out) := listed_on HV2.out hb4
    clear hown4 hgrow4 hb4
    go_wp2_with fail
    go_at_call 13
    refine (infl_any w4 u4 (zs.take n ++ [D]) (M + C) HU4.out (fun x hx => by
      rcases List.mem_append.1 hx with h | h
      · exact H8.out x (List.mem_of_mem_take h)
      · simp at h
        omega) (by simp only [List.length_append, List.length_take, List.length_cons, List.length_nil]; omega) HL4.out (by omega)).mono ?_
    rintro e w5 h5
    obtain ⟨x, rfl, hx, hb5⟩ := told_row HS2.out h5
    rw [HE.out]
    have HX := Lib.hid hx
    have HB5 : Hid (Below W.heap.size W w5) := HB4.out.trans (hb5.mono HB4.out.size)
    have HV5 : Hid (bytesIn w5 (.slice vo k vc) t.out) := listed_on HV4.out hb5
    have HL5 : Hid (LaidOrder w5) := HL4.out.below hb5
    clear h5 hx hb5
    go_wp2_with fail
    go_at_call 14
    refine (same_yes x _ t.out w5 HX.out HV5.out).mono ?_
    rintro e w6 ⟨rfl, rfl⟩
    go_wp2_with fail
    go_at_call 7
    refine (awakeInf_any w5 HL5.out).mono ?_
    rintro e w7 ⟨rfl, hb7⟩
    have HB7 : Hid (Below W.heap.size W w7) := HB5.out.trans (hb7.mono HB5.out.size)
    clear hb7
    go_wp2_with fail
    go_ret
    exact ⟨rfl, HB7.out⟩
  · rcases h1 with ⟨t1, v, h1, _⟩ | ⟨k, _, hk1, hk2, rfl, hb1⟩
    · exact (hok ⟨t1, h1⟩).elim
    · have f1 : ((k : Int) == 0) = false := by simp; omega
      have f2 : decide ((k : Int) = 0) = false := decide_eq_false (by omega)
      have f3 : ((k : Int) != 0) = true := by simp; omega
      have HB1 := Lib.hid hb1
      have HL1 : Hid (LaidOrder w1) := HL.out.below hb1
      clear hok hb1
      go_wp2_with fail
      go_at_call 7
      refine (awakeInf_any w1 HL1.out).mono ?_
      rintro e w7 ⟨rfl, hb7⟩
      have HB7 : Hid (Below W.heap.size W w7) := HB1.out.trans (hb7.mono HB1.out.size)
      clear hb7
      go_wp2_with fail
      go_ret
      exact ⟨rfl, HB7.out⟩
theorem cut_law (W : World) (hl : LaidOrder W) (bv : Value) (zs : List Nat) (M C D : Nat) (hb : bytesIn W bv zs) (h8 : ∀ x ∈ zs, x < 256) (hM : M ≤ 65535) (hC : C ≤ 65535) (hD : D ≤ 255) :
    Calls Tryd.prog 4 #[bv, .int .u16 (M : Int), .int .u16 (C : Int), .int .u8 (D : Int)] W fun e w' => e = .returned (.bool true) ∧ Below W.heap.size W w' := by
  by_cases hlen : zs.length ≤ 3000
  · by_cases hm : M ≤ 20000
    · exact cut_main W bv zs M C D hb h8 hlen hm hC hD hl
    · obtain ⟨bo, bc, ebv⟩ := listed_length hb
      subst ebv
      have d1 : decide ((3000 : Int) < (zs.length : Int)) = false := decide_eq_false (by omega)
      have d2 : decide ((20000 : Int) < (M : Int)) = true := decide_eq_true (by omega)
      have d2' : decide (20000 < M) = true := decide_eq_true (by omega)
      clear hb h8 hlen hm
      generalize zs.length = N at *
      go_enter Tryd.func4, Tryd.ntmps4
      go_wp2_with fail
      go_at_call 7
      refine (awakeInf_any W hl).mono ?_
      rintro e w9 ⟨rfl, hb9⟩
      go_wp2_with fail
      go_ret
      exact ⟨rfl, hb9⟩
  · obtain ⟨bo, bc, ebv⟩ := listed_length hb
    subst ebv
    have hd0 : decide ((3000 : Int) < (zs.length : Int)) = true := decide_eq_true (by omega)
    clear hb h8 hlen
    generalize zs.length = N at *
    go_enter Tryd.func4, Tryd.ntmps4
    go_wp2_with fail
    go_at_call 7
    refine (awakeInf_any W hl).mono ?_
    rintro e w9 ⟨rfl, hb9⟩
    go_wp2_with fail
    go_ret
    exact ⟨rfl, hb9⟩
end Go.Proofs.YtbhmjppnhlmefaaDoor.Fx
