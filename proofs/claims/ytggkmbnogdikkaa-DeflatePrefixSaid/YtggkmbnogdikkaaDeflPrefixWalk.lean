/-
  The walk of DeflatePrefix. The conditions are that the lists read as bytes.
-/
import Derived.Test.YtggkmbnogdikkaaDeflRun
namespace Go.Proofs.Ytggkmbnogdikkaa.Fx
open Go Go.RowKit Go.Joins
set_option linter.unusedVariables false
theorem hid_step2 {n : Nat} {a b c : World} (h2 : Below n b c) (hn : b.heap.size = n) (h1 : Below a.heap.size a b) : Hid (Below a.heap.size a c) := by
  subst hn
  exact h1.trans (h2.mono h1.size)
theorem same_as (p q : Value) (xs ys : List Nat) (b : Bool) (w : World) (hp : bytesIn w p xs) (hq : bytesIn w q ys) (hx : ∀ z ∈ xs, z < 256) (hy : ∀ z ∈ ys, z < 256) (hb : decide (xs = ys) = b) :
    Calls Try.prog 9 #[p, q] w fun e w' => e = .returned (.bool b) ∧ w = w' := by
  subst hb
  exact same_is p q xs ys w hp hq hx hy
set_option maxHeartbeats 4000000 in
set_option maxRecDepth 100000 in
theorem prefix_main (W : World) (av : Value) (za : List Nat) (bv : Value) (zb : List Nat) (cv : Value) (zc : List Nat) (ha : bytesIn W av za) (ha8 : ∀ x ∈ za, x < 256) (hb : bytesIn W bv zb) (hb8 : ∀ x ∈ zb, x < 256) (hc : bytesIn W cv zc) (hc8 : ∀ x ∈ zc, x < 256)
    (hla : za.length ≤ 10000) (hlb : zb.length ≤ 1000) (hlc : zc.length ≤ 1000) :
    Calls Try.prog 7 #[av, bv, cv] W fun e w' => e = .returned (.bool true) ∧ Below W.heap.size W w' := by
  obtain ⟨ao, ac, ea⟩ := listed_length ha
  obtain ⟨bo, bc, eb⟩ := listed_length hb
  obtain ⟨co, cc, ec⟩ := listed_length hc
  subst ea eb ec
  obtain ⟨na, ena⟩ : ∃ n, za.length = n := ⟨_, rfl⟩
  obtain ⟨nb, enb⟩ : ∃ n, zb.length = n := ⟨_, rfl⟩
  obtain ⟨nc, enc⟩ : ∃ n, zc.length = n := ⟨_, rfl⟩
  have HA := Lib.hid ha
  have HB := Lib.hid hb
  have HC := Lib.hid hc
  have HAW : Hid (∀ b, inBlock (.slice ao za.length ac) b → b < W.heap.size) := fun b hb2 => inBlock_lt ha hb2
  have HA8 := Lib.hid ha8
  have HB8 := Lib.hid hb8
  have HC8 := Lib.hid hc8
  have HNA := Lib.hid ena
  have HNB := Lib.hid enb
  have HNC := Lib.hid enc
  rw [ena] at HA HAW hla ⊢
  rw [enb] at HB hlb ⊢
  rw [enc] at HC hlc ⊢
  clear ha hb hc ha8 hb8 hc8 ena enb enc
  have d1 : decide ((10000 : Int) < (na : Int)) = false := decide_eq_false (by omega)
  have d2 : decide ((1000 : Int) < (nb : Int)) = false := decide_eq_false (by omega)
  have d3 : decide ((1000 : Int) < (nc : Int)) = false := decide_eq_false (by omega)
  go_enter Try.func7, Try.ntmps7
  go_wp2_with fail
  go_at_call 14
  refine (new_code W).mono ?_
  rintro e w1 ⟨v, O1, rfl, k1, k2, k3⟩
  obtain ⟨va, hv⟩ : ∃ a, v = .pointer a := by
    obtain ⟨h, g, ov, OP, rfl, _⟩ := k1
    exact ⟨_, rfl⟩
  subst hv
  have HR0 : Hid (OutIs W (.pointer va) (.slice none 0 0) [] (toldOf []) w1) := out_start k1 k2 k3
  have KW := write_run HR0.out (.slice ao na ac) za (listed_on HA.out k3) (by rw [List.nil_append]; exact HA8.out) HAW.out (by rw [List.nil_append, HNA.out]; omega)
  rw [List.nil_append] at KW
  clear k1 k2 k3
  go_wp2_with fail
  go_at_call 16
  refine KW.mono ?_
  rintro e w2 ⟨x, xs, rfl, HTO, HMID⟩
  have hx : bytesIn w2 x (toldOf za) ∧ Below W.heap.size W w2 := by
    obtain ⟨O, h1, h2, h3, h4, h5, h6, h7⟩ := HMID.out
    have h := HTO.out
    rw [told_nil, List.nil_append] at h
    rw [← h]
    exact ⟨h5, h7⟩
  obtain ⟨xo, xc, exx⟩ := listed_length hx.1
  subst exx
  obtain ⟨nx, enx⟩ : ∃ n, (toldOf za).length = n := ⟨_, rfl⟩
  rw [enx] at hx ⊢
  have HX := Lib.hid hx.1
  have HB2 := Lib.hid hx.2
  have HNX := Lib.hid enx
  clear hx KW enx
  go_wp2_with fail
  go_at_call 15
  refine (copy_code (.slice ao na ac) za w2 (listed_on HA.out HB2.out) (by rw [HNA.out]; omega)).mono ?_
  rintro e w3 ⟨u, rfl, hu, hb3⟩
  have hu0 := ownsRow_le hu (Nat.zero_le _)
  have HU := Lib.hid hu
  have HU0 := Lib.hid hu0
  have HB3 := Lib.hid hb3
  clear hu hu0 hb3
  go_wp2_with (at_builtin; refine wpList_append_to (c := byteVal) rfl _ _ 25 rfl 5 (.int .u8 0) 1 Try.underlying25 infoByte rfl (fun _ => rfl) u _ _ rfl HU0.out _ zb rfl (listed_on HB.out (HB2.out.trans (HB3.out.mono HB2.out.size))) (by rw [HNA.out, HNB.out]; unfold maxLen; omega) (by rw [HNA.out, HNB.out]; omega) ?_)
  intro u4 w4 j1 j2 j3
  have hb4 : Below w2.heap.size w2 w4 := HB3.out.grown j2 HB3.out.size (fun q hq => (HU.out.lt q hq).1)
  have hu4 : bytesIn w4 u4 (za ++ zb) := own_listed (c := byteVal) (by rw [List.map_append]; simpa using j1)
  have HB4 := Lib.hid hb4
  have HU4 := Lib.hid hu4
  clear hb4 hu4 j1 j2 j3
  go_wp2_with fail
  go_at_call 10
  refine (whole_code w4 u4 (za ++ zb) HU4.out (by
    intro x hx
    rcases List.mem_append.1 hx with h | h
    · exact HA8.out x h
    · exact HB8.out x h) (by rw [List.length_append, HNA.out, HNB.out]; omega)).mono ?_
  rintro e w5 ⟨t, rfl, ht, _, hb5⟩
  obtain ⟨nt, ent⟩ : ∃ n, (wholeOf (za ++ zb)).length = n := ⟨_, rfl⟩
  obtain ⟨tto, tc, ett⟩ := listed_length ht
  rw [ent] at ett
  subst ett
  have hnx : nx ≤ nt ∧ (wholeOf (za ++ zb)).take nx = toldOf za := by
    obtain ⟨y, hy⟩ := told_begin za zb
    rw [hy, List.length_append] at ent
    have := HNX.out
    refine ⟨by omega, ?_⟩
    rw [hy, ← this, List.take_left]
  have HB5 : Hid (Below w2.heap.size w2 w5) := HB4.out.trans (hb5.mono HB4.out.size)
  obtain ⟨tt, hst, htt, _⟩ := listed_take bytes_type bytes_one ht nx (by rw [ent]; exact hnx.1)
  rw [hnx.2] at htt
  have HTT := Lib.hid htt
  have d4 : decide ((nt : Int) < (nx : Int)) = false := decide_eq_false (by omega)
  have d4' : decide (nt < nx) = false := decide_eq_false (by omega)
  have HX5 : Hid (bytesIn w5 (.slice xo nx xc) (toldOf za)) := listed_on HX.out HB5.out
  clear ht htt hb5 hnx ent
  go_wp2_with fail
  go_at_call 9
  refine (same_yes tt _ (toldOf za) w5 HTT.out HX5.out).mono ?_
  rintro e w6 ⟨rfl, rfl⟩
  have HBW5 : Hid (Below W.heap.size W w5) := HB2.out.trans (HB5.out.mono HB2.out.size)
  clear hst
  go_wp2_with fail
  go_at_call 10
  refine (whole_code w5 (.slice bo nb bc) zb (listed_on HB.out HBW5.out) HB8.out (by rw [HNB.out]; omega)).mono ?_
  rintro e w6 ⟨p, rfl, hp, _, hb6⟩
  obtain ⟨np, enp⟩ : ∃ n, (wholeOf zb).length = n := ⟨_, rfl⟩
  obtain ⟨po, pc, ep⟩ := listed_length hp
  rw [enp] at ep
  subst ep
  have HP := Lib.hid hp
  have HNP := Lib.hid enp
  have HB6 : Hid (Below W.heap.size W w6) := HBW5.out.trans (hb6.mono HBW5.out.size)
  clear hp enp hb6
  go_wp2_with fail
  go_at_call 10
  refine (whole_code w6 (.slice co nc cc) zc (listed_on HC.out HB6.out) HC8.out (by rw [HNC.out]; omega)).mono ?_
  rintro e w7 ⟨q, rfl, hq, _, hb7⟩
  obtain ⟨nq, enq⟩ : ∃ n, (wholeOf zc).length = n := ⟨_, rfl⟩
  obtain ⟨qo, qc, eq⟩ := listed_length hq
  rw [enq] at eq
  subst eq
  obtain ⟨n, en⟩ : ∃ n, min np nq = n := ⟨_, rfl⟩
  have hmin : ∀ w ts t, (Builtin.min_ ts t #[.int .i64 (np : Int), .int .i64 (nq : Int)]).run Try.prog w = .ok (.int .i64 (n : Int)) w := by
    intro w ts t
    rw [run_min_int2, ← en]
    by_cases h : (nq : Int) < (np : Int)
    · rw [if_pos h]
      congr 2
      omega
    · rw [if_neg h]
      congr 2
      omega
  have hn0 : 0 < n := by
    have h1 := (whole_length zb).2
    have h2 := (whole_length zc).2
    have := HNP.out
    omega
  obtain ⟨p1, hsp, hp1, _⟩ := listed_take bytes_type bytes_one (listed_on HP.out hb7) n (by rw [HNP.out]; omega)
  obtain ⟨q1, hsq, hq1, _⟩ := listed_take bytes_type bytes_one hq n (by rw [enq]; omega)
  have HP1 := Lib.hid hp1
  have HQ1 := Lib.hid hq1
  have HB7 : Hid (Below W.heap.size W w7) := HB6.out.trans (hb7.mono HB6.out.size)
  have d5 : decide ((0 : Int) < (n : Int)) = true := decide_eq_true (by omega)
  obtain ⟨D, eD⟩ : ∃ D, decide (zb = zc) = D := ⟨_, rfl⟩
  have HD1 : Hid (decide ((wholeOf zb).take n = (wholeOf zc).take n) = D) := by
    show _ = _
    rw [← eD]
    by_cases h : zb = zc
    · rw [decide_eq_true h, decide_eq_true (by rw [h])]
    · rw [decide_eq_false h, decide_eq_false (fun h2 => h ?_)]
      rw [← en, ← enq, ← HNP.out] at h2
      exact wholes_alike zb zc HB8.out HC8.out h2
  have HD2 := Lib.hid eD
  have KS1 : Hid (∀ w, Below w7.heap.size w7 w → Calls Try.prog 9 #[p1, q1] w fun e w' => e = .returned (.bool D) ∧ w = w') := fun w hw => same_as p1 q1 _ _ D w (listed_on hp1 hw) (listed_on hq1 hw) (fun z hz => whole_bytes zb z (List.mem_of_mem_take hz)) (fun z hz => whole_bytes zc z (List.mem_of_mem_take hz)) HD1.out
  have KS2 : Hid (∀ w, Below w7.heap.size w7 w → Calls Try.prog 9 #[.slice bo nb bc, .slice co nc cc] w fun e w' => e = .returned (.bool D) ∧ w = w') := fun w hw => same_as _ _ zb zc D w (listed_on HB.out (HB7.out.trans (hw.mono HB7.out.size))) (listed_on HC.out (HB7.out.trans (hw.mono HB7.out.size))) HB8.out HC8.out HD2.out
  have hDD : (D == D) = true := by simp
  clear hp1 hq1 hq hb7 enq en eD
  go_upto_region 10 with fail
  have HC7 : Hid (Below w7.heap.size w7 w7) := Below.refl _ _
  go_region_held3 (fun w' => Below w7.heap.size w7 w') (first | (with_reducible assumption) | (repeat (first | exact HC7.out | refine Below.drew ?_ | refine Below.alloc ?_ HC7.out.size _))) (first | (go_at_call 9; with_reducible refine (KS1.out _ (by (repeat (first | exact HC7.out | refine Below.drew ?_ | refine Below.alloc ?_ HC7.out.size _)))).mono ?_; rintro e w8 ⟨rfl, rfl⟩) | (go_at_call 9; with_reducible refine (KS2.out _ (by (repeat (first | exact HC7.out | refine Below.drew ?_ | refine Below.alloc ?_ HC7.out.size _)))).mono ?_; rintro e w8 ⟨rfl, rfl⟩) | (go_at_call 13; with_reducible refine (awake_any _).mono ?_; rintro e w9 ⟨rfl, hb9⟩; have HC7 := hid_step2 hb9 rfl (by first | exact HC7.out | exact Below.drew HC7.out | exact Below.drew (Below.drew HC7.out))))
  all_goals go_wp2_with fail
  all_goals go_ret
  all_goals exact ⟨rfl, HB7.out.trans (Below.mono (by (repeat (first | exact HC7.out | refine Below.drew ?_ | refine Below.alloc ?_ HC7.out.size _))) HB7.out.size)⟩
theorem prefix_law (W : World) (av : Value) (za : List Nat) (bv : Value) (zb : List Nat) (cv : Value) (zc : List Nat) (ha : bytesIn W av za) (ha8 : ∀ x ∈ za, x < 256) (hb : bytesIn W bv zb) (hb8 : ∀ x ∈ zb, x < 256) (hc : bytesIn W cv zc) (hc8 : ∀ x ∈ zc, x < 256) :
    Calls Try.prog 7 #[av, bv, cv] W fun e w' => e = .returned (.bool true) ∧ Below W.heap.size W w' := by
  by_cases hla : za.length ≤ 10000 ∧ zb.length ≤ 1000 ∧ zc.length ≤ 1000
  · exact prefix_main W av za bv zb cv zc ha ha8 hb hb8 hc hc8 hla.1 hla.2.1 hla.2.2
  · obtain ⟨ao, ac, ea⟩ := listed_length ha
    obtain ⟨bo, bc, eb⟩ := listed_length hb
    obtain ⟨co, cc, ec⟩ := listed_length hc
    subst ea eb ec
    clear ha ha8 hb hb8 hc hc8
    generalize za.length = na at *
    generalize zb.length = nb at *
    generalize zc.length = nc at *
    have hcs : (decide ((10000 : Int) < (na : Int)) = true ∧ decide (10000 < na) = true) ∨ ((decide ((10000 : Int) < (na : Int)) = false ∧ decide (10000 < na) = false) ∧ ((decide ((1000 : Int) < (nb : Int)) = true ∧ decide (1000 < nb) = true) ∨ ((decide ((1000 : Int) < (nb : Int)) = false ∧ decide (1000 < nb) = false) ∧ (decide ((1000 : Int) < (nc : Int)) = true ∧ decide (1000 < nc) = true)))) := by
      by_cases h1 : na ≤ 10000
      · refine .inr ⟨⟨decide_eq_false (by omega), decide_eq_false (by omega)⟩, ?_⟩
        by_cases h2 : nb ≤ 1000
        · exact .inr ⟨⟨decide_eq_false (by omega), decide_eq_false (by omega)⟩, decide_eq_true (by omega), decide_eq_true (by omega)⟩
        · exact .inl ⟨decide_eq_true (by omega), decide_eq_true (by omega)⟩
      · exact .inl ⟨decide_eq_true (by omega), decide_eq_true (by omega)⟩
    clear hla
    rcases hcs with ⟨d1, d1'⟩ | ⟨⟨d1, d1'⟩, ⟨d2, d2'⟩ | ⟨⟨d2, d2'⟩, d3, d3'⟩⟩ <;>
    · go_enter Try.func7, Try.ntmps7
      go_wp2_with fail
      go_at_call 13
      refine (awake_any W).mono ?_
      rintro e w9 ⟨rfl, hb9⟩
      go_wp2_with fail
      go_ret
      exact ⟨rfl, hb9⟩
end Go.Proofs.Ytggkmbnogdikkaa.Fx
