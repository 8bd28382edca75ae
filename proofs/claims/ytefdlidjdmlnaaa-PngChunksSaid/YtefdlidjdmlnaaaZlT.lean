/-
  The document's own writer of zlib: End. The conditions stand in it.
-/
import Derived.Test.YtefdlidjdmlnaaaZlS
namespace Go.Proofs.Ytefdlidjdmlnaaa.Fx
open Go Go.RowKit Go.Joins
set_option linter.unusedVariables false
theorem zrend_fin {W w9 : World} {base n9 c9 : Nat} {o9 i1 i5 : Option Addr} {i2 i3 i6 i7 : Nat} {i4 i8 : Int} {l : List Nat} (hn : l.length = n9) (hr : w9.ownsRow base 5 1 (.slice o9 n9 c9) n9 (l.map byteVal)) (hb : Below W.heap.size W w9) (h1 : W.heap.size ≤ base) (h2 : W.heap.size + 2 ≤ base) (v0 v1 v2 v3 v4 v5 : Value) :
    ∃ j1 j2 j3 j4 j5 j6 j7 j8 oy ny cy, Ending.returned (.tuple #[.agg (zcells i1 i2 i3 i4 i5 i6 i7 i8 true true), .slice o9 n9 c9, .int .i64 0]) = .returned (.tuple #[.agg (zcells j1 j2 j3 j4 j5 j6 j7 j8 true true), .slice oy ny cy, .int .i64 0]) ∧ Hid (bytesIn (set6 w9 (W.heap.size + 1) v0 v1 v2 v3 v4 v5) (.slice oy ny cy) l ∧ (∀ q, inBlock (.slice oy ny cy) q → W.heap.size ≤ q) ∧ Below W.heap.size W (set6 w9 (W.heap.size + 1) v0 v1 v2 v3 v4 v5)) :=
  ⟨_, _, _, _, _, _, _, _, _, _, _, rfl, own_in_bytes (row_on hr (fun q hq => set6_heap w9 (W.heap.size + 1) _ _ _ _ _ _ q (by omega))) hn, fun q hq => Nat.le_trans h1 (own_fresh hr q hq), set6_below hb (Nat.le_succ _) _ _ _ _ _ _⟩
set_option maxHeartbeats 4000000 in
set_option maxRecDepth 100000 in
theorem rzend_any (av lv : Value) (all : List Nat) (bg : Bool) (W : World) (ha : bytesIn W av all) (h8 : ∀ x ∈ all, x < 256) (hl : bools W lv (outOf all)) (hz : all.length ≤ 1000000) :
    Calls Try.prog 29 #[.agg #[av, .int .i64 ((4096 * fullOf all.length : Nat) : Int), lv, .int .i64 (((outOf all).length / 8 : Nat) : Int), .bool false, .bool bg]] W fun e w' =>
      ∃ i1 i2 i3 i4 i5 i6 i7 i8 oy ny cy, e = .returned (.tuple #[.agg (zcells i1 i2 i3 i4 i5 i6 i7 i8 true true), .slice oy ny cy, .int .i64 0]) ∧ Hid (bytesIn w' (.slice oy ny cy) (headOf bg ++ restOf all ++ fourOf (sumOf all)) ∧ (∀ q, inBlock (.slice oy ny cy) q → W.heap.size ≤ q) ∧ Below W.heap.size W w') := by
  obtain ⟨ao, ac, eav⟩ := listed_length ha
  obtain ⟨lo, lc, elv⟩ := listed_length hl
  have hXL := restOf_length all (by omega)
  obtain ⟨w1, e1, hs1, hB0, hB1, hbl⟩ := two_boxes W (zcells ao all.length ac ((4096 * fullOf all.length : Nat) : Int) lo (outOf all).length lc (((outOf all).length / 8 : Nat) : Int) false bg) zzero 67 67
  have KW := rend_any av lv all w1 (listed_on ha hbl) h8 (listed_on hl hbl) hz
  have HAV : Hid (bytesIn W av all ∧ all.length ≤ 1000000) := ⟨ha, hz⟩
  have H8 := Lib.hid h8
  have bS := sumOf_below all
  subst eav elv
  obtain ⟨X, eX⟩ : ∃ x, restOf all = x := ⟨_, rfl⟩
  have eX' : bytesAt (endOf all) ((outOf all).length / 8) ((endOf all).length / 8 - (outOf all).length / 8) = X := eX
  rw [eX'] at KW
  rw [eX] at hXL ⊢
  obtain ⟨A4, eA4⟩ : ∃ x, 4096 * fullOf all.length = x := ⟨_, rfl⟩
  obtain ⟨T4, eT4⟩ : ∃ x, (outOf all).length / 8 = x := ⟨_, rfl⟩
  rw [eA4, eT4] at KW hB0 e1 ⊢
  obtain ⟨S, eS⟩ : ∃ x, sumOf all = x := ⟨_, rfl⟩
  have HS := Lib.hid eS
  rw [eS] at bS ⊢
  obtain ⟨an, ean⟩ : ∃ x, all.length = x := ⟨_, rfl⟩
  obtain ⟨ln, eln⟩ : ∃ x, (outOf all).length = x := ⟨_, rfl⟩
  rw [ean, eln] at KW hB0 e1 ⊢
  rw [ean] at HAV
  have HAN := Lib.hid ean
  have H1 := Lib.hid hB1
  have H0 := Lib.hid hB0
  have HBL := Lib.hid hbl
  have HS1 := Lib.hid hs1
  have q0 := cell_of_block hB0 0
  have q1 := cell_of_block hB0 1
  have q2 := cell_of_block hB0 2
  have q3 := cell_of_block hB0 3
  have q4 := cell_of_block hB0 4
  clear ha h8 hl hz eX eX' eA4 eT4 ean eln hB0 hB1 hbl hs1 eS
  go_enter Try.func29, Try.ntmps29
  go_upto_region 1 with fail
  rw [← e1]
  clear e1
  go_wp2_with fail
  go_at_call 43
  refine KW.mono ?_
  clear KW
  rintro e w2 ⟨i1, i2, i3, i4, i5, i6, i7, i8, y1, rfl, v1, v2, v3, eav⟩
  obtain ⟨oy, cy, ey1⟩ := listed_length v1
  subst ey1
  obtain ⟨ny, eny⟩ : ∃ x, X.length = x := ⟨_, rfl⟩
  rw [eny] at v1 v2 hXL ⊢
  have HNY := Lib.hid eny
  have HV := Lib.hid (And.intro v1 (And.intro v2 v3))
  rw [eav] at HAV
  clear v1 v2 v3 eny eav q0 q1 q2 q3 q4
  go_upto_region 4 with fail
  have hs12 : w1.heap.size ≤ w2.heap.size := HV.out.2.2.size
  have hs1 := HS1.out
  obtain ⟨w3, e3⟩ : ∃ x, x = w2.alloc (.cells #[.slice i1 i2 i3, .int .i64 i4, .slice i5 i6 i7, .int .i64 i8, .bool true] 65) := ⟨_, rfl⟩
  have hb3 : Below w2.heap.size w2 w3 := by rw [e3]; exact below_alloc1 w2 _
  have hn3 : w3.heap[w2.heap.size]? = some (.cells #[.slice i1 i2 i3, .int .i64 i4, .slice i5 i6 i7, .int .i64 i8, .bool true] 65 (0, 0)) := by rw [e3]; exact heap_alloc_new w2 _
  have h30 := (hb3.block W.heap.size (by omega)).trans ((HV.out.2.2.block W.heap.size (by omega)).trans H0.out)
  have h31 := (hb3.block (W.heap.size + 1) (by omega)).trans ((HV.out.2.2.block (W.heap.size + 1) (by omega)).trans H1.out)
  have hw3 : bytesIn w3 (.slice oy ny cy) X ∧ Below W.heap.size W w3 := ⟨listed_on HV.out.1 hb3, HBL.out.trans ((HV.out.2.2.trans (hb3.mono hs12)).mono (by omega))⟩
  have HW3 := Lib.hid hw3
  have HF : Hid (∀ q, inBlock (.slice oy ny cy) q → W.heap.size + 2 ≤ q) := fun q hq => by have := HV.out.2.1 q hq; omega
  rw [← e3]
  obtain ⟨g2, eg2⟩ : ∃ g, w2.heap.size = g := ⟨_, rfl⟩
  rw [eg2] at hn3 ⊢
  have H30 := Lib.hid h30
  have H31 := Lib.hid h31
  have r0 := cell_of_block hn3 0
  have r1 := cell_of_block hn3 1
  have r2 := cell_of_block hn3 2
  have r3 := cell_of_block hn3 3
  have r4 := cell_of_block hn3 4
  have t0 := cell_of_block h30 0
  have t1 := cell_of_block h30 1
  have t2 := cell_of_block h30 2
  have t3 := cell_of_block h30 3
  have t4 := cell_of_block h30 4
  have t5 := cell_of_block h30 5
  have f0 := unfrozen_of_block h30 0
  have f1 := unfrozen_of_block h30 1
  have f2 := unfrozen_of_block h30 2
  have f3 := unfrozen_of_block h30 3
  have f4 := unfrozen_of_block h30 4
  have f5 := unfrozen_of_block h30 5
  clear e3 hb3 hn3 hw3 eg2 hs12 HV h30 h31
  go_upto_region 5 with fail
  obtain ⟨w4, e4⟩ : ∃ x, x = wset5 w3 W.heap.size (.slice i1 i2 i3) (.int .i64 i4) (.slice i5 i6 i7) (.int .i64 i8) (.bool true) := ⟨_, rfl⟩
  have h40 : w4.heap[W.heap.size]? = some (.cells (zcells i1 i2 i3 i4 i5 i6 i7 i8 true bg) 67 (0, 0)) := by rw [e4]; exact wset5_block H30.out _ _ _ _ _
  have hk4 : ∀ q, q ≠ W.heap.size → w4.heap[q]? = w3.heap[q]? := fun q hq => by rw [e4]; exact wset5_heap _ _ _ _ _ _ _ q hq
  have hz4 : w4.heap.size = w3.heap.size := by rw [e4]; simp [wset5]
  have h41 := (hk4 (W.heap.size + 1) (by omega)).trans H31.out
  have HW4 : Hid (bytesIn w4 (.slice oy ny cy) X ∧ Below W.heap.size W w4) := by
    refine ⟨listed_kept HW3.out.1 (Nat.le_of_eq hz4.symm) (fun q hq => hk4 q (by have := HF.out q hq; omega)), ?_⟩
    rw [e4]
    exact wset5_below HW3.out.2 (Nat.le_refl _) _ _ _ _ _
  unfold wset5 at e4
  rw [← e4]
  have KA := rahead_any i1 i2 i3 i4 i5 i6 i7 i8 true bg (.slice oy ny cy) X w4 HW4.out.1 (by rw [HNY.out]; omega)
  have H40 := Lib.hid h40
  have H41 := Lib.hid h41
  have u0 := cell_of_block h40 0
  have u1 := cell_of_block h40 1
  have u2 := cell_of_block h40 2
  have u3 := cell_of_block h40 3
  have u4 := cell_of_block h40 4
  have u5 := cell_of_block h40 5
  have hlt4 := (Array.getElem?_eq_some_iff.1 h40).1
  have hlt5 := (Array.getElem?_eq_some_iff.1 h41).1
  have HLT := Lib.hid (And.intro hlt4 hlt5)
  clear e4 hk4 hz4 h40 h41 HW3 H30 H31 r0 r1 r2 r3 r4 t0 t1 t2 t3 t4 t5 f0 f1 f2 f3 f4 f5
  go_wp2_with fail
  go_at_call 42
  refine KA.mono ?_
  clear KA
  rintro e w5 ⟨o5, n5, c5, rfl, HL5, HR5, HB5⟩
  have h50 := (HB5.out.block _ hlt4).trans H40.out
  have h51 := (HB5.out.block _ hlt5).trans H41.out
  have H50 := Lib.hid h50
  have H51 := Lib.hid h51
  have HW5 : Hid (Below W.heap.size W w5) := HW4.out.2.trans (HB5.out.mono HW4.out.2.size)
  have HN5 : Hid (n5 ≤ 300000000) := by
    have h := HL5.out
    rw [List.length_append, HNY.out] at h
    have := headOf_two bg
    show _ ≤ _
    omega
  have t0 := cell_of_block h50 0
  have t1 := cell_of_block h50 1
  have t2 := cell_of_block h50 2
  have t3 := cell_of_block h50 3
  have t4 := cell_of_block h50 4
  have t5 := cell_of_block h50 5
  have f0 := unfrozen_of_block h50 0
  have f1 := unfrozen_of_block h50 1
  have f2 := unfrozen_of_block h50 2
  have f3 := unfrozen_of_block h50 3
  have f4 := unfrozen_of_block h50 4
  have f5 := unfrozen_of_block h50 5
  clear h50 h51 u0 u1 u2 u3 u4 u5 H40 H41
  go_upto_region 6 with fail
  obtain ⟨w6, e6⟩ : ∃ x, x = set6 w5 W.heap.size (.slice i1 i2 i3) (.int .i64 i4) (.slice i5 i6 i7) (.int .i64 i8) (.bool true) (.bool true) := ⟨_, rfl⟩
  have h60 : w6.heap[W.heap.size]? = some (.cells (zcells i1 i2 i3 i4 i5 i6 i7 i8 true true) 67 (0, 0)) := by rw [e6]; exact set6_block H50.out _ _ _ _ _ _
  have hk6 : ∀ q, q ≠ W.heap.size → w6.heap[q]? = w5.heap[q]? := fun q hq => by rw [e6]; exact set6_heap _ _ _ _ _ _ _ _ q hq
  have hz6 : w6.heap.size = w5.heap.size := by rw [e6]; exact set6_size _ _ _ _ _ _ _ _
  have h61 := (hk6 (W.heap.size + 1) (by omega)).trans H51.out
  have HB6 : Hid (Below W.heap.size W w6) := by
    show Below _ _ _
    rw [e6]
    exact set6_below HW5.out (Nat.le_refl _) _ _ _ _ _ _
  have HR6 : Hid (w6.ownsRow w4.heap.size 5 1 (.slice o5 n5 c5) n5 ((headOf bg ++ X).map byteVal) ∧ w4.heap.size ≤ w6.heap.size) := ⟨row_on HR5.out (fun q hq => hk6 q (by have := HLT.out.1; omega)), by rw [hz6]; exact HB5.out.size⟩
  have HA6 : Hid (∀ w' : World, w'.heap = w6.heap → Calls Try.prog 45 #[.int .u32 1, .slice i1 i2 i3] w' fun e w'' => e = .returned (.int .u32 (S : Int)) ∧ w' = w'') := fun w' hw => by
    have h := Ad.ref 1 (.slice i1 i2 i3) all w' (by omega) (listed_kept (listed_on HAV.out.1 HB6.out) (by rw [hw]; exact Nat.le_refl _) (fun b _ => by rw [hw])) H8.out (by have := HAV.out.2; have := HAN.out; omega)
    have hs : Ad.adler 1 all = S := HS.out
    rw [hs] at h
    exact h
  have H60 := Lib.hid h60
  have H61 := Lib.hid h61
  have KX : Hid (∀ (w8 : World) (s8 : Value), Below w6.heap.size w6 w8 → bytesIn w8 s8 (fourOf S) → ∃ o9 n9 c9 w9, (Builtin.append_ #[36, 36] 36 #[.slice o5 n5 c5, s8]).run Try.prog w8 = .ok (.slice o9 n9 c9) w9 ∧ Hid ((headOf bg ++ X ++ fourOf S).length = n9 ∧ w9.ownsRow w4.heap.size 5 1 (.slice o9 n9 c9) n9 ((headOf bg ++ X ++ fourOf S).map byteVal)) ∧ Hid (Below W.heap.size W w9) ∧ w8.heap[W.heap.size]? = some (.cells (zcells i1 i2 i3 i4 i5 i6 i7 i8 true true) 67 (0, 0)) ∧ w9.heap[W.heap.size]? = some (.cells (zcells i1 i2 i3 i4 i5 i6 i7 i8 true true) 67 (0, 0)) ∧ w9.heap[W.heap.size + 1]? = some (.cells zzero 67 (0, 0))) := by
    intro w8 s8 hb8 hs8
    have hrow : w8.ownsRow w4.heap.size 5 1 (.slice o5 n5 c5) n5 ((headOf bg ++ X).map byteVal) := owns_kept HR6.out.1 (fun k hk => hb8.block k (HR6.out.1.lt k hk).2)
    obtain ⟨v', w', hrun, r1, r2⟩ := run_append_bytes w8 w4.heap.size 36 _ _ _ hrow s8 (fourOf S) hs8 (by have := HN5.out; rw [fourOf_length]; omega) (Nat.le_trans HR6.out.2 hb8.size)
    have hb9 : Below w4.heap.size w8 w' := (Below.refl _ _).grown r2 (Nat.le_trans HR6.out.2 hb8.size) (fun q hq => (hrow.lt q hq).1)
    obtain ⟨o, c, ev⟩ := row_shape r1
    subst ev
    have hb0 := (hb8.block W.heap.size (by have := HLT.out.1; have := HR6.out.2; omega)).trans H60.out
    have hb1 := (hb8.block (W.heap.size + 1) (by have := HLT.out.2; have := HR6.out.2; omega)).trans H61.out
    have hsz : w4.heap.size ≤ w6.heap.size := HR6.out.2
    have hWs : W.heap.size ≤ w4.heap.size := Nat.le_of_lt HLT.out.1
    exact ⟨o, _, c, w', hrun, ⟨by rw [List.length_append, HL5.out], r1⟩, HB6.out.trans ((hb8.mono HB6.out.size).trans (hb9.mono hWs)), hb0, (hb9.block _ HLT.out.1).trans hb0, (hb9.block _ HLT.out.2).trans hb1⟩
  have HF9 : Hid (W.heap.size ≤ w4.heap.size ∧ W.heap.size + 2 ≤ w4.heap.size) := ⟨Nat.le_of_lt HLT.out.1, HLT.out.2⟩
  unfold set6 at e6
  rw [← e6]
  have u0 := cell_of_block h60 0
  have u1 := cell_of_block h60 1
  have u2 := cell_of_block h60 2
  have u3 := cell_of_block h60 3
  have u4 := cell_of_block h60 4
  have u5 := cell_of_block h60 5
  clear e6 hk6 hz6 h60 h61 H50 H51 t0 t1 t2 t3 t4 t5 f0 f1 f2 f3 f4 f5 hlt4 hlt5 HR5 HB5 HW4 HW5
  go_region_law (first
    | (refine step_append_eq rfl (.tmp 29) (.tmp 34) 36 rfl (.slice o5 n5 c5) (.slice s8o 4 s8c) (.slice o9 n9 c9) w9 (by simp [Act.eval]) (by simp [Act.eval]) hrun ?_)
    | (go_simp; go_at_call 45; refine (HA6.out w6.drew rfl).mono ?_; rintro e w7 ⟨rfl, rfl⟩)
    | (go_simp; go_at_call 44; refine (rfour_any S _ bS).mono ?_; rintro e w8 ⟨s8, rfl, s1, _, s3⟩; obtain ⟨o9, n9, c9, w9, hrun, HR9, HB9, hb0, hd0, hd1⟩ := KX.out w8 s8 ((Below.refl w6.heap.size w6).drew.trans s3) s1; obtain ⟨s8o, s8c, es8⟩ := listed_length s1; rw [fourOf_length] at es8; subst es8; have b0 := cell_of_block hb0 0; have b1 := cell_of_block hb0 1; have b2 := cell_of_block hb0 2; have b3 := cell_of_block hb0 3; have b4 := cell_of_block hb0 4; have b5 := cell_of_block hb0 5; have d0 := cell_of_block hd0 0; have d1 := cell_of_block hd0 1; have d2 := cell_of_block hd0 2; have d3 := cell_of_block hd0 3; have d4 := cell_of_block hd0 4; have d5 := cell_of_block hd0 5; have y0 := cell_of_block hd1 0; have y1 := cell_of_block hd1 1; have y2 := cell_of_block hd1 2; have y3 := cell_of_block hd1 3; have y4 := cell_of_block hd1 4; have y5 := cell_of_block hd1 5; have z0 := unfrozen_of_block hd1 0; have z1 := unfrozen_of_block hd1 1; have z2 := unfrozen_of_block hd1 2; have z3 := unfrozen_of_block hd1 3; have z4 := unfrozen_of_block hd1 4; have z5 := unfrozen_of_block hd1 5; clear hb0 hd0 hd1 s1 s3))
  all_goals go_wp2_with fail
  all_goals refine bodyPost_ret (v := .tuple #[.agg (zcells i1 i2 i3 i4 i5 i6 i7 i8 true true), .slice o9 n9 c9, .int .i64 0]) (by simp [results, Try.results29, asAddr, Result.andThen, go_sem, y0, y1, y2, y3, y4, y5]) rfl ?_
  all_goals exact zrend_fin HR9.out.1 HR9.out.2 HB9.out HF9.out.1 HF9.out.2 _ _ _ _ _ _
end Go.Proofs.Ytefdlidjdmlnaaa.Fx
