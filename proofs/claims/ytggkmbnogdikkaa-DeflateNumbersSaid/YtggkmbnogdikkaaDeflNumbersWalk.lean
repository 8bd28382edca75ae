/-
  The walk of DeflateNumbers. No condition.
-/
import Derived.Test.YtggkmbnogdikkaaDeflNumB
import Derived.Test.YtggkmbnogdikkaaDeflRefWhole
namespace Go.Proofs.Ytggkmbnogdikkaa.Fx
open Go Go.RowKit Go.Joins
set_option linter.unusedVariables false
theorem next_gap (i : Nat) (hi : i ≤ 4000) : ∃ A B C D E F : Nat, IntKind.i64.wrap ((i : Int) * 7) = (A : Int) ∧ (A : Int).tmod 97 = (B : Int) ∧ IntKind.i64.wrap (128 + (B : Int)) = (C : Int) ∧ (i : Int).tdiv 97 = (D : Int) ∧ IntKind.i64.wrap (D : Int) = (D : Int) ∧ IntKind.i64.wrap ((C : Int) + (D : Int)) = (E : Int) ∧ IntKind.u8.wrap (E : Int) = (F : Int) ∧ F < 256 := by
  refine ⟨i * 7, i * 7 % 97, 128 + i * 7 % 97, i / 97, 128 + i * 7 % 97 + i / 97, (128 + i * 7 % 97 + i / 97) % 256, ?_, ?_, ?_, ?_, ?_, ?_, ?_, by omega⟩
  · rw [IntKind.wrap_i64]; omega
  · rw [Int.tmod_eq_emod_of_nonneg (by omega)]; omega
  · rw [IntKind.wrap_i64]; omega
  · rw [Int.tdiv_eq_ediv_of_nonneg (by omega)]; omega
  · rw [IntKind.wrap_i64]; omega
  · rw [IntKind.wrap_i64]; omega
  · simp [IntKind.wrap, IntKind.signed, IntKind.bits]
theorem add_size (r : ByteArray) (h : r.size ≤ 10000) : ((⟨#[97, 97, 97, 98]⟩ : ByteArray) ++ r).size ≤ 20000 := by
  rw [ByteArray.size_append]
  show 4 + r.size ≤ 20000
  omega
/-- A row of nine strings, each of few bytes. -/
def TextsAt (w : World) (a : Nat) : Prop := ∀ j, j < 9 → ∃ s : ByteArray, w.cell? ⟨a, j, none⟩ = some (.string s) ∧ s.size ≤ 20000
theorem texts_on {w w' : World} {a : Nat} (h : TextsAt w a) (hb : Below w.heap.size w w') : TextsAt w' a := fun j hj => by
  obtain ⟨s, h1, h2⟩ := h j hj
  exact ⟨s, (hb.cell (World.block_lt_of_cell? w _ h1)).trans h1, h2⟩
theorem texts_new (w : World) (s0 s1 s2 s3 s4 s5 s6 s7 s8 : ByteArray) (h0 : s0.size ≤ 20000) (h1 : s1.size ≤ 20000) (h2 : s2.size ≤ 20000) (h3 : s3.size ≤ 20000) (h4 : s4.size ≤ 20000) (h5 : s5.size ≤ 20000) (h6 : s6.size ≤ 20000) (h7 : s7.size ≤ 20000) (h8 : s8.size ≤ 20000) :
    TextsAt (w.alloc (.cells #[.string s0, .string s1, .string s2, .string s3, .string s4, .string s5, .string s6, .string s7, .string s8] 9)) w.heap.size := by
  intro j hj
  have hc := cell_of_block (heap_alloc_new w (.cells #[.string s0, .string s1, .string s2, .string s3, .string s4, .string s5, .string s6, .string s7, .string s8] 9))
  match j, hj with
  | 0, _ => exact ⟨s0, hc 0, h0⟩
  | 1, _ => exact ⟨s1, hc 1, h1⟩
  | 2, _ => exact ⟨s2, hc 2, h2⟩
  | 3, _ => exact ⟨s3, hc 3, h3⟩
  | 4, _ => exact ⟨s4, hc 4, h4⟩
  | 5, _ => exact ⟨s5, hc 5, h5⟩
  | 6, _ => exact ⟨s6, hc 6, h6⟩
  | 7, _ => exact ⟨s7, hc 7, h7⟩
  | 8, _ => exact ⟨s8, hc 8, h8⟩
  | j + 9, hj => omega
/-- A row of nine numbers, none above 4000, none below 2. -/
def GapsAt (w : World) (a : Nat) : Prop := ∀ j, j < 9 → ∃ g : Nat, w.cell? ⟨a, j, none⟩ = some (.int .i64 (g : Int)) ∧ 2 ≤ g ∧ g ≤ 4000
theorem gaps_on {w w' : World} {a : Nat} (h : GapsAt w a) (hb : Below w.heap.size w w') : GapsAt w' a := fun j hj => by
  obtain ⟨s, h1, h2⟩ := h j hj
  exact ⟨s, (hb.cell (World.block_lt_of_cell? w _ h1)).trans h1, h2⟩
theorem gaps_new (w : World) : GapsAt (w.alloc (.cells #[.int .i64 2, .int .i64 3, .int .i64 4, .int .i64 7, .int .i64 100, .int .i64 300, .int .i64 1000, .int .i64 2100, .int .i64 4000] 3)) w.heap.size := by
  intro j hj
  have hc := cell_of_block (heap_alloc_new w (.cells #[.int .i64 2, .int .i64 3, .int .i64 4, .int .i64 7, .int .i64 100, .int .i64 300, .int .i64 1000, .int .i64 2100, .int .i64 4000] 3))
  match j, hj with
  | 0, _ => exact ⟨2, hc 0, by omega, by omega⟩
  | 1, _ => exact ⟨3, hc 1, by omega, by omega⟩
  | 2, _ => exact ⟨4, hc 2, by omega, by omega⟩
  | 3, _ => exact ⟨7, hc 3, by omega, by omega⟩
  | 4, _ => exact ⟨100, hc 4, by omega, by omega⟩
  | 5, _ => exact ⟨300, hc 5, by omega, by omega⟩
  | 6, _ => exact ⟨1000, hc 6, by omega, by omega⟩
  | 7, _ => exact ⟨2100, hc 7, by omega, by omega⟩
  | 8, _ => exact ⟨4000, hc 8, by omega, by omega⟩
  | j + 9, hj => omega
set_option maxHeartbeats 1600000 in
set_option maxRecDepth 100000 in
theorem numbers_law (W : World) : Calls Try.prog 3 #[] W fun e w' => e = .returned (.bool true) ∧ Below W.heap.size W w' := by
  go_enter Try.func3, Try.ntmps3
  have K1 := rep_any ⟨#[97]⟩ 259
  have K2 := rep_any ⟨#[97]⟩ 260
  have K3 := rep_any ⟨#[97, 98, 99]⟩ 100
  have K4 := rep_any ⟨#[97]⟩ 4096
  have K5 := rep_any ⟨#[97]⟩ 4097
  have K6 := rep_any ⟨#[97, 98]⟩ 4500
  have K7 := rep_any ⟨#[98]⟩ 300
  go_upto_region 1 with fail
  go_wp2_with fail
  go_at_call 8
  refine (K1 W (by decide) (by decide)).mono ?_
  rintro e w1 ⟨r1, rfl, z1, b1⟩
  go_wp2_with fail
  go_at_call 8
  refine (K2 w1 (by decide) (by decide)).mono ?_
  rintro e w2 ⟨r2, rfl, z2, b2⟩
  go_wp2_with fail
  go_at_call 8
  refine (K3 w2 (by decide) (by decide)).mono ?_
  rintro e w3 ⟨r3, rfl, z3, b3⟩
  go_wp2_with fail
  go_at_call 8
  refine (K4 w3 (by decide) (by decide)).mono ?_
  rintro e w4 ⟨r4, rfl, z4, b4⟩
  go_wp2_with fail
  go_at_call 8
  refine (K5 w4 (by decide) (by decide)).mono ?_
  rintro e w5 ⟨r5, rfl, z5, b5⟩
  go_wp2_with fail
  go_at_call 8
  refine (K6 w5 (by decide) (by decide)).mono ?_
  rintro e w6 ⟨r6, rfl, z6, b6⟩
  go_wp2_with fail
  go_at_call 8
  refine (K7 w6 (by decide) (by decide)).mono ?_
  rintro e w7 ⟨r7, rfl, z7, b7⟩
  clear K1 K2 K3 K4 K5 K6 K7
  have z8 := add_size r7 z7
  have HW7 : Hid (Below W.heap.size W w7) := by
    have c1 := b1.out
    have c2 := c1.trans (b2.out.mono c1.size)
    have c3 := c2.trans (b3.out.mono c2.size)
    have c4 := c3.trans (b4.out.mono c3.size)
    have c5 := c4.trans (b5.out.mono c4.size)
    have c6 := c5.trans (b6.out.mono c5.size)
    exact c6.trans (b7.out.mono c6.size)
  clear b1 b2 b3 b4 b5 b6 b7
  obtain ⟨a, ea⟩ : ∃ a, w7.heap.size = a := ⟨_, rfl⟩
  go_wp2_with fail
  obtain ⟨w8, ew8⟩ : ∃ x, x = w7.alloc (.cells #[.string r1, .string r2, .string r3, .string r4, .string r5, .string r6, .string ⟨#[97, 98, 99, 100, 101, 97, 98, 99, 100, 120, 97, 98, 99, 100, 101]⟩, .string ⟨#[97, 97, 97, 97]⟩, .string (⟨#[97, 97, 97, 98]⟩ ++ r7)] 9) := ⟨_, rfl⟩
  have HT8 : Hid (TextsAt w8 a ∧ Below W.heap.size W w8) := by
    subst ea ew8
    exact ⟨texts_new w7 _ _ _ _ _ _ _ _ _ (by omega) (by omega) (by omega) (by omega) (by omega) (by omega) (by decide) (by decide) z8, HW7.out.alloc HW7.out.size _⟩
  rw [← ew8]
  clear ew8 ea z1 z2 z3 z4 z5 z6 z7 z8 HW7
  go_loopw [17] (fun i wr => ∃ k : Nat, k ≤ 9 ∧ i = .int .i64 k ∧ Hid (TextsAt wr a ∧ Below W.heap.size W wr)) (fun i _ => 9 - (intOf i).toNat)
  case atStart => exact ⟨0, by omega, rfl, HT8.out⟩
  case round =>
    obtain ⟨k, hk, rfl, HT⟩ := hrel
    obtain ⟨V, rfl⟩ : ∃ V, V = wr := ⟨_, rfl⟩
    by_cases hk2 : k < 9
    · have d1 : decide ((k : Int) < 9) = true := decide_eq_true (by omega)
      have d1' : decide (k < 9) = true := decide_eq_true hk2
      obtain ⟨s, hc, hs⟩ := HT.out.1 k hk2
      obtain ⟨x1, v1, c1, hx1, _, hb1⟩ := run_bytes s V
      have hlen : (numsOf s).length ≤ 20000 := by rw [numsOf_length]; exact hs
      have H8 := Lib.hid (numsOf_lt s)
      have HL := Lib.hid hlen
      have HX1 := Lib.hid (And.intro hx1 hb1)
      clear hx1 hb1 hlen hs
      go_wp2_with fail
      go_at_call 10
      refine (whole_code v1 x1 (numsOf s) HX1.out.1 H8.out (by have := HL.out; omega)).mono ?_
      rintro e v2 ⟨u2, rfl, hu2, _, hb2⟩
      obtain ⟨x3, v3, c3, hx3, _, hb3⟩ := run_bytes s v2
      have HU3 := Lib.hid (listed_on hu2 hb3)
      have HX3 := Lib.hid hx3
      have HB3 := Lib.hid ((HX1.out.2.trans (hb2.mono HX1.out.2.size)).trans (hb3.mono (Nat.le_trans HX1.out.2.size hb2.size)))
      clear hu2 hb2 hx3 hb3
      go_wp2_with fail
      go_at_call 11
      refine (rwhole_any v3 x3 (numsOf s) HX3.out H8.out (by have := HL.out; omega)).mono ?_
      rintro e v4 ⟨u4, rfl, hu4, hb4⟩
      have HU4 := Lib.hid (And.intro (listed_on HU3.out hb4) hu4)
      have HB4 := Lib.hid (HB3.out.trans (hb4.mono HB3.out.size))
      clear hu4 hb4
      go_wp2_with fail
      go_at_call 9
      refine (same_yes u2 u4 (wholeOf (numsOf s)) v4 HU4.out.1 HU4.out.2).mono ?_
      rintro e v5 ⟨rfl, rfl⟩
      have HT4 : Hid (TextsAt v4 a ∧ Below W.heap.size W v4) := ⟨texts_on HT.out.1 HB4.out, HT.out.2.trans (HB4.out.mono HT.out.2.size)⟩
      go_wp2_with fail
      go_roundw
      case rel => exact ⟨k + 1, by omega, by go_num, HT4.out⟩
      case measure => simp [intOf]; omega
    · obtain rfl : k = 9 := by omega
      have d1 : decide ((9 : Int) < 9) = false := by decide
      obtain ⟨c, ec⟩ : ∃ c, V.heap.size = c := ⟨_, rfl⟩
      have hB0 := HT.out.2
      clear HT8
      go_wp2_with fail
      obtain ⟨v1, ev1⟩ : ∃ x, x = V.alloc (.cells #[.int .i64 2, .int .i64 3, .int .i64 4, .int .i64 7, .int .i64 100, .int .i64 300, .int .i64 1000, .int .i64 2100, .int .i64 4000] 3) := ⟨_, rfl⟩
      have HG1 : Hid (GapsAt v1 c ∧ Below W.heap.size W v1) := by
        subst ec ev1
        exact ⟨gaps_new V, hB0.alloc hB0.size _⟩
      rw [← ev1]
      clear ev1 ec hB0 HT
      go_loopw [35] (fun i wr => ∃ k : Nat, k ≤ 9 ∧ i = .int .i64 k ∧ Hid (GapsAt wr c ∧ Below W.heap.size W wr)) (fun i _ => 9 - (intOf i).toNat)
      case atStart => exact ⟨0, by omega, rfl, HG1.out⟩
      case round =>
        obtain ⟨k, hk, rfl, HG⟩ := hrel
        obtain ⟨V, rfl⟩ : ∃ V, V = wr := ⟨_, rfl⟩
        by_cases hk2 : k < 9
        · have d1 : decide ((k : Int) < 9) = true := decide_eq_true (by omega)
          have d1' : decide (k < 9) = true := decide_eq_true hk2
          obtain ⟨g, hc, hg2, hg4⟩ := HG.out.1 k hk2
          obtain ⟨B, eB⟩ : ∃ B, V.heap.size = B := ⟨_, rfl⟩
          have HBB := Lib.hid eB
          have hcv : (convert 25 25 (.slice (some ⟨B, 0, none⟩) 7 7)).run Try.prog (V.alloc (.cells #[.int .u8 120, .int .u8 121, .int .u8 122, .int .u8 120, .int .u8 121, .int .u8 122, .int .u8 33] 5)) = .ok (.slice (some ⟨B, 0, none⟩) 7 7) (V.alloc (.cells #[.int .u8 120, .int .u8 121, .int .u8 122, .int .u8 120, .int .u8 121, .int .u8 122, .int .u8 33] 5 (7, 8))) := run_convert_bytes_const_at V 25 5 _ 7 7 B eB.symm Try.underlying25 Try.underlying5
          go_upto_region 12 with fail
          obtain ⟨v1, ev1⟩ : ∃ x, x = V.alloc (.cells #[.int .u8 120, .int .u8 121, .int .u8 122, .int .u8 120, .int .u8 121, .int .u8 122, .int .u8 33] 5 (7, 8)) := ⟨_, rfl⟩
          have HV1 : Hid (RowIs v1 B (.slice (some ⟨B, 0, none⟩) 7 7) 7 [120, 121, 122, 120, 121, 122, 33] ∧ Below B V v1) := by
            subst ev1 eB
            exact ⟨row_const V _ [120, 121, 122, 120, 121, 122, 33] rfl, (Below.refl _ _).alloc (Nat.le_refl _) _⟩
          rw [← ev1]
          clear ev1 eB hcv hc
          go_loopw [5, 6] (fun b i wr => ∃ (n : Nat) (zs : List Nat), n ≤ g ∧ i = .int .i64 n ∧ zs.length = 7 + n ∧ Hid (RowIs wr B b (7 + n) zs ∧ (1 ≤ n → wr.ownsRow B 5 1 b (7 + n) (zs.map byteVal)) ∧ (∀ x ∈ zs, x < 256) ∧ Below B V wr)) (fun _ i _ => g - (intOf i).toNat)
          case atStart => exact ⟨0, _, by omega, rfl, rfl, HV1.out.1, by omega, by decide, HV1.out.2⟩
          case round =>
            obtain ⟨n, zs, hn, rfl, hlen, HR⟩ := hrel
            obtain ⟨bo, bc, eb⟩ := HR.out.1.form
            subst eb
            obtain ⟨bl, eL⟩ : ∃ L, 7 + n = L := ⟨_, rfl⟩
            rw [eL] at HR hlen ⊢
            by_cases hgo : n < g
            · have d2 : decide ((n : Int) < (g : Int)) = true := decide_eq_true (by omega)
              have d2' : decide (n < g) = true := decide_eq_true hgo
              obtain ⟨A, B1, C, D, E, F, q1, q2, q3, q4, q4', q5, q6, hF⟩ := next_gap n (by omega)
              have hBz : B ≤ wr.heap.size := by have := HBB.out; have := HR.out.2.2.2.size; omega
              have HRA : Hid (RowIs (wr.alloc (.cells #[.int .u8 (F : Int)] 5)) B (.slice bo bl bc) bl zs) := by
                rcases HR.out.1 with h | ⟨h1, h2, h3⟩
                · exact .inl (h.alloc _)
                · exact .inr ⟨h1, listed_on h2 ((Below.refl _ _).alloc (Nat.le_refl _) _), h3⟩
              have hL6 : bl + 1 ≤ 1000000 := by omega
              have hB6 : B ≤ (wr.alloc (.cells #[.int .u8 (F : Int)] 5)).heap.size := by
                have : wr.heap.size ≤ (wr.alloc (.cells #[.int .u8 (F : Int)] 5)).heap.size := ((Below.refl wr.heap.size wr).alloc (Nat.le_refl _) _).size
                omega
              have HNL := Lib.hid (And.intro eL (And.intro hlen hF))
              clear eL hlen hF
              go_wp2_with (at_builtin; refine wpList_append_row rfl _ _ rfl B (.slice bo bl bc) bl zs rfl HRA.out wr.heap.size F rfl (cell_of_block (heap_alloc_new wr _) 0) hL6 hB6 ?_)
              intro v' w5 hown5 hgrow5
              have hbw : Below B V w5 := HR.out.2.2.2.trans (((Below.refl B wr).alloc hBz _).trans hgrow5)
              obtain ⟨v5o, v5c, ev5⟩ := row_shape hown5
              subst ev5
              have HO5 : Hid (w5.ownsRow B 5 1 (.slice v5o (bl + 1) v5c) (7 + (n + 1)) ((zs ++ [F]).map byteVal)) := by
                show World.ownsRow _ _ _ _ _ _ _
                have e1 : 7 + (n + 1) = bl + 1 := by have := HNL.out; omega
                rw [e1, List.map_append]
                exact hown5
              have HB5 := Lib.hid hbw
              have H8 : Hid (∀ x ∈ zs ++ [F], x < 256) := by
                intro x hx
                rw [List.mem_append, List.mem_singleton] at hx
                rcases hx with hx | rfl
                · exact HR.out.2.2.1 x hx
                · exact HNL.out.2.2
              clear hown5 hgrow5 hbw HRA HR
              go_wp2_with fail
              go_roundw
              case rel =>
                refine ⟨_, _, _, _, _, _, _, _, _, _, _, _, _, _, _, _, _, _, ?h0, rfl⟩
                case h0 => exact ⟨n + 1, zs ++ [F], by omega, by go_num, by rw [List.length_append, HNL.out.2.1]; show bl + 1 = _; have := HNL.out; omega, .inl HO5.out, fun _ => HO5.out, H8.out, HB5.out⟩
              case measure => simp [intOf]; omega
            · have d2 : decide ((n : Int) < (g : Int)) = false := decide_eq_false (by omega)
              have d2' : decide (n < g) = false := decide_eq_false hgo
              obtain rfl : n = g := by omega
              obtain ⟨o1, o2, o3, o4⟩ := HR.out
              have hown := o2 (by omega)
              have hBz : B ≤ wr.heap.size := by have := HBB.out; have := o4.size; omega
              have HO := Lib.hid (And.intro hown (And.intro o3 o4))
              have hL6 : bl + (⟨#[120, 121, 122, 120, 121, 122]⟩ : ByteArray).size ≤ 1000000 := by show bl + 6 ≤ 1000000; omega
              have hL0 : 0 < bl := by omega
              have HNL := Lib.hid (And.intro eL hlen)
              clear HR o1 o2 o3 o4 hown eL hlen
              go_upto_region 15 with fail
              go_wp2_with (at_builtin; refine wpList_append_text rfl _ _ 25 9 rfl B 5 Try.underlying25 Try.underlying9 infoByte (.slice bo bl bc) bl zs rfl HO.out.1 hL0 ⟨#[120, 121, 122, 120, 121, 122]⟩ rfl hL6 hBz ?_)
              intro v' w5 j1 j2 j3
              obtain ⟨Z, eZ⟩ : ∃ Z, zs ++ numsOf ⟨#[120, 121, 122, 120, 121, 122]⟩ = Z := ⟨_, rfl⟩
              have hZ8 : ∀ x ∈ Z, x < 256 := by
                rw [← eZ]
                intro x hx
                rw [List.mem_append] at hx
                rcases hx with hx | hx
                · exact HO.out.2.1 x hx
                · exact numsOf_lt _ x hx
              have hZl : Z.length ≤ 20000 := by
                rw [← eZ, List.length_append, numsOf_length, HNL.out.2]
                show bl + 6 ≤ 20000
                have := HNL.out.1
                omega
              rw [← List.map_append, eZ] at j1
              obtain ⟨vo, vc, ev⟩ := row_shape j1
              subst ev
              have HZ := Lib.hid (And.intro (own_listed j1) (And.intro hZ8 hZl))
              have HB5 : Hid (Below B V w5) := HO.out.2.2.grown j3 hBz (fun q hq => (HO.out.1.lt q hq).1)
              clear j1 j2 j3 eZ hZ8 hZl HO
              go_wp2_with fail
              go_at_call 10
              refine (whole_code w5 _ Z HZ.out.1 HZ.out.2.1 (by have := HZ.out.2.2; omega)).mono ?_
              rintro e w6 ⟨u2, rfl, hu2, _, hb6⟩
              have HU6 := Lib.hid (And.intro hu2 (listed_on HZ.out.1 hb6))
              have HB6 : Hid (Below B V w6) := HB5.out.trans (hb6.mono (by have := HBB.out; have := HB5.out.size; omega))
              clear hu2 hb6
              go_wp2_with fail
              go_at_call 11
              refine (rwhole_any w6 _ Z HU6.out.2 HZ.out.2.1 (by have := HZ.out.2.2; omega)).mono ?_
              rintro e w7 ⟨u4, rfl, hu4, hb7⟩
              have HU7 := Lib.hid (And.intro (listed_on HU6.out.1 hb7) hu4)
              have HB7 : Hid (Below B V w7) := HB6.out.trans (hb7.mono (by have := HBB.out; have := HB6.out.size; omega))
              clear hu4 hb7
              go_wp2_with fail
              go_at_call 9
              refine (same_yes u2 u4 (wholeOf Z) w7 HU7.out.1 HU7.out.2).mono ?_
              rintro e w8 ⟨rfl, rfl⟩
              have HG7 : Hid (GapsAt w7 c ∧ Below W.heap.size W w7) := by
                have hb := HB7.out
                rw [← HBB.out] at hb
                exact ⟨gaps_on HG.out.1 hb, HG.out.2.trans (hb.mono HG.out.2.size)⟩
              go_wp2_with fail
              go_roundw
              case rel =>
                (repeat apply Exists.intro)
                refine ⟨?h0, rfl⟩
                exact ⟨k + 1, by omega, by go_num, HG7.out⟩
              case measure => simp [intOf]; omega
        · obtain rfl : k = 9 := by omega
          have d1 : decide ((9 : Int) < 9) = false := by decide
          go_wp2_with fail
          go_at_call 12
          refine (far_code V).mono ?_
          rintro e v2 ⟨rfl, hb2⟩
          go_wp2_with fail
          go_at_call 13
          refine (awake_any v2).mono ?_
          rintro e v3 ⟨rfl, hb3⟩
          have HB3 := Lib.hid (HG.out.2.trans ((hb2.trans (hb3.mono hb2.size)).mono HG.out.2.size))
          clear hb2 hb3
          go_wp2_with fail
          go_ret
          exact ⟨rfl, HB3.out⟩
end Go.Proofs.Ytggkmbnogdikkaa.Fx
