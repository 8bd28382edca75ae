/-
  The document's own answers of layer 6: Write. The conditions stand in it.
-/
import Derived.Test.YtggkmbnogdikkaaDeflK
import Derived.Test.YtggkmbnogdikkaaBitsO
namespace Go.Proofs.Ytggkmbnogdikkaa.Fx
open Go Go.RowKit Go.Joins
set_option linter.unusedVariables false
theorem blocksOf_len (all : List Nat) (j : Nat) (h : 4096 * j ≤ all.length) : (blocksOf all j).length ≤ 8 * (all.length + 5 * j) := by
  have := blocksOf_length all j h
  omega
theorem info8' : (Try.prog.info? 5).map (fun i => (i.zero, i.size, i.bytes)) = some (some (.int .u8 0), 1, 1) := by kernel_rfl
theorem row1_shape {w : World} {base : Nat} {e : TypeId} {v : Value} {n : Nat} {xs : List Value} (h : w.ownsRow base e 1 v n xs) : ∃ o cap, v = .slice o n cap := by
  rcases h.2 with ⟨rfl, rfl⟩ | ⟨g, cap, cur, rfl, _⟩
  · exact ⟨none, 0, rfl⟩
  · exact ⟨_, cap, rfl⟩
theorem set5_heap (w : World) (B : Nat) (x0 x1 x2 x3 x4 : Value) (q : Nat) (hq : q ≠ B) : (((((w.setCell ⟨B, 0, none⟩ x0).setCell ⟨B, 1, none⟩ x1).setCell ⟨B, 2, none⟩ x2).setCell ⟨B, 3, none⟩ x3).setCell ⟨B, 4, none⟩ x4).heap[q]? = w.heap[q]? := by
  rw [Below.heap_setCell _ _ _ q hq, Below.heap_setCell _ _ _ q hq, Below.heap_setCell _ _ _ q hq, Below.heap_setCell _ _ _ q hq, Below.heap_setCell _ _ _ q hq]
set_option maxHeartbeats 2000000 in
set_option maxRecDepth 100000 in
theorem rwrite_any (av lv b : Value) (all zs : List Nat) (W : World) (ha : bytesIn W av all) (h8 : ∀ x ∈ all ++ zs, x < 256) (hl : bools W lv (outOf all)) (hb : bytesIn W b zs) (hz : (all ++ zs).length ≤ 1000000) :
    Calls Try.prog 17 #[.agg #[av, .int .i64 ((4096 * fullOf all.length : Nat) : Int), lv, .int .i64 (((outOf all).length / 8 : Nat) : Int), .bool false], b] W fun e w' =>
      ∃ av' lv' u, e = .returned (.tuple #[.agg #[av', .int .i64 ((4096 * fullOf (all ++ zs).length : Nat) : Int), lv', .int .i64 (((outOf (all ++ zs)).length / 8 : Nat) : Int), .bool false], u, .int .i64 0]) ∧ bytesIn w' av' (all ++ zs) ∧ bools w' lv' (outOf (all ++ zs)) ∧ bytesIn w' u (bytesAt (outOf (all ++ zs)) ((outOf all).length / 8) ((outOf (all ++ zs)).length / 8 - (outOf all).length / 8)) ∧
        (∀ q, inBlock av' q → W.heap.size ≤ q) ∧ (∀ q, inBlock lv' q → lv' = lv ∨ W.heap.size ≤ q) ∧ (∀ q, inBlock u q → W.heap.size ≤ q) ∧ Below W.heap.size W w' ∧ w'.ownsRow W.heap.size 5 1 u ((outOf (all ++ zs)).length / 8 - (outOf all).length / 8) ((bytesAt (outOf (all ++ zs)) ((outOf all).length / 8) ((outOf (all ++ zs)).length / 8 - (outOf all).length / 8)).map byteVal) := by
  obtain ⟨ao, ac, rfl⟩ := listed_length ha
  obtain ⟨lo, lc, rfl⟩ := listed_length hl
  obtain ⟨bo, bc, rfl⟩ := listed_length hb
  have HA := Lib.hid ha
  have HL := Lib.hid hl
  have HBZ := Lib.hid hb
  have H8 := Lib.hid h8
  obtain ⟨A, eA⟩ : ∃ A, 4096 * fullOf all.length = A := ⟨_, rfl⟩
  obtain ⟨T, eT⟩ : ∃ A, (outOf all).length / 8 = A := ⟨_, rfl⟩
  obtain ⟨n, en⟩ : ∃ A, all.length = A := ⟨_, rfl⟩
  obtain ⟨m, em⟩ : ∃ A, zs.length = A := ⟨_, rfl⟩
  obtain ⟨ln, eln⟩ : ∃ A, (outOf all).length = A := ⟨_, rfl⟩
  have eN : (all ++ zs).length = n + m := by rw [List.length_append, en, em]
  have HZ : Hid (n + m ≤ 1000000) := by
    show _ ≤ _
    rw [eN] at hz
    exact hz
  have EA := Lib.hid eA
  have ET := Lib.hid eT
  have EN := Lib.hid en
  have EM := Lib.hid em
  have ELN := Lib.hid eln
  have ENM := Lib.hid eN
  rw [eA, eT]
  rw [en] at HA ⊢
  rw [em] at HBZ ⊢
  rw [eln] at HL ⊢
  clear eA eT en em eln eN
  obtain ⟨w1, e1, hs1, hB0, hB1, hbl⟩ := two_blocks5 W 36 (.slice ao n ac) (.int .i64 (A : Int)) (.slice lo ln lc) (.int .i64 (T : Int)) (.bool false) (.slice none 0 0) (.int .i64 0) (.slice none 0 0) (.int .i64 0) (.bool false)
  clear ha hl hb h8 hz
  have q0 := cell_of_block hB0 0
  have q1 := cell_of_block hB0 1
  have q2 := cell_of_block hB0 2
  have q3 := cell_of_block hB0 3
  have q4 := cell_of_block hB0 4
  have f0 := unfrozen_of_block hB0 0
  have HB0 := Lib.hid hB0
  have HB1 := Lib.hid hB1
  have HBL := Lib.hid hbl
  have HS1 := Lib.hid hs1
  have HR1 := Lib.hid (listed_on HA.out hbl)
  clear hB0 hB1 hbl hs1
  go_enter Try.func17, Try.ntmps17
  go_upto_region 4 with fail
  rw [← e1]
  clear e1
  go_wp2_with (at_builtin; refine wpList_append_listed (c := byteVal) rfl _ _ 25 rfl w1.heap.size 5 (.int .u8 0) Try.underlying25 info8' rfl (fun _ => rfl) (.slice none 0 0) 0 [] rfl (World.ownsRow_nil _ _ _ _) _ all rfl HR1.out (by rw [EN.out]; have := HZ.out; omega) (Nat.le_refl _) ?_)
  intro v2 w2 hown hgrow
  rw [EN.out] at hown
  have hb2 : Below w1.heap.size w1 w2 := (Below.refl _ _).grown hgrow (Nat.le_refl _) (fun q hq => by simp [Value.ownBlock] at hq)
  obtain ⟨o2, c2, rfl⟩ := row1_shape hown
  have HO2 := Lib.hid hown
  have HB2 := Lib.hid hb2
  have hq0 := (hb2.block W.heap.size (by have := HS1.out; omega)).trans HB0.out
  clear q0 q1 q2 q3 q4 f0 hown hgrow hb2
  have q0 := cell_of_block hq0 0
  have f0 := unfrozen_of_block hq0 0
  have HR2 : Hid (bytesIn w2 (.slice bo m bc) zs) := listed_on HBZ.out (HBL.out.trans (HB2.out.mono HBL.out.size))
  go_upto_region 5 with fail
  go_wp2_with (at_builtin; refine wpList_append_listed (c := byteVal) rfl _ _ 25 rfl w1.heap.size 5 (.int .u8 0) Try.underlying25 info8' rfl (fun _ => rfl) (.slice o2 n c2) n all rfl HO2.out _ zs rfl HR2.out (by rw [EM.out]; have := HZ.out; omega) HB2.out.size ?_)
  intro v3 w3 hown hgrow
  have hb3 : Below w1.heap.size w2 w3 := (Below.refl _ _).grown hgrow HB2.out.size (fun q hq => (HO2.out.lt q hq).1)
  rw [EM.out] at hown
  obtain ⟨o3, c3, rfl⟩ := row1_shape hown
  have hq3 := (hb3.block W.heap.size (by have := HS1.out; omega)).trans hq0
  have hr3 := (hb3.block (W.heap.size + 1) (by have := HS1.out; omega)).trans ((HB2.out.block (W.heap.size + 1) (by have := HS1.out; omega)).trans HB1.out)
  have HO3 := Lib.hid hown
  have HB3 := Lib.hid hb3
  clear q0 f0 hown hgrow hb3 hq0
  have q0 := cell_of_block hq3 0
  have f0 := unfrozen_of_block hq3 0
  have hn0 : Hid ((w3.setCell ⟨W.heap.size, 0, none⟩ (.slice o3 (n + m) c3)).heap[W.heap.size]? = some (.cells #[.slice o3 (n + m) c3, .int .i64 (A : Int), .slice lo ln lc, .int .i64 (T : Int), .bool false] 36 (0, 0))) := block_setCell hq3 _
  obtain ⟨N, eNN⟩ : ∃ N, n + m = N := ⟨_, rfl⟩
  rw [eNN] at HO3 hn0 HZ ENM ⊢
  have HNN := Lib.hid eNN
  clear eNN
  go_upto_block 0 with fail
  clear f0 q0
  obtain ⟨x, ex⟩ : ∃ x, x = w3.setCell ⟨W.heap.size, 0, none⟩ (.slice o3 N c3) := ⟨_, rfl⟩
  have HBX : Hid (Below W.heap.size W x) := by
    rw [ex]
    exact ((HBL.out.trans (HB2.out.mono HBL.out.size)).trans (HB3.out.mono HBL.out.size)).setCell (p := ⟨W.heap.size, 0, none⟩) (Nat.le_refl _) _
  have HX1 : Hid (x.heap[W.heap.size + 1]? = some (.cells #[.slice none 0 0, .int .i64 0, .slice none 0 0, .int .i64 0, .bool false] 36 (0, 0))) := by
    show _ = _
    rw [ex, Below.heap_setCell _ _ _ _ (by show W.heap.size + 1 ≠ W.heap.size; omega)]
    exact hr3
  have HIN : Hid (∀ q, inBlock (.slice o3 N c3) q → w1.heap.size ≤ q) := by
    rintro q ⟨of, nn, cc, h, _⟩
    exact (HO3.out.lt q (by rw [h]; rfl)).1
  have HXL : Hid (bytesIn x (.slice o3 N c3) (all ++ zs)) := by
    have h0 : listed byteVal w3 (.slice o3 N c3) (all ++ zs) := own_listed (by rw [List.map_append]; exact HO3.out)
    rw [ex]
    refine listed_kept h0 (by simp) (fun q hq => Below.heap_setCell _ _ _ _ ?_)
    have := HIN.out q hq
    have := HS1.out
    show q ≠ W.heap.size
    omega
  rw [← ex] at hn0 ⊢
  have HXB : Hid (bools x (.slice lo ln lc) (outOf all)) := listed_on HL.out HBX.out
  have HLI : Hid (∀ q, inBlock (.slice lo ln lc) q → q < W.heap.size) := fun q hq => bools_in HL.out hq
  have hN := HZ.out
  have HAF : Hid (4096 * fullOf n = A ∧ 4096 * fullOf n ≤ n ∧ A ≤ N ∧ blocksOf (all ++ zs) (fullOf n) = outOf all) := by
    have h1 := EA.out
    rw [EN.out] at h1
    have h2 : 4096 * fullOf n ≤ n := by unfold fullOf; omega
    refine ⟨h1, h2, by have := HNN.out; omega, ?_⟩
    rw [blocksOf_local _ _ _ (by rw [EN.out]; exact h2)]
    unfold outOf
    rw [EN.out]
  have hAN := HAF.out.2.2.1
  have HXA := Lib.hid hn0
  clear ex hq3 hr3 hn0
  go_wp2_with fail
  go_loopw [25] (fun _ wr => ∃ (a k l : Nat) (o : Option Addr) (c : Nat), a ≤ N ∧ Hid (4096 * k = a ∧ fullOf n ≤ k ∧ (k = fullOf n ∨ a < N)) ∧ Hid ((blocksOf (all ++ zs) k).length = l) ∧ Hid (wr.heap[W.heap.size]? = some (.cells #[.slice o3 N c3, .int .i64 (a : Int), .slice o l c, .int .i64 (T : Int), .bool false] 36 (0, 0))) ∧ Hid (wr.heap[W.heap.size + 1]? = some (.cells #[.slice none 0 0, .int .i64 0, .slice none 0 0, .int .i64 0, .bool false] 36 (0, 0))) ∧ Hid (bytesIn wr (.slice o3 N c3) (all ++ zs) ∧ bools wr (.slice o l c) (blocksOf (all ++ zs) k) ∧ (∀ q, inBlock (.slice o l c) q → q ≠ W.heap.size ∧ q ≠ W.heap.size + 1 ∧ (.slice o l c = Value.slice lo ln lc ∨ W.heap.size ≤ q)) ∧ Below W.heap.size W wr)) (fun _ wr => N - (intOf ((wr.cell? ⟨W.heap.size, 1, none⟩).getD (.int .i64 0))).toNat)
  case atStart =>
    refine ⟨A, fullOf n, ln, lo, lc, hAN, Lib.hid ⟨HAF.out.1, Nat.le_refl _, .inl rfl⟩, ?_, HXA, HX1, Lib.hid ⟨HXL.out, ?_, fun q hq => ?_, HBX.out⟩⟩
    · show _ = _
      rw [HAF.out.2.2.2]
      exact ELN.out
    · rw [HAF.out.2.2.2]
      exact HXB.out
    · have := HLI.out q hq
      exact ⟨by omega, by omega, .inl rfl⟩
  case round =>
    obtain ⟨a, k, l, o, c, haN, HK, HLL, HC0, HC1, HV⟩ := hrel
    have q0 := cell_of_block HC0.out 0
    have q1 := cell_of_block HC0.out 1
    have q2 := cell_of_block HC0.out 2
    have q3 := cell_of_block HC0.out 3
    have q4 := cell_of_block HC0.out 4
    have hw1 : IntKind.i64.wrap ((N : Int) - (a : Int)) = (N : Int) - (a : Int) := by rw [IntKind.wrap_i64]; omega
    by_cases hgo : a + 4096 < N
    · have d1 : decide ((4096 : Int) < (N : Int) - (a : Int)) = true := decide_eq_true (by omega)
      obtain ⟨b, eb⟩ : ∃ b, a + 4096 = b := ⟨_, rfl⟩
      have hab : (a : Int) + 4096 = (b : Int) := by omega
      have hk1 : Hid (4096 * (k + 1) = b ∧ blocksOf (all ++ zs) (k + 1) = blockOf (blocksOf (all ++ zs) k) (all ++ zs) a b 0) := by
        have h1 := HK.out.1
        refine ⟨by omega, ?_⟩
        rw [blocksOf, h1, show 4096 * (k + 1) = b by omega]
      have hll : (blocksOf (all ++ zs) k).length ≤ 549755813888 := by
        have h1 := HK.out.1
        have h2 := blocksOf_length (all ++ zs) k (by rw [ENM.out]; omega)
        have h3 : k ≤ 1000000 := by omega
        omega
      have KB := wblock_any (.slice o3 N c3) (.slice o l c) (all ++ zs) (blocksOf (all ++ zs) k) a b 0 T false wr HV.out.1 H8.out HV.out.2.1 (by omega) (by rw [ENM.out]; omega) (by omega) (by rw [ENM.out]; omega) hll (by omega)
      rw [← hk1.out.2] at KB
      have hkb := hk1.out.1
      have hbN : b < N := by omega
      have hB := (Array.getElem?_eq_some_iff.1 HC0.out).1
      have hB1 := (Array.getElem?_eq_some_iff.1 HC1.out).1
      have HBB := Lib.hid (And.intro hB hB1)
      have HKB := Lib.hid hkb
      clear hk1 hll hkb hB hB1 eb
      go_wp2_with fail
      go_at_call 36
      refine KB.mono ?_
      rintro e w4 ⟨u, rfl, v1, v2, v3⟩
      obtain ⟨o', c', rfl⟩ := listed_length v1
      obtain ⟨l', el'⟩ : ∃ l', (blocksOf (all ++ zs) (k + 1)).length = l' := ⟨_, rfl⟩
      rw [el'] at v1 v2 ⊢
      have HL' := Lib.hid el'
      have V1 := Lib.hid v1
      have V2 := Lib.hid v2
      have V3 := Lib.hid v3
      have hD0 := (v3.block W.heap.size HBB.out.1).trans HC0.out
      have HD0 := Lib.hid hD0
      have f0 := unfrozen_of_block hD0 0
      have f1 := unfrozen_of_block hD0 1
      have f2 := unfrozen_of_block hD0 2
      have f3 := unfrozen_of_block hD0 3
      have f4 := unfrozen_of_block hD0 4
      have g0 := cell_of_block hD0 0
      have g1 := cell_of_block hD0 1
      have g2 := cell_of_block hD0 2
      have g3 := cell_of_block hD0 3
      have g4 := cell_of_block hD0 4
      clear v1 v2 v3 hD0 el' KB
      go_wp2_with fail
      go_roundw
      case rel =>
        refine ⟨b, k + 1, l', o', c', by omega, Lib.hid ⟨HKB.out, by have := HK.out.2.1; omega, .inr hbN⟩, HL', Lib.hid (block_setCell (block_setCell (block_setCell (block_setCell (block_setCell HD0.out _) _) _) _) _), ?_, Lib.hid ⟨?_, ?_, fun q hq => ?_, ?_⟩⟩
        · show _ = _
          rw [set5_heap _ _ _ _ _ _ _ _ (by omega)]
          exact (V3.out.block _ HBB.out.2).trans HC1.out
        · refine listed_kept (listed_on HV.out.1 V3.out) (by simp) (fun q hq => set5_heap _ _ _ _ _ _ _ _ ?_)
          have := HIN.out q hq
          have := HS1.out
          omega
        · refine listed_kept V1.out (by simp) (fun q hq => set5_heap _ _ _ _ _ _ _ _ ?_)
          have := V2.out q hq
          have := HBB.out.1
          omega
        · have h1 := V2.out q hq
          have h2 := HBB.out
          exact ⟨by omega, by omega, .inr (by omega)⟩
        · exact (((((HV.out.2.2.2.trans (V3.out.mono HV.out.2.2.2.size)).setCell (p := ⟨W.heap.size, 0, none⟩) (Nat.le_refl _) _).setCell (p := ⟨W.heap.size, 1, none⟩) (Nat.le_refl _) _).setCell (p := ⟨W.heap.size, 2, none⟩) (Nat.le_refl _) _).setCell (p := ⟨W.heap.size, 3, none⟩) (Nat.le_refl _) _).setCell (p := ⟨W.heap.size, 4, none⟩) (Nat.le_refl _) _
      case measure =>
        rw [q1, cell_of_block (block_setCell (block_setCell (block_setCell (block_setCell (block_setCell HD0.out _) _) _) _) _) 1]
        simp [intOf]
        omega
    · have d1 : decide ((4096 : Int) < (N : Int) - (a : Int)) = false := decide_eq_false (by omega)
      have hkN : k = fullOf N := by
        have h1 := HK.out
        have h2 := HAF.out
        have h3 := HNN.out
        unfold fullOf at h1 h2 ⊢
        omega
      have HOUT : Hid (blocksOf (all ++ zs) k = outOf (all ++ zs) ∧ 4096 * fullOf N = a) := by
        refine ⟨?_, by have := HK.out.1; rw [← hkN]; exact this⟩
        unfold outOf
        rw [ENM.out, hkN]
      rw [HOUT.out.1] at HLL HV
      have hlT : 8 * T ≤ (outOf (all ++ zs)).length := by
        have h1 := ET.out
        obtain ⟨y, hy⟩ := outOf_more all zs
        rw [hy, List.length_append]
        omega
      have hlm : (outOf (all ++ zs)).length ≤ 1099511627000 := by
        have h1 := HK.out.1
        have h2 := blocksOf_length (all ++ zs) k (by rw [ENM.out]; omega)
        have h3 : k ≤ 1000000 := by omega
        rw [HOUT.out.1] at h2
        omega
      have KT := rtake_own (.slice o l c) (outOf (all ++ zs)) T wr HV.out.2.1 hlm hlT
      clear hkN hlT hlm
      have HBB := Lib.hid (And.intro (Array.getElem?_eq_some_iff.1 HC0.out).1 (Array.getElem?_eq_some_iff.1 HC1.out).1)
      go_wp2_with fail
      go_at_call 37
      refine KT.mono ?_
      rintro e w5 ⟨u, rfl, v1, v2, v4, v3⟩
      obtain ⟨uo, uc, rfl⟩ := listed_length v1
      obtain ⟨ul, eul⟩ : ∃ x, (bytesAt (outOf (all ++ zs)) T ((outOf (all ++ zs)).length / 8 - T)).length = x := ⟨_, rfl⟩
      obtain ⟨T', eT'⟩ : ∃ x, (outOf (all ++ zs)).length / 8 = x := ⟨_, rfl⟩
      rw [eul] at v1 v2 v4 ⊢
      rw [eT'] at v1 v4 ⊢
      have V4 := Lib.hid v4
      have V1 := Lib.hid v1
      have V2 := Lib.hid v2
      have V3 := Lib.hid v3
      have ET' := Lib.hid eT'
      have HD0 := Lib.hid ((v3.block W.heap.size HBB.out.1).trans HC0.out)
      have HD1 := Lib.hid ((v3.block (W.heap.size + 1) HBB.out.2).trans HC1.out)
      have f2 := unfrozen_of_block HD0.out 2
      have f3 := unfrozen_of_block HD0.out 3
      clear v1 v2 v3 v4 eT' eul KT q0 q1 q2 q3 q4
      go_upto_region 9 with fail
      obtain ⟨x6, ex6⟩ : ∃ x, x = w5.alloc (.cells #[.slice o l c, .int .i64 (T' : Int)] 34) := ⟨_, rfl⟩
      have HB6 : Hid (Below w5.heap.size w5 x6) := by
        show Below _ _ _
        rw [ex6]
        exact (Below.refl _ _).alloc (Nat.le_refl _) _
      have hA9 : x6.heap[w5.heap.size]? = some (.cells #[.slice o l c, .int .i64 (T' : Int)] 34 (0, 0)) := by
        rw [ex6]
        show (w5.heap.push _)[w5.heap.size]? = _
        simp
      have O6 : Hid (x6.ownsRow wr.heap.size 5 1 (.slice uo ul uc) (T' - T) ((bytesAt (outOf (all ++ zs)) T (T' - T)).map byteVal)) := by
        show World.ownsRow _ _ _ _ _ _ _
        rw [ex6]
        exact V4.out.alloc _
      have HWR : Hid (W.heap.size + 1 < wr.heap.size) := HBB.out.2
      rw [← ex6]
      clear ex6 f2 f3 V4
      have hlt0 : W.heap.size < w5.heap.size := Nat.lt_of_lt_of_le HBB.out.1 V3.out.size
      have hlt1 : W.heap.size + 1 < w5.heap.size := Nat.lt_of_lt_of_le HBB.out.2 V3.out.size
      have hA0 := (HB6.out.block W.heap.size hlt0).trans HD0.out
      have hA1 := (HB6.out.block (W.heap.size + 1) hlt1).trans HD1.out
      have L6 : Hid (bytesIn x6 (.slice o3 N c3) (all ++ zs)) := listed_on (listed_on HV.out.1 V3.out) HB6.out
      have M6 : Hid (bools x6 (.slice o l c) (outOf (all ++ zs))) := listed_on (listed_on HV.out.2.1 V3.out) HB6.out
      have U6 : Hid (bytesIn x6 (.slice uo ul uc) (bytesAt (outOf (all ++ zs)) T (T' - T))) := listed_on V1.out HB6.out
      have HB6W : Hid (Below W.heap.size W x6) := (HV.out.2.2.2.trans (V3.out.mono HV.out.2.2.2.size)).trans (HB6.out.mono (Nat.le_of_lt hlt0))
      have HU : Hid (∀ q, inBlock (.slice uo ul uc) q → W.heap.size + 1 < q) := fun q hq => Nat.lt_of_lt_of_le HBB.out.2 (V2.out q hq)
      obtain ⟨g9, eg9⟩ : ∃ g, w5.heap.size = g := ⟨_, rfl⟩
      rw [eg9] at hA9 hlt0 hlt1 ⊢
      have n9 : ¬ g9 = W.heap.size := by omega
      have n9' : ¬ W.heap.size = g9 := by omega
      have c90 := cell_of_block hA9 0
      have c91 := cell_of_block hA9 1
      have f2 := unfrozen_of_block hA0 2
      have f3 := unfrozen_of_block hA0 3
      have q2 := cell_of_block hA0 2
      have q3 := cell_of_block hA0 3
      have HA1 := Lib.hid hA1
      have HA0 : Hid (((x6.setCell ⟨W.heap.size, 2, none⟩ (.slice o l c)).setCell ⟨W.heap.size, 3, none⟩ (.int .i64 (T' : Int))).heap[W.heap.size]? = some (.cells #[.slice o3 N c3, .int .i64 (a : Int), .slice o l c, .int .i64 (T' : Int), .bool false] 36 (0, 0))) := block_setCell (block_setCell hA0 _) _
      clear hA9 hA0 hA1 eg9 V1 V2 V3 HB6 HD0 HD1 HBB hlt0 hlt1
      go_upto_region 10 with fail
      obtain ⟨x7, ex7⟩ : ∃ x, x = (x6.setCell ⟨W.heap.size, 2, none⟩ (.slice o l c)).setCell ⟨W.heap.size, 3, none⟩ (.int .i64 (T' : Int)) := ⟨_, rfl⟩
      have HK7 : Hid (∀ q, q ≠ W.heap.size → x7.heap[q]? = x6.heap[q]?) := fun q hq => by rw [ex7, Below.heap_setCell _ _ _ q hq, Below.heap_setCell _ _ _ q hq]
      have hs7 : x7.heap.size = x6.heap.size := by rw [ex7]; simp
      have HB7 : Hid (Below W.heap.size W x7) := by
        show Below _ _ _
        rw [ex7]
        exact (HB6W.out.setCell (p := ⟨W.heap.size, 2, none⟩) (Nat.le_refl _) _).setCell (p := ⟨W.heap.size, 3, none⟩) (Nat.le_refl _) _
      have O7 : Hid (x7.ownsRow wr.heap.size 5 1 (.slice uo ul uc) (T' - T) ((bytesAt (outOf (all ++ zs)) T (T' - T)).map byteVal)) := by
        show World.ownsRow _ _ _ _ _ _ _
        rw [ex7]
        have hlt := HWR.out
        exact ownsRow_setCell_below (ownsRow_setCell_below O6.out (by show W.heap.size < _; omega) _) (by show W.heap.size < _; omega) _
      rw [← ex7] at HA0 ⊢
      clear ex7 f2 f3 q2 q3 c90 c91 n9 n9'
      have hE1 := (HK7.out (W.heap.size + 1) (by omega)).trans HA1.out
      have HI3 : Hid (∀ q, inBlock (.slice o3 N c3) q → W.heap.size + 1 < q) := fun q hq => by
        have := HIN.out q hq
        have := HS1.out
        omega
      have L7 : Hid (bytesIn x7 (.slice o3 N c3) (all ++ zs)) := listed_kept L6.out (Nat.le_of_eq hs7.symm) (fun q hq => HK7.out q (by have := HI3.out q hq; omega))
      have M7 : Hid (bools x7 (.slice o l c) (outOf (all ++ zs))) := listed_kept M6.out (Nat.le_of_eq hs7.symm) (fun q hq => HK7.out q (HV.out.2.2.1 q hq).1)
      have U7 : Hid (bytesIn x7 (.slice uo ul uc) (bytesAt (outOf (all ++ zs)) T (T' - T))) := listed_kept U6.out (Nat.le_of_eq hs7.symm) (fun q hq => HK7.out q (by have := HU.out q hq; omega))
      have q0 := cell_of_block HA0.out 0
      have q1 := cell_of_block HA0.out 1
      have q2 := cell_of_block HA0.out 2
      have q3 := cell_of_block HA0.out 3
      have q4 := cell_of_block HA0.out 4
      have p0 := cell_of_block hE1 0
      have p1 := cell_of_block hE1 1
      have p2 := cell_of_block hE1 2
      have p3 := cell_of_block hE1 3
      have p4 := cell_of_block hE1 4
      have e0 := unfrozen_of_block hE1 0
      have e1 := unfrozen_of_block hE1 1
      have e2 := unfrozen_of_block hE1 2
      have e3 := unfrozen_of_block hE1 3
      have e4 := unfrozen_of_block hE1 4
      clear hE1 hs7
      go_wp2_with fail
      refine bodyPost_ret (v := .tuple #[.agg #[.slice o3 N c3, .int .i64 (a : Int), .slice o l c, .int .i64 (T' : Int), .bool false], .slice uo ul uc, .int .i64 0]) ?_ rfl ⟨.slice o3 N c3, .slice o l c, .slice uo ul uc, by rw [ENM.out, HOUT.out.2, ET'.out], ?_, ?_, ?_, fun q hq => by have := HI3.out q hq; omega, fun q hq => (HV.out.2.2.1 q hq).2.2, fun q hq => by have := HU.out q hq; omega, ?_, ?_⟩
      · simp [results, Try.results17, asAddr, Result.andThen, go_sem, p0, p1, p2, p3, p4]
      · exact listed_kept L7.out (by simp) (fun q hq => set5_heap _ _ _ _ _ _ _ _ (by have := HI3.out q hq; omega))
      · exact listed_kept M7.out (by simp) (fun q hq => set5_heap _ _ _ _ _ _ _ _ (HV.out.2.2.1 q hq).2.1)
      · rw [ET'.out]
        exact listed_kept U7.out (by simp) (fun q hq => set5_heap _ _ _ _ _ _ _ _ (by have := HU.out q hq; omega))
      · exact ((((HB7.out.setCell (p := ⟨W.heap.size + 1, 0, none⟩) (Nat.le_succ _) _).setCell (p := ⟨W.heap.size + 1, 1, none⟩) (Nat.le_succ _) _).setCell (p := ⟨W.heap.size + 1, 2, none⟩) (Nat.le_succ _) _).setCell (p := ⟨W.heap.size + 1, 3, none⟩) (Nat.le_succ _) _).setCell (p := ⟨W.heap.size + 1, 4, none⟩) (Nat.le_succ _) _
      · rw [ET'.out]
        have hlt := HWR.out
        exact World.ownsRow.mono (ownsRow_setCell_below (ownsRow_setCell_below (ownsRow_setCell_below (ownsRow_setCell_below (ownsRow_setCell_below O7.out hlt _) hlt _) hlt _) hlt _) hlt _) (by omega)
end Go.Proofs.Ytggkmbnogdikkaa.Fx
