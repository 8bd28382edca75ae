/-
  The walk of far: a match just as far back as may be, and one byte farther. No condition.
-/
import Derived.Test.YtggkmbnogdikkaaDeflNumA
import Derived.Test.YtggkmbnogdikkaaDeflA
namespace Go.Proofs.Ytggkmbnogdikkaa.Fx
open Go Go.RowKit Go.Joins
set_option linter.unusedVariables false
def keyText : ByteArray := ⟨#[113, 119, 101, 114, 116, 121, 117, 105, 111, 112]⟩
theorem keyText_nums : numsOf keyText = keys := by decide
theorem rows_bytes (n : Nat) : ∀ x ∈ rowOf n ++ keys, x < 256 := by
  intro x hx
  rw [List.mem_append] at hx
  rcases hx with hx | hx
  · exact rowOf_bytes n x hx
  · have : ∀ x ∈ keys, x < 256 := by decide
    exact this x hx
theorem whole_small (zs : List Nat) (h : zs.length ≤ 40000) : (wholeOf zs).length ≤ 100000 := by
  have := (whole_length zs).1
  omega
theorem next_far (n L : Nat) (hL : L = 10 + n) (hn : n ≤ 32759) : ∃ S R T : Nat, IntKind.i64.wrap ((L : Int) * (L : Int)) = (S : Int) ∧ (S : Int).tmod 89 = (R : Int) ∧ IntKind.i64.wrap (128 + (R : Int)) = (T : Int) ∧ IntKind.u8.wrap (T : Int) = (T : Int) ∧ Hid (rowOf (n + 1) = rowOf n ++ [T]) := by
  have hS : L * L ≤ 1073807361 := Nat.mul_le_mul (by omega : L ≤ 32769) (by omega : L ≤ 32769)
  refine ⟨L * L, L * L % 89, 128 + L * L % 89, ?_, ?_, ?_, ?_, ?_⟩
  · rw [IntKind.wrap_i64, ← Int.natCast_mul]
    omega
  · rw [Int.tmod_eq_emod_of_nonneg (by omega)]
    omega
  · rw [IntKind.wrap_i64]
    omega
  · simp [IntKind.wrap, IntKind.signed, IntKind.bits]
    omega
  · show _ = _
    rw [rowOf, hL]
def lenOfV : Value → Nat
  | .slice _ n _ => n
  | _ => 0
set_option maxHeartbeats 1600000 in
set_option maxRecDepth 100000 in
theorem far_code (W : World) : Calls Try.prog 12 #[] W fun e w' => e = .returned (.bool true) ∧ Below W.heap.size W w' := by
  have HF1 : Hid ((wholeOf (rowOf 32758 ++ keys)).length ≤ (wholeOf (rowOf 32758)).length + 5) := far_first
  have HF2 : Hid ((wholeOf (rowOf 32759)).length + 9 ≤ (wholeOf (rowOf 32759 ++ keys)).length) := far_second
  obtain ⟨a, ea⟩ : ∃ a, W.heap.size = a := ⟨_, rfl⟩
  have HA := Lib.hid ea
  go_enter Try.func12, Try.ntmps12
  go_wp2_with fail
  obtain ⟨w0, ew0⟩ : ∃ x, x = W.alloc (.cells #[.int .i64 0, .int .i64 0] 68) := ⟨_, rfl⟩
  have HZ0 : Hid (w0.heap[a]? = some (.cells #[.int .i64 0, .int .i64 0] 68 (0, 0)) ∧ Below W.heap.size W w0) := by
    subst ea ew0
    exact ⟨heap_alloc_new W _, (Below.refl _ _).alloc (Nat.le_refl _) _⟩
  rw [← ew0]
  clear ew0
  go_loopw [5] (fun i wr => ∃ (k : Nat) (x0 x1 : Int), k ≤ 2 ∧ i = .int .i64 k ∧ (1 ≤ k → x0 ≤ 5) ∧ (2 ≤ k → 9 ≤ x1) ∧ Hid (wr.heap[a]? = some (.cells #[.int .i64 x0, .int .i64 x1] 68 (0, 0)) ∧ Below W.heap.size W wr)) (fun i _ => 2 - (intOf i).toNat)
  case atStart => exact ⟨0, 0, 0, by omega, rfl, by omega, by omega, HZ0.out⟩
  case round =>
    obtain ⟨k, x0, x1, hk, rfl, hx0, hx1, HX⟩ := hrel
    obtain ⟨V, rfl⟩ : ∃ V, V = wr := ⟨_, rfl⟩
    by_cases hk2 : k < 2
    · have d1 : decide ((k : Int) < 2) = true := decide_eq_true (by omega)
      have d1' : decide (k < 2) = true := decide_eq_true hk2
      obtain ⟨B, eB⟩ : ∃ B, V.heap.size = B := ⟨_, rfl⟩
      have HBB := Lib.hid eB
      have hcv : (convert 25 25 (.slice (some ⟨B, 0, none⟩) 10 10)).run Try.prog (V.alloc (.cells #[.int .u8 113, .int .u8 119, .int .u8 101, .int .u8 114, .int .u8 116, .int .u8 121, .int .u8 117, .int .u8 105, .int .u8 111, .int .u8 112] 5)) = .ok (.slice (some ⟨B, 0, none⟩) 10 10) (V.alloc (.cells #[.int .u8 113, .int .u8 119, .int .u8 101, .int .u8 114, .int .u8 116, .int .u8 121, .int .u8 117, .int .u8 105, .int .u8 111, .int .u8 112] 5 (10, 11))) := run_convert_bytes_const_at V 25 5 _ 10 10 B eB.symm Try.underlying25 Try.underlying5
      obtain ⟨K, eK⟩ : ∃ K, 32768 + k = K := ⟨_, rfl⟩
      have hov : IntKind.i64.wrap (32768 + (k : Int)) = (K : Int) := by rw [IntKind.wrap_i64]; omega
      go_upto_region 6 with fail
      obtain ⟨v1, ev1⟩ : ∃ x, x = V.alloc (.cells #[.int .u8 113, .int .u8 119, .int .u8 101, .int .u8 114, .int .u8 116, .int .u8 121, .int .u8 117, .int .u8 105, .int .u8 111, .int .u8 112] 5 (10, 11)) := ⟨_, rfl⟩
      have HV1 : Hid (RowIs v1 B (.slice (some ⟨B, 0, none⟩) 10 10) 10 (rowOf 0) ∧ Below B V v1) := by
        subst ev1 eB
        exact ⟨row_const V _ keys rfl, (Below.refl _ _).alloc (Nat.le_refl _) _⟩
      rw [← ev1]
      clear ev1 eB hcv
      go_loopw [3] (fun b wz => ∃ n : Nat, n ≤ 32758 + k ∧ lenOfV b = 10 + n ∧ Hid (RowIs wz B b (10 + n) (rowOf n) ∧ (1 ≤ n → wz.ownsRow B 5 1 b (10 + n) ((rowOf n).map byteVal)) ∧ Below B V wz)) (fun b _ => 40000 - lenOfV b)
      case atStart => exact ⟨0, by omega, rfl, HV1.out.1, by omega, HV1.out.2⟩
      case round =>
        obtain ⟨n, hn, hlen, HR⟩ := hrel
        obtain ⟨bo, bl, bc, eb⟩ : ∃ o l c, u3 = .slice o l c := by
          obtain ⟨o, c, h⟩ := HR.out.1.form
          exact ⟨o, _, c, h⟩
        subst eb
        obtain rfl : bl = 10 + n := hlen
        obtain ⟨L, eL⟩ : ∃ L, 10 + n = L := ⟨_, rfl⟩
        rw [eL] at HR ⊢
        have hLn : L = 10 + n := eL.symm
        clear eL
        by_cases hgo : n < 32758 + k
        · have d2 : decide ((L : Int) < (K : Int)) = true := decide_eq_true (by omega)
          have d2' : decide (L < K) = true := decide_eq_true (by omega)
          obtain ⟨S, R, T, q1, q2, q3, q4, HT⟩ := next_far n L hLn (by omega)
          have hBz : B ≤ wr.heap.size := by have := HBB.out; have := HR.out.2.2.size; omega
          have HRA : Hid (RowIs (wr.alloc (.cells #[.int .u8 (T : Int)] 5)) B (.slice bo L bc) L (rowOf n)) := by
            rcases HR.out.1 with h | ⟨h1, h2, h3⟩
            · exact .inl (h.alloc _)
            · exact .inr ⟨h1, listed_on h2 ((Below.refl _ _).alloc (Nat.le_refl _) _), h3⟩
          have HN2 := Lib.hid (And.intro hn (And.intro hgo (And.intro eK hLn)))
          have hL6 : L + 1 ≤ 1000000 := by omega
          have hB6 : B ≤ (wr.alloc (.cells #[.int .u8 (T : Int)] 5)).heap.size := by
            have : wr.heap.size ≤ (wr.alloc (.cells #[.int .u8 (T : Int)] 5)).heap.size := ((Below.refl wr.heap.size wr).alloc (Nat.le_refl _) _).size
            omega
          clear hn hgo eK hLn
          go_wp2_with (at_builtin; refine wpList_append_row rfl _ _ rfl B (.slice bo L bc) L (rowOf n) rfl HRA.out wr.heap.size T rfl (cell_of_block (heap_alloc_new wr _) 0) hL6 hB6 ?_)
          intro v' w5 hown5 hgrow5
          have hbw : Below B V w5 := HR.out.2.2.trans (((Below.refl B wr).alloc hBz _).trans hgrow5)
          obtain ⟨v5o, v5c, ev5⟩ := row_shape hown5
          subst ev5
          have HO5 : Hid (w5.ownsRow B 5 1 (.slice v5o (L + 1) v5c) (10 + (n + 1)) ((rowOf (n + 1)).map byteVal)) := by
            show World.ownsRow _ _ _ _ _ _ _
            have e1 : 10 + (n + 1) = L + 1 := by have := HN2.out; omega
            rw [HT.out, e1, List.map_append]
            exact hown5
          have HB5 := Lib.hid hbw
          clear hown5 hgrow5 hbw HRA HR
          go_wp2_with fail
          go_roundw
          case rel => exact ⟨n + 1, by have := HN2.out; omega, by show L + 1 = _; have := HN2.out; omega, .inl HO5.out, fun _ => HO5.out, HB5.out⟩
          case measure => show 40000 - (L + 1) < 40000 - L; have := HN2.out; omega
        · have d2 : decide ((L : Int) < (K : Int)) = false := decide_eq_false (by omega)
          have d2' : decide (L < K) = false := decide_eq_false (by omega)
          have hnK : n = 32758 + k := by omega
          obtain ⟨o1, o2, o3⟩ := HR.out
          have hown := o2 (by omega)
          have hBz : B ≤ wr.heap.size := by have := HBB.out; have := o3.size; omega
          obtain ⟨Z, eZ⟩ : ∃ Z, rowOf n = Z := ⟨_, rfl⟩
          obtain ⟨X, eX⟩ : ∃ X, (wholeOf (Z ++ keys)).length = X := ⟨_, rfl⟩
          obtain ⟨Y, eY⟩ : ∃ Y, (wholeOf Z).length = Y := ⟨_, rfl⟩
          have hlZ : Z.length = L := by rw [← eZ, rowOf_length]; omega
          have hl1 : (Z ++ keys).length ≤ 40000 := by rw [List.length_append, hlZ]; show L + 10 ≤ 40000; omega
          have hX : X ≤ 100000 := by rw [← eX]; exact whole_small _ hl1
          have hY : Y ≤ 100000 := by rw [← eY]; exact whole_small _ (by omega)
          obtain ⟨D, eD⟩ : ∃ D : Int, (X : Int) - (Y : Int) = D := ⟨_, rfl⟩
          have q5 : IntKind.i64.wrap ((X : Int) - (Y : Int)) = D := by rw [IntKind.wrap_i64]; omega
          have HD : Hid ((k = 0 → D ≤ 5) ∧ (k = 1 → 9 ≤ D)) := by
            refine ⟨fun h => ?_, fun h => ?_⟩
            · obtain rfl : n = 32758 := by omega
              have h1 := HF1.out
              rw [eZ, eX, eY] at h1
              omega
            · obtain rfl : n = 32759 := by omega
              have h1 := HF2.out
              rw [eZ, eX, eY] at h1
              omega
          rw [eZ] at hown
          have H8 : Hid (∀ x ∈ Z ++ keys, x < 256) := by rw [← eZ]; exact rows_bytes n
          have HO := Lib.hid (And.intro hown o3)
          have HLZ := Lib.hid (And.intro hl1 hlZ)
          have HXY := Lib.hid (And.intro eX (And.intro eY (And.intro hX hY)))
          have hL6 : L + keyText.size ≤ 1000000 := by show L + 10 ≤ 1000000; omega
          have hL0 : 0 < L := by omega
          have HKK := Lib.hid (And.intro eK (And.intro hn hLn))
          clear HR o1 o2 o3 hown hl1 hlZ eX eY eD eZ hX hY eK hn hLn hgo hnK
          go_wp2_with (at_builtin; refine wpList_append_text rfl _ _ 25 9 rfl B 5 Try.underlying25 Try.underlying9 infoByte (.slice bo L bc) L Z rfl HO.out.1 hL0 keyText rfl hL6 hBz ?_)
          intro v' w5 j1 j2 j3
          rw [keyText_nums, ← List.map_append] at j1
          have hb5 : Below B V w5 := HO.out.2.grown j3 hBz (fun q hq => (HO.out.1.lt q hq).1)
          obtain ⟨vo, vc, ev⟩ := row_shape j1
          subst ev
          have KW1 := whole_code w5 _ (Z ++ keys) (own_listed j1) H8.out (by have := HLZ.out.1; omega)
          have HJ2 := Lib.hid (own_listed j2)
          have HB5 := Lib.hid hb5
          clear j1 j2 j3 hb5 HO
          go_wp2_with fail
          go_at_call 10
          refine KW1.mono ?_
          rintro e w6 ⟨u6, rfl, hu6, _, hb6⟩
          clear KW1
          obtain ⟨uo, uc, eu⟩ := listed_length hu6
          rw [HXY.out.1] at eu
          subst eu
          have HJ6 := Lib.hid (listed_on HJ2.out hb6)
          have HB6 := Lib.hid (HB5.out.trans (hb6.mono (by have := HBB.out; have := HB5.out.size; omega)))
          clear hu6 hb6
          have KW2 := whole_code w6 _ Z HJ6.out (fun x hx => H8.out x (List.mem_append_left _ hx)) (by have := HLZ.out.2; have := HXY.out; have := hL6; omega)
          go_wp2_with fail
          go_at_call 10
          refine KW2.mono ?_
          rintro e w7 ⟨u7, rfl, hu7, _, hb7⟩
          clear KW2
          obtain ⟨t7, tc, et⟩ := listed_length hu7
          rw [HXY.out.2.1] at et
          subst et
          have hb7' : Below B V w7 := HB6.out.trans (hb7.mono (by have := HBB.out; have := HB6.out.size; omega))
          have haB : a < B := by
            have h1 := HX.out.1
            have h2 := (Array.getElem?_eq_some_iff.1 h1).1
            have := HBB.out
            omega
          have hz7 : w7.heap[a]? = some (.cells #[.int .i64 x0, .int .i64 x1] 68 (0, 0)) := (hb7'.block a haB).trans HX.out.1
          have hW7 : Below W.heap.size W w7 := HX.out.2.trans (hb7'.mono (by have := HBB.out; have := HX.out.2.size; omega))
          have g0 := cell_of_block hz7 0
          have g1 := cell_of_block hz7 1
          have f0 := unfrozen_of_block hz7 0
          have f1 := unfrozen_of_block hz7 1
          clear hu7 hb7
          have HB7 := Lib.hid (And.intro hz7 hW7)
          clear hz7 hW7 hb7' haB HJ6 HB6 HB5 HJ2
          rcases (by omega : k = 0 ∨ k = 1) with rfl | rfl
          · go_wp2_with fail
            go_roundw
            case rel =>
              refine ⟨1, D, x1, by omega, by go_num, fun _ => HD.out.1 (by trivial), by omega, block_setCell HB7.out.1 _, HB7.out.2.setCell (p := ⟨a, 0, none⟩) (by have := HA.out; show _ ≤ a; omega) _⟩
            case measure => simp [intOf]
          · go_wp2_with fail
            go_roundw
            case rel =>
              refine ⟨2, x0, D, by omega, by go_num, fun _ => hx0 (by omega), fun _ => HD.out.2 (by trivial), block_setCell HB7.out.1 _, HB7.out.2.setCell (p := ⟨a, 1, none⟩) (by have := HA.out; show _ ≤ a; omega) _⟩
            case measure => simp [intOf]
    · obtain rfl : k = 2 := by omega
      have d1 : decide ((2 : Int) < 2) = false := by decide
      have y0 := hx0 (by omega)
      have y1 := hx1 (by omega)
      have d3 : decide (x0 < 8) = true := decide_eq_true (by omega)
      have d4 : decide (x0 < x1) = true := decide_eq_true (by omega)
      have g0 := cell_of_block HX.out.1 0
      have g1 := cell_of_block HX.out.1 1
      clear hx0 hx1
      go_wp2_with fail
      go_ret
      exact ⟨rfl, HX.out.2⟩
end Go.Proofs.Ytggkmbnogdikkaa.Fx
