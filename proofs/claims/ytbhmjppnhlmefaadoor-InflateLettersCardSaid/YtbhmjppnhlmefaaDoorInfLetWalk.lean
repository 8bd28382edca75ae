/-
  The walk of InflateLetters. The conditions are that the list reads as bytes, and that the order lies as the text lays it.
-/
import Derived.Test.YtbhmjppnhlmefaaDoorInfZ
import Derived.Test.YtbhmjppnhlmefaaDoorInfQ
import Derived.Test.YtbhmjppnhlmefaaDoorInfCutWalk
namespace Go.Proofs.YtbhmjppnhlmefaaDoor.Fx
open Go Go.RowKit Go.Joins
set_option linter.unusedVariables false
theorem isW_at {w : World} {v : Value} {l : List Bool} {t : Nat} {O : Nat → Prop} (h : isW w v l t O) : ∃ a, v = .pointer a := by
  obtain ⟨g1, g2, s, hh, _⟩ := h
  exact ⟨_, hh.val⟩
set_option maxHeartbeats 4000000 in
set_option maxRecDepth 100000 in
theorem let_main (W : World) (bv : Value) (zs : List Nat) (hb : bytesIn W bv zs) (h8 : ∀ x ∈ zs, x < 256) (hlen : zs.length ≤ 300) (hl : LaidOrder W) :
    Calls Tryd.prog 6 #[bv] W fun e w' => e = .returned (.bool true) ∧ Below W.heap.size W w' := by
  obtain ⟨bo, bc, ebv⟩ := listed_length hb
  subst ebv
  obtain ⟨N, eN⟩ : ∃ n, zs.length = n := ⟨_, rfl⟩
  have HN := Lib.hid eN
  have HL := Lib.hid hl
  have HC : Hid (∀ k, k < N → ∃ b off x, bo = some ⟨b, off, none⟩ ∧ b < W.heap.size ∧ W.cell? ⟨b, off + k, none⟩ = some (.int .u8 ((x : Nat) : Int)) ∧ x < 256 ∧ zs[k]? = some x) := by
    intro k hk
    have hx : zs[k]? = some (zs[k]'(by omega)) := List.getElem?_eq_getElem _
    obtain ⟨b, off, cap, eb, hblt, hcell⟩ := listed_cell hb k _ hx
    simp only [Value.slice.injEq] at eb
    exact ⟨b, off, _, eb.1, hblt, hcell, h8 _ (List.getElem_mem _), hx⟩
  rw [eN] at hlen ⊢
  obtain ⟨cs, ecs⟩ : ∃ cs, zs.map (fun x => x % 144) = cs := ⟨_, rfl⟩
  have HCS : Hid ((∀ c ∈ cs, c < 144) ∧ cs.length = N) := by
    rw [← ecs]
    refine ⟨fun c hc => ?_, by rw [List.length_map, eN]⟩
    obtain ⟨x, _, rfl⟩ := List.mem_map.1 hc
    exact Nat.mod_lt _ (by decide)
  have HG : Hid (∀ (k x : Nat), zs[k]? = some x → cs.take (k + 1) = cs.take k ++ [x % 144]) := by
    intro k x hx
    rw [← ecs, List.take_add_one, List.getElem?_map, hx]
    rfl
  have d0 : decide ((300 : Int) < (N : Int)) = false := decide_eq_false (by omega)
  clear hb h8 hl eN ecs
  go_enter Tryd.func6, Tryd.ntmps6
  go_wp2_with fail
  go_at_call 15
  refine (wnew_any W).mono ?_
  rintro e w1 ⟨v, O1, rfl, k1, k2, k3⟩
  obtain ⟨va, rfl⟩ := isW_at k1
  have HT1 : Hid (LetIs W (.pointer va) (.slice none 0 0) [] [] w1) := ⟨O1, k1, k2, World.ownsRow_nil _ _ _ _, fun k hk => (by cases hk), k3⟩
  clear k1 k2 k3
  go_wp2_with fail
  go_at_call 16
  refine (let_put HT1.out 3 3 (by decide) (by decide) (by decide)).mono ?_
  rintro e w2 ⟨rfl, HT2⟩
  clear HT1
  go_wp2_with fail
  go_loopw [4, 5, 6] (fun e av i wr => ∃ k : Nat, k ≤ N ∧ i = .int .i64 k ∧ e = .int .i64 0 ∧ Hid (LetIs W (.pointer va) av (bitsOf 3 3 ++ letBits (cs.take k)) (cs.take k) wr)) (fun _ _ i _ => N - (intOf i).toNat)
  case atStart => exact ⟨0, Nat.zero_le _, rfl, rfl, HT2.out⟩
  case round =>
    obtain ⟨k, hk, rfl, rfl, HT⟩ := hrel
    have HBW : Hid (Below W.heap.size W wr) := HT.out.below
    have HCL : Hid (∀ c ∈ cs.take k, c < 144) := fun c hc => HCS.out.1 c (List.mem_of_mem_take hc)
    have HKL : Hid ((cs.take k).length = k) := by
      show _ = _
      rw [List.length_take, HCS.out.2]
      omega
    have HBL : Hid ((bitsOf 3 3 ++ letBits (cs.take k)).length = 3 + 8 * k) := by
      show _ = _
      rw [List.length_append, let_length _ HCL.out, HKL.out, bitsOf_length]
    by_cases hkl : k < N
    · have d1 : decide ((k : Int) < (N : Int)) = true := decide_eq_true (by omega)
      have d1' : decide (k < N) = true := decide_eq_true hkl
      obtain ⟨b, off, x, ebo, hblt, hcell, hx8, hget⟩ := HC.out k hkl
      subst ebo
      have hcr := (HBW.out.cell (p := ⟨b, off + k, none⟩) hblt).trans hcell
      have HGK := Lib.hid (HG.out k x hget)
      obtain ⟨c, ec⟩ : ∃ c, x % 144 = c := ⟨_, rfl⟩
      have hc : c < 144 := by omega
      have hm : (x : Int).tmod 144 = (c : Int) := by
        rw [Int.tmod_eq_emod_of_nonneg (by omega)]
        omega
      have hwc : IntKind.u8.wrap (c : Int) = (c : Int) := by
        simp [IntKind.wrap, IntKind.signed, IntKind.bits]
        omega
      rw [ec] at HGK
      obtain ⟨V, eV⟩ : ∃ V, 48 + c = V := ⟨_, rfl⟩
      have HV := Lib.hid eV
      have hV : V < 192 := by omega
      have hwV : IntKind.u8.wrap (48 + (c : Int)) = (V : Int) := by
        simp [IntKind.wrap, IntKind.signed, IntKind.bits]
        omega
      clear hcell hget ec eV
      go_wp2_with (at_builtin; refine wpList_append_to (c := byteVal) rfl _ _ 22 rfl 5 (.int .u8 0) 1 Tryd.underlying22 infoByte rfl (fun _ => rfl) u5 _ (cs.take k) rfl (HT.out.row.alloc _) (.slice (some ⟨wr.heap.size, 0, none⟩) 1 1) [c] rfl (row_new (w := wr) (vals := #[.int .u8 (c : Int)]) (zs := [c]) (n := 1) (.inl rfl) rfl rfl).1 (by have := HKL.out; simp only [List.length_cons, List.length_nil]; unfold maxLen; omega) (by have := HKL.out; simp only [List.length_cons, List.length_nil]; omega) ?_)
      intro av2 w3 j1 j2 j3
      have HT3 : Hid (LetIs W (.pointer va) av2 (bitsOf 3 3 ++ letBits (cs.take k)) (cs.take k ++ [c]) w3) := let_append HT.out _ List.length_append.symm (by simpa using j1) j2 (fun k hk => (j3 k hk).elim .inl (fun h => .inr (by simpa using h)))
      clear j1 j2 j3 hcr
      go_wp2_with fail
      go_loopw [8, 9] (fun t i w => ∃ j : Nat, j ≤ 8 ∧ i = .int .i64 j ∧ t = .int .u32 (rev V j : Nat) ∧ w = w3) (fun _ i _ => 8 - (intOf i).toNat)
      case atStart => exact ⟨0, Nat.zero_le _, rfl, rfl, rfl⟩
      case round =>
        obtain ⟨j, hj, rfl, rfl, rfl⟩ := hrel
        by_cases hj8 : j < 8
        · have e1 : decide ((j : Int) < 8) = true := decide_eq_true (by omega)
          have e1' : decide (j < 8) = true := decide_eq_true hj8
          have hXl := rev_low V j
          have hp2 : 2 ^ j ≤ 2 ^ 7 := Nat.pow_le_pow_right (by decide) (by omega)
          have hr1 : rev V (j + 1) = 2 * rev V j + V / 2 ^ j % 2 := rfl
          obtain ⟨X, eX⟩ : ∃ X, rev V j = X := ⟨_, rfl⟩
          obtain ⟨S, eS⟩ : ∃ S, V / 2 ^ j = S := ⟨_, rfl⟩
          have hS : S ≤ V := by rw [← eS]; exact Nat.div_le_self _ _
          have hSc : (V : Int) / 2 ^ j = (S : Int) := by
            rw [← eS, Int.natCast_ediv]
            simp
          rw [eX] at hXl hr1 ⊢
          rw [eS] at hr1
          have hX : X < 128 := by omega
          obtain ⟨R, eR⟩ : ∃ R, S % 2 = R := ⟨_, rfl⟩
          have hand := and_low S (by omega)
          rw [eR] at hr1 hand
          have hor := or_low X R hX (by omega)
          obtain ⟨D, eD⟩ : ∃ D, 2 * X = D := ⟨_, rfl⟩
          rw [eD] at hor hr1
          have hsh : IntKind.u32.wrap ((X : Int) * 2) = (D : Int) := by
            simp [IntKind.wrap, IntKind.signed, IntKind.bits]
            omega
          have hwS : IntKind.u32.wrap (S : Int) = (S : Int) := by
            simp [IntKind.wrap, IntKind.signed, IntKind.bits]
            omega
          obtain ⟨Y, eY⟩ : ∃ Y, D + R = Y := ⟨_, rfl⟩
          rw [eY] at hor hr1
          have HR1 := Lib.hid hr1
          clear eX eS eR eD eY hr1 hp2 hXl
          go_wp2_with fail
          go_roundw
          case rel => exact ⟨j + 1, by omega, by go_num, by rw [HR1.out], trivial⟩
          case measure => simp [intOf]; omega
        · have e1 : decide ((j : Int) < 8) = false := decide_eq_false (by omega)
          have e1' : decide (j < 8) = false := decide_eq_false hj8
          obtain rfl : j = 8 := by omega
          have hrb : bitsOf (rev V 8) 8 = fixedSym c := by rw [← HV.out]; exact rev_bits c hc
          have hrl := rev_low V 8
          obtain ⟨X, eX⟩ : ∃ X, rev V 8 = X := ⟨_, rfl⟩
          rw [eX] at hrb hrl ⊢
          have KPUT := let_put HT3.out X 8 (by rw [HBL.out]; omega) (by decide) hrl
          rw [hrb] at KPUT
          clear eX hrb
          go_wp2_with fail
          go_at_call 16
          refine KPUT.mono ?_
          clear KPUT
          rintro e w4 ⟨rfl, HT4⟩
          have HT5 : Hid (LetIs W (.pointer va) av2 (bitsOf 3 3 ++ letBits (cs.take (k + 1))) (cs.take (k + 1)) w4) := by
            have h := HT4.out
            rw [List.append_assoc] at h
            rw [HGK.out]
            have e : letBits (cs.take k ++ [c]) = letBits (cs.take k) ++ fixedSym c := by
              unfold letBits
              rw [List.flatMap_append]
              simp
            rw [e]
            exact h
          clear HT4
          go_wp2_with fail
          go_roundw
          case rel => exact ⟨k + 1, by omega, by go_num, rfl, HT5⟩
          case measure => simp [intOf]; omega
    · have d1 : decide ((k : Int) < (N : Int)) = false := decide_eq_false (by omega)
      have d1' : decide (k < N) = false := decide_eq_false hkl
      have hT : cs.take k = cs := List.take_of_length_le (by rw [HCS.out.2]; omega)
      rw [hT] at HT HBL
      have HBL3 : Hid ((letAll cs).length = 10 + 8 * N) := by
        show _ = _
        rw [let_all_length cs HCS.out.1, HCS.out.2]
      clear hT HKL HCL
      go_wp2_with fail
      go_at_call 16
      refine (let_put HT.out 0 7 (by rw [HBL.out]; omega) (by decide) (by decide)).mono ?_
      rintro e w3 ⟨rfl, HT3⟩
      have HT3' : Hid (LetIs W (.pointer va) u5 (letAll cs) cs w3) := HT3.out
      clear HT3
      go_wp2_with fail
      go_at_call 17
      refine (let_align HT3'.out (by rw [HBL3.out]; omega)).mono ?_
      rintro e w4 ⟨rfl, HT4⟩
      have HAL : Hid ((aligned (letAll cs)).length ≤ 100000) := by
        show _ ≤ _
        rw [aligned_length, HBL3.out]
        omega
      obtain ⟨ao, ac, eav⟩ := row_shape HT4.out.row
      rw [HCS.out.2] at eav
      subst eav
      go_wp2_with fail
      go_at_call 18
      refine (let_take HT4.out (by have := HAL.out; omega)).mono ?_
      rintro e w5 ⟨u, rfl, HX, HA, HB5⟩
      have hsay := letters_bytes cs HCS.out.1
      have hcnt := letters_count cs HCS.out.1
      rw [HCS.out.2] at hsay hcnt
      obtain ⟨xs, exs⟩ : ∃ xs, bytesAt (aligned (letAll cs)) 0 ((aligned (letAll cs)).length / 8) = xs := ⟨_, rfl⟩
      have hx8 : ∀ x ∈ xs, x < 256 := by
        rw [← exs]
        exact bytesAt_bytes _ _ _
      rw [exs] at HX hsay hcnt
      obtain ⟨uo, uc, eu⟩ := listed_length HX.out
      rw [hcnt.1] at eu
      subst eu
      obtain ⟨K, eK⟩ : ∃ K, N + 2 = K := ⟨_, rfl⟩
      rw [eK] at hcnt HX ⊢
      have HSAY := Lib.hid hsay
      have HCNT := Lib.hid hcnt
      have HX8 := Lib.hid hx8
      clear exs hsay hcnt hx8 HT4 HT3' HT
      go_wp2_with fail
      go_at_call 13
      refine (infl_any w5 _ xs N HX.out HX8.out (by rw [HCNT.out.1]; omega) (HL.out.below HB5.out) (by omega)).mono ?_
      rintro e w6 h6
      obtain ⟨out, rfl, hout, hb6⟩ := told_row HSAY.out h6
      simp only at hout ⊢
      rw [HCNT.out.2]
      have HOUT := Lib.hid hout
      have HB6 : Hid (Below W.heap.size W w6) := HB5.out.trans (hb6.mono HB5.out.size)
      have HA6 : Hid (bytesIn w6 (.slice ao N ac) cs) := listed_on HA.out hb6
      clear h6 hout hb6
      go_wp2_with fail
      go_at_call 14
      refine (same_yes out _ cs w6 HOUT.out HA6.out).mono ?_
      rintro e w7 ⟨rfl, rfl⟩
      go_wp2_with fail
      go_at_call 7
      refine (awakeInf_any w6 (HL.out.below HB6.out)).mono ?_
      rintro e w9 ⟨rfl, hb9⟩
      have HB9 : Hid (Below W.heap.size W w9) := HB6.out.trans (hb9.mono HB6.out.size)
      clear hb9
      go_wp2_with fail
      go_ret
      exact ⟨rfl, HB9.out⟩
theorem let_law (W : World) (hl : LaidOrder W) (bv : Value) (zs : List Nat) (hb : bytesIn W bv zs) (h8 : ∀ x ∈ zs, x < 256) :
    Calls Tryd.prog 6 #[bv] W fun e w' => e = .returned (.bool true) ∧ Below W.heap.size W w' := by
  by_cases hlen : zs.length ≤ 300
  · exact let_main W bv zs hb h8 hlen hl
  · obtain ⟨bo, bc, ebv⟩ := listed_length hb
    subst ebv
    have d0 : decide ((300 : Int) < (zs.length : Int)) = true := decide_eq_true (by omega)
    clear hb h8 hlen
    generalize zs.length = N at *
    go_enter Tryd.func6, Tryd.ntmps6
    go_wp2_with fail
    go_at_call 7
    refine (awakeInf_any W hl).mono ?_
    rintro e w9 ⟨rfl, hb9⟩
    go_wp2_with fail
    go_ret
    exact ⟨rfl, hb9⟩
end Go.Proofs.YtbhmjppnhlmefaaDoor.Fx
