/-
  The document's own answers of layer 6: bits of a number, symbols, finding a code. The conditions stand in each.
  The document's own answers of layer 6: symbols by the fixed codes. The conditions stand in each.
  The document's own answers of layer 6: a stored block. The conditions stand in each.
  The document's own answers of layer 6: the tables, finding a code, the match. The conditions stand in each.
  The document's own answers of layer 6: the match. The conditions stand in it.
  The document's own answers of layer 6: what stands for bytes. The conditions stand in it.
-/
import Derived.Test.YtefdlidjdmlnaaaBitsO
import Derived.Test.YtefdlidjdmlnaaaDeflQ
import Derived.StillTailTactics
import Derived.Deep.QuietTactic
import Derived.BigQuiet
namespace Go.Proofs.Ytefdlidjdmlnaaa.Fx
open Go Go.RowKit Go.Joins
set_option linter.unusedVariables false
/-- k bits of a number, in the one order or the other. -/
def someBits (n k : Nat) (b : Bool) : List Bool := if b then turned n k else bitsOf n k
theorem someBits_length (n k : Nat) (b : Bool) : (someBits n k b).length = k := by
  unfold someBits
  split
  · exact turned_length n k
  · exact bitsOf_length n k
theorem bitsOf_bit (n k j : Nat) (h : j < k) : (bitsOf n k)[j]? = some (n / 2 ^ j % 2 == 1) := by
  obtain ⟨d, rfl⟩ : ∃ d, k = j + 1 + d := ⟨k - (j + 1), by omega⟩
  rw [bitsOf_add, List.getElem?_append_left (by rw [bitsOf_length]; omega), bitsOf_next, List.getElem?_append_right (by rw [bitsOf_length]; omega), bitsOf_length, Nat.sub_self]
  rfl
theorem someBits_next (n k i : Nat) (b : Bool) (h : i < k) : (someBits n k b).take (i + 1) = (someBits n k b).take i ++ bitsOf (n / 2 ^ (if b then k - 1 - i else i) % 2) 1 := by
  have hb : ∀ x : Nat, bitsOf (x % 2) 1 = [x % 2 == 1] := fun x => by
    unfold bitsOf
    rw [Nat.mod_mod]
    rfl
  rw [List.take_add_one, hb]
  congr 1
  unfold someBits
  cases b with
  | false =>
    simp only [Bool.false_eq_true, if_false]
    rw [bitsOf_bit n k i h]
    rfl
  | true =>
    simp only [if_true]
    unfold turned
    rw [List.getElem?_reverse (by rw [bitsOf_length]; exact h), bitsOf_length, bitsOf_bit n k (k - 1 - i) (by omega)]
    rfl
set_option maxHeartbeats 4000000 in
set_option maxRecDepth 100000 in
theorem rbits_any (vL : Value) (L : List Bool) (t : Int) (n k : Nat) (b : Bool) (W : World) (hr : bools W vL L) (hl : L.length ≤ 1099511627000) (hk : k ≤ 32) (hn : n ≤ 4294967295) :
    Calls Try.prog 92 #[.agg #[vL, .int .i64 t], .int .i64 (n : Int), .int .i64 (k : Int), .bool b] W fun e w' =>
      ∃ u, e = .returned (.agg #[u, .int .i64 t]) ∧ bools w' u (L ++ someBits n k b) ∧ (∀ q, inBlock u q → u = vL ∨ W.heap.size ≤ q) ∧ Below W.heap.size W w' := by
  obtain ⟨w1, e1, hs1, hB0, hB1, hbl⟩ := two_blocks W 63 vL (.int .i64 t) (.slice none 0 0) (.int .i64 0)
  have HR := Lib.hid hr
  obtain ⟨vo, vc, rfl⟩ := listed_length hr
  clear hr
  have hst : bools w1 (.slice vo L.length vc) (L ++ (someBits n k b).take 0) := by
    rw [List.take_zero, List.append_nil]
    exact listed_on HR.out hbl
  have HVB : Hid (∀ q, inBlock (.slice vo L.length vc) q → q < W.heap.size) := fun q hq => by
    obtain ⟨off, m, cap, h, hm⟩ := hq
    rcases HR.out with ⟨⟨o, c', h', _⟩, _⟩ | ⟨b', off', cap', h', hlt, _⟩
    · rw [h'] at h
      simp only [Value.slice.injEq] at h
      omega
    · rw [h'] at h
      simp only [Value.slice.injEq, Option.some.injEq, Addr.mk.injEq] at h
      obtain ⟨⟨rfl, _⟩, _⟩ := h
      exact hlt
  go_enter Try.func92, Try.ntmps92
  go_wp2_with fail
  rw [← e1]
  clear e1
  go_loopw [9] (fun i wr => ∃ (j : Nat) (u : Value), j ≤ k ∧ i = .int .i64 j ∧ bools wr u (L ++ (someBits n k b).take j) ∧ (∀ q, inBlock u q → u = .slice vo L.length vc ∨ W.heap.size + 2 ≤ q) ∧ wr.heap[W.heap.size]? = some (.cells #[u, .int .i64 t] 63 (0, 0)) ∧ wr.heap[W.heap.size + 1]? = some (.cells #[.slice none 0 0, .int .i64 0] 63 (0, 0)) ∧ Below W.heap.size W wr ∧ W.heap.size + 2 ≤ wr.heap.size) (fun i _ => k - (intOf i).toNat)
  case atStart => exact ⟨0, .slice vo L.length vc, Nat.zero_le _, rfl, hst, fun q hq => .inl rfl, hB0, hB1, hbl, by omega⟩
  case round =>
    clear hB0 hB1 hbl hs1 hst
    obtain ⟨j, u, hj, rfl, hu, hfr, hB0, hB1, hbl, hsz⟩ := hrel
    have HU := Lib.hid hu
    have HFR := Lib.hid hfr
    have HB0 := Lib.hid hB0
    have HB1 := Lib.hid hB1
    have HBL := Lib.hid hbl
    obtain ⟨uo, uc, rfl⟩ := listed_length hu
    have hlen : (L ++ (someBits n k b).take j).length = L.length + j := by rw [List.length_append, List.length_take, someBits_length]; omega
    rw [hlen] at HU HFR HB0 hB0
    have HLEN := Lib.hid hlen
    obtain ⟨m, em⟩ : ∃ m, L.length + j = m := ⟨_, rfl⟩
    rw [em] at HU HFR HB0 hB0 HLEN
    have hm40 : m ≤ 1099511627776 := by omega
    clear hu hfr hbl hlen
    have q0 := cell_of_block hB0 0
    have q1 := cell_of_block hB0 1
    have q2 := cell_of_block hB1 0
    have q3 := cell_of_block hB1 1
    have f0 := unfrozen_of_block hB0 0
    have f1 := unfrozen_of_block hB0 1
    have f2 := unfrozen_of_block hB1 0
    have f3 := unfrozen_of_block hB1 1
    have hne : ¬ W.heap.size = W.heap.size + 1 := by omega
    clear hB0 hB1
    by_cases hjk : j < k
    · have hd : decide ((j : Int) < (k : Int)) = true := decide_eq_true (by omega)
      have HN := Lib.hid (someBits_next n k j b hjk)
      obtain ⟨at', eat⟩ : ∃ a, (if b = true then k - 1 - j else j) = a := ⟨_, rfl⟩
      rw [eat] at HN
      have hat : at' ≤ 31 := by
        rw [← eat]
        split <;> omega
      have hsh : (n : Int) / (2 : Int) ^ at' = ((n / 2 ^ at' : Nat) : Int) := by
        rw [show (2 : Int) ^ at' = ((2 ^ at' : Nat) : Int) by rw [Int.natCast_pow]; rfl, Int.natCast_ediv]
      have hdv : n / 2 ^ at' ≤ n := Nat.div_le_self _ _
      obtain ⟨D, eD⟩ : ∃ D, n / 2 ^ at' = D := ⟨_, rfl⟩
      rw [eD] at hsh hdv HN
      clear eD
      obtain ⟨X, eX⟩ : ∃ X, D % 2 = X := ⟨_, rfl⟩
      rw [eX] at HN
      have hX : X < 2 := by omega
      have hDX : (D : Int) % 2 = (X : Int) := by omega
      have htX : (D : Int).tmod 2 = (X : Int) := by rw [Int.tmod_eq_emod_of_nonneg (by omega)]; exact hDX
      have hwa : IntKind.u64.wrap (at' : Int) = (at' : Int) := by rw [IntKind.wrap_u64]; omega
      have hwX : IntKind.u32.wrap (X : Int) = (X : Int) := by rw [IntKind.wrap_u32']; omega
      clear eX
      have KP : Hid (Calls Try.prog 81 #[.agg #[.slice uo m uc, .int .i64 t], .int .u32 (X : Int), .int .i64 1] wr fun e w' =>
          ∃ u2, e = .returned (.tuple #[.agg #[u2, .int .i64 t], .int .i64 0]) ∧ bools w' u2 (L ++ (someBits n k b).take j ++ bitsOf X 1) ∧ (∀ q, inBlock u2 q → wr.heap.size ≤ q) ∧ Below wr.heap.size wr w') := rput_any _ _ t X 1 wr HU.out (by rw [HLEN.out]; exact hm40) (by decide) (by omega)
      cases b with
      | false =>
        obtain rfl : j = at' := by simpa using eat
        go_wp2_with fail
        go_at_call 81
        refine KP.out.mono ?_
        rintro e w2 ⟨u2, rfl, v1, v2, hb2⟩
        obtain ⟨o2, c2, rfl⟩ := listed_length v1
        have hb0 := (hb2.block W.heap.size (by omega)).trans HB0.out
        have hb1 := (hb2.block (W.heap.size + 1) (by omega)).trans HB1.out
        obtain ⟨m2, em2⟩ : ∃ m2, (L ++ (someBits n k false).take j ++ bitsOf X 1).length = m2 := ⟨_, rfl⟩
        rw [em2] at v1 v2 ⊢
        have V1 := Lib.hid v1
        have V2 := Lib.hid v2
        have HB2 := Lib.hid hb2
        have HC0 := Lib.hid hb0
        have HC1 := Lib.hid hb1
        clear q0 q1 q2 q3 f0 f1 f2 f3 v1 v2 em2
        have q0 := cell_of_block hb0 0
        have q1 := cell_of_block hb0 1
        have f0 := unfrozen_of_block hb0 0
        have f1 := unfrozen_of_block hb0 1
        clear hb0 hb1 hb2 KP
        go_wp2_with fail
        go_roundw
        case rel =>
          have hN0 : ((w2.setCell ⟨W.heap.size, 0, none⟩ (.slice o2 m2 c2)).setCell ⟨W.heap.size, 1, none⟩ (.int .i64 t)).heap[W.heap.size]? = some (.cells #[.slice o2 m2 c2, .int .i64 t] 63 (0, 0)) := block_setCell (block_setCell HC0.out _) _
          refine ⟨j + 1, .slice o2 m2 c2, by omega, by go_num, ?_, fun q hq => .inr (Nat.le_trans hsz (V2.out q hq)), hN0, ?_, ((HBL.out.trans (HB2.out.mono (by omega))).setCell (p := ⟨W.heap.size, 0, none⟩) (Nat.le_refl _) _).setCell (p := ⟨W.heap.size, 1, none⟩) (Nat.le_refl _) _, by have := HB2.out.size; simp; omega⟩
          · rw [HN.out, ← List.append_assoc]
            refine listed_kept V1.out (Nat.le_of_eq (by simp)) (fun q hq => ?_)
            have hge := V2.out q hq
            rw [Below.heap_setCell _ _ _ q (by show q ≠ W.heap.size; omega), Below.heap_setCell _ _ _ q (by show q ≠ W.heap.size; omega)]
          · rw [Below.heap_setCell _ _ _ _ (by show W.heap.size + 1 ≠ W.heap.size; omega), Below.heap_setCell _ _ _ _ (by show W.heap.size + 1 ≠ W.heap.size; omega)]
            exact HC1.out
        case measure => simp [intOf]; omega
      | true =>
        have hka : (k : Int) - 1 - (j : Int) = (at' : Int) := by
          have : k - 1 - j = at' := by simpa using eat
          omega
        clear eat
        go_wp2_with fail
        go_at_call 81
        refine KP.out.mono ?_
        rintro e w2 ⟨u2, rfl, v1, v2, hb2⟩
        obtain ⟨o2, c2, rfl⟩ := listed_length v1
        have hb0 := (hb2.block W.heap.size (by omega)).trans HB0.out
        have hb1 := (hb2.block (W.heap.size + 1) (by omega)).trans HB1.out
        obtain ⟨m2, em2⟩ : ∃ m2, (L ++ (someBits n k true).take j ++ bitsOf X 1).length = m2 := ⟨_, rfl⟩
        rw [em2] at v1 v2 ⊢
        have V1 := Lib.hid v1
        have V2 := Lib.hid v2
        have HB2 := Lib.hid hb2
        have HC0 := Lib.hid hb0
        have HC1 := Lib.hid hb1
        clear q0 q1 q2 q3 f0 f1 f2 f3 v1 v2 em2
        have q0 := cell_of_block hb0 0
        have q1 := cell_of_block hb0 1
        have f0 := unfrozen_of_block hb0 0
        have f1 := unfrozen_of_block hb0 1
        clear hb0 hb1 hb2 KP
        go_wp2_with fail
        go_roundw
        case rel =>
          have hN0 : ((w2.setCell ⟨W.heap.size, 0, none⟩ (.slice o2 m2 c2)).setCell ⟨W.heap.size, 1, none⟩ (.int .i64 t)).heap[W.heap.size]? = some (.cells #[.slice o2 m2 c2, .int .i64 t] 63 (0, 0)) := block_setCell (block_setCell HC0.out _) _
          refine ⟨j + 1, .slice o2 m2 c2, by omega, by go_num, ?_, fun q hq => .inr (Nat.le_trans hsz (V2.out q hq)), hN0, ?_, ((HBL.out.trans (HB2.out.mono (by omega))).setCell (p := ⟨W.heap.size, 0, none⟩) (Nat.le_refl _) _).setCell (p := ⟨W.heap.size, 1, none⟩) (Nat.le_refl _) _, by have := HB2.out.size; simp; omega⟩
          · rw [HN.out, ← List.append_assoc]
            refine listed_kept V1.out (Nat.le_of_eq (by simp)) (fun q hq => ?_)
            have hge := V2.out q hq
            rw [Below.heap_setCell _ _ _ q (by show q ≠ W.heap.size; omega), Below.heap_setCell _ _ _ q (by show q ≠ W.heap.size; omega)]
          · rw [Below.heap_setCell _ _ _ _ (by show W.heap.size + 1 ≠ W.heap.size; omega), Below.heap_setCell _ _ _ _ (by show W.heap.size + 1 ≠ W.heap.size; omega)]
            exact HC1.out
        case measure => simp [intOf]; omega
    · have hd : decide ((j : Int) < (k : Int)) = false := decide_eq_false (by omega)
      obtain rfl : j = k := by omega
      have hall : (someBits n j b).take j = someBits n j b := List.take_of_length_le (by rw [someBits_length]; exact Nat.le_refl _)
      rw [hall] at HU
      go_wp2_with fail
      refine bodyPost_ret (v := .agg #[.slice uo m uc, .int .i64 t]) ?_ rfl ⟨_, rfl, ?_, fun q hq => ?_, ?_⟩
      · simp [results, Try.results92, asAddr, Result.andThen, go_sem, q2, q3]
      · refine listed_kept HU.out (Nat.le_of_eq (by simp)) (fun q hq => ?_)
        have hqn : q ≠ W.heap.size + 1 := by
          rcases HFR.out q hq with h | h
          · have := HVB.out q (h ▸ hq)
            omega
          · omega
        rw [Below.heap_setCell _ _ _ q hqn, Below.heap_setCell _ _ _ q hqn]
      · rcases HFR.out q hq with h | h
        · exact .inl h
        · exact .inr (by omega)
      · exact (HBL.out.setCell (p := ⟨W.heap.size + 1, 0, none⟩) (Nat.le_succ _) _).setCell (p := ⟨W.heap.size + 1, 1, none⟩) (Nat.le_succ _) _
/-- Some bits at least: the list is a new one. -/
theorem rbits_some (vL : Value) (L : List Bool) (t : Int) (n k : Nat) (b : Bool) (W : World) (hr : bools W vL L) (hl : L.length ≤ 1099511627000) (h0 : 0 < k) (hk : k ≤ 32) (hn : n ≤ 4294967295) :
    Calls Try.prog 92 #[.agg #[vL, .int .i64 t], .int .i64 (n : Int), .int .i64 (k : Int), .bool b] W fun e w' =>
      ∃ o c, e = .returned (.agg #[.slice o (L.length + k) c, .int .i64 t]) ∧ bools w' (.slice o (L.length + k) c) (L ++ someBits n k b) ∧ (∀ q, inBlock (.slice o (L.length + k) c) q → W.heap.size ≤ q) ∧ Below W.heap.size W w' := by
  refine (rbits_any vL L t n k b W hr hl hk hn).mono ?_
  rintro e w' ⟨u, rfl, v1, v2, hb⟩
  obtain ⟨o, c, rfl⟩ := listed_length v1
  have hlen : (L ++ someBits n k b).length = L.length + k := by rw [List.length_append, someBits_length]
  rw [hlen] at v1 v2 ⊢
  refine ⟨o, c, rfl, v1, fun q hq => ?_, hb⟩
  rcases v2 q hq with h | h
  · exfalso
    obtain ⟨o', c', h3⟩ := listed_length hr
    rw [h3] at h
    simp only [Value.slice.injEq] at h
    omega
  · exact h
end Go.Proofs.Ytefdlidjdmlnaaa.Fx
namespace Go.Proofs.Ytefdlidjdmlnaaa.Fx
open Go Go.RowKit Go.Joins
set_option linter.unusedVariables false
set_option maxHeartbeats 4000000 in
set_option maxRecDepth 100000 in
theorem rfixed_any (vL : Value) (L : List Bool) (t : Int) (n : Nat) (W : World) (hr : bools W vL L) (hl : L.length ≤ 1099511620000) (hn : n ≤ 287) :
    Calls Try.prog 93 #[.agg #[vL, .int .i64 t], .int .i64 (n : Int)] W fun e w' =>
      ∃ u, e = .returned (.agg #[u, .int .i64 t]) ∧ bools w' u (L ++ fixedSym n) ∧ (∀ q, inBlock u q → W.heap.size ≤ q) ∧ Below W.heap.size W w' := by
  obtain ⟨w1, e1, hs1, hB0, hB1, hbl⟩ := two_blocks W 63 vL (.int .i64 t) (.slice none 0 0) (.int .i64 0)
  have HR := Lib.hid (listed_on hr hbl)
  obtain ⟨vo, vc, rfl⟩ := listed_length hr
  obtain ⟨l, el⟩ : ∃ l, L.length = l := ⟨_, rfl⟩
  have EL := Lib.hid el
  rw [el] at HR hB0 e1 ⊢
  clear hr el
  have q0 := cell_of_block hB0 0
  have q1 := cell_of_block hB0 1
  have HB1 := Lib.hid hB1
  have HBL := Lib.hid hbl
  have hne : ¬ W.heap.size = W.heap.size + 1 := by omega
  clear hB0 hB1 hbl
  by_cases h1 : n ≤ 143
  · have d1 : decide ((n : Int) ≤ 143) = true := decide_eq_true (by omega)
    have KB := rbits_some (.slice vo l vc) L t (48 + n) 8 true w1 HR.out (by omega) (by decide) (by decide) (by omega)
    have HS : Hid (L ++ fixedSym n = L ++ someBits (48 + n) 8 true) := by
      show _ = _
      congr 1
      unfold fixedSym
      rw [if_pos h1]; rfl
    have hv : (48 : Int) + (n : Int) = (((48 + n) : Nat) : Int) := by omega
    have bv : (48 + n) ≤ 1000 := by omega
    generalize hVV : (48 + n) = V at *
    clear hVV
    rw [EL.out] at KB
    go_enter Try.func93, Try.ntmps93
    go_wp2_with fail
    rw [← e1]
    clear e1
    go_at_call 92
    refine KB.mono ?_
    rintro e w2 ⟨o2, c2, rfl, v1, hfr, hb2⟩
    have hb1 := (hb2.block (W.heap.size + 1) (by omega)).trans HB1.out
    obtain ⟨m2, em2⟩ : ∃ m2, l + 8 = m2 := ⟨_, rfl⟩
    rw [em2] at v1 hfr ⊢
    have V1 := Lib.hid v1
    have HFR := Lib.hid hfr
    have HB2 := Lib.hid hb2
    clear v1 em2 hfr hb2 KB q0 q1
    have q2 := cell_of_block hb1 0
    have q3 := cell_of_block hb1 1
    have f2 := unfrozen_of_block hb1 0
    have f3 := unfrozen_of_block hb1 1
    clear hb1
    go_wp2_with fail
    refine bodyPost_ret (v := .agg #[.slice o2 m2 c2, .int .i64 t]) ?_ rfl ⟨_, rfl, ?_, fun q hq => ?_, ?_⟩
    · simp [results, Try.results93, asAddr, Result.andThen, go_sem, q2, q3]
    · rw [HS.out]
      refine listed_kept V1.out (Nat.le_of_eq (by simp)) (fun q hq => ?_)
      have hge := HFR.out q hq
      rw [Below.heap_setCell _ _ _ q (by show q ≠ W.heap.size + 1; omega), Below.heap_setCell _ _ _ q (by show q ≠ W.heap.size + 1; omega)]
    · have := HFR.out q hq
      omega
    · exact ((HBL.out.trans (HB2.out.mono (by omega))).setCell (p := ⟨W.heap.size + 1, 0, none⟩) (Nat.le_succ _) _).setCell (p := ⟨W.heap.size + 1, 1, none⟩) (Nat.le_succ _) _
  · have d1 : decide ((n : Int) ≤ 143) = false := decide_eq_false (by omega)
    by_cases h2 : n ≤ 255
    · have d2 : decide ((n : Int) ≤ 255) = true := decide_eq_true (by omega)
      have KB := rbits_some (.slice vo l vc) L t (400 + n - 144) 9 true w1 HR.out (by omega) (by decide) (by decide) (by omega)
      have HS : Hid (L ++ fixedSym n = L ++ someBits (400 + n - 144) 9 true) := by
        show _ = _
        congr 1
        unfold fixedSym
        rw [if_neg h1, if_pos h2]; rfl
      have hv : (400 : Int) + (n : Int) - 144 = (((400 + n - 144) : Nat) : Int) := by omega
      have bv : (400 + n - 144) ≤ 1000 := by omega
      generalize hVV : (400 + n - 144) = V at *
      clear hVV
      rw [EL.out] at KB
      go_enter Try.func93, Try.ntmps93
      go_wp2_with fail
      rw [← e1]
      clear e1
      go_at_call 92
      refine KB.mono ?_
      rintro e w2 ⟨o2, c2, rfl, v1, hfr, hb2⟩
      have hb1 := (hb2.block (W.heap.size + 1) (by omega)).trans HB1.out
      obtain ⟨m2, em2⟩ : ∃ m2, l + 9 = m2 := ⟨_, rfl⟩
      rw [em2] at v1 hfr ⊢
      have V1 := Lib.hid v1
      have HFR := Lib.hid hfr
      have HB2 := Lib.hid hb2
      clear v1 em2 hfr hb2 KB q0 q1
      have q2 := cell_of_block hb1 0
      have q3 := cell_of_block hb1 1
      have f2 := unfrozen_of_block hb1 0
      have f3 := unfrozen_of_block hb1 1
      clear hb1
      go_wp2_with fail
      refine bodyPost_ret (v := .agg #[.slice o2 m2 c2, .int .i64 t]) ?_ rfl ⟨_, rfl, ?_, fun q hq => ?_, ?_⟩
      · simp [results, Try.results93, asAddr, Result.andThen, go_sem, q2, q3]
      · rw [HS.out]
        refine listed_kept V1.out (Nat.le_of_eq (by simp)) (fun q hq => ?_)
        have hge := HFR.out q hq
        rw [Below.heap_setCell _ _ _ q (by show q ≠ W.heap.size + 1; omega), Below.heap_setCell _ _ _ q (by show q ≠ W.heap.size + 1; omega)]
      · have := HFR.out q hq
        omega
      · exact ((HBL.out.trans (HB2.out.mono (by omega))).setCell (p := ⟨W.heap.size + 1, 0, none⟩) (Nat.le_succ _) _).setCell (p := ⟨W.heap.size + 1, 1, none⟩) (Nat.le_succ _) _
    · have d2 : decide ((n : Int) ≤ 255) = false := decide_eq_false (by omega)
      by_cases h3 : n ≤ 279
      · have d3 : decide ((n : Int) ≤ 279) = true := decide_eq_true (by omega)
        have KB := rbits_some (.slice vo l vc) L t (n - 256) 7 true w1 HR.out (by omega) (by decide) (by decide) (by omega)
        have HS : Hid (L ++ fixedSym n = L ++ someBits (n - 256) 7 true) := by
          show _ = _
          congr 1
          unfold fixedSym
          rw [if_neg h1, if_neg h2, if_pos h3]; rfl
        have hv : (n : Int) - 256 = (((n - 256) : Nat) : Int) := by omega
        have bv : (n - 256) ≤ 1000 := by omega
        generalize hVV : (n - 256) = V at *
        clear hVV
        rw [EL.out] at KB
        go_enter Try.func93, Try.ntmps93
        go_wp2_with fail
        rw [← e1]
        clear e1
        go_at_call 92
        refine KB.mono ?_
        rintro e w2 ⟨o2, c2, rfl, v1, hfr, hb2⟩
        have hb1 := (hb2.block (W.heap.size + 1) (by omega)).trans HB1.out
        obtain ⟨m2, em2⟩ : ∃ m2, l + 7 = m2 := ⟨_, rfl⟩
        rw [em2] at v1 hfr ⊢
        have V1 := Lib.hid v1
        have HFR := Lib.hid hfr
        have HB2 := Lib.hid hb2
        clear v1 em2 hfr hb2 KB q0 q1
        have q2 := cell_of_block hb1 0
        have q3 := cell_of_block hb1 1
        have f2 := unfrozen_of_block hb1 0
        have f3 := unfrozen_of_block hb1 1
        clear hb1
        go_wp2_with fail
        refine bodyPost_ret (v := .agg #[.slice o2 m2 c2, .int .i64 t]) ?_ rfl ⟨_, rfl, ?_, fun q hq => ?_, ?_⟩
        · simp [results, Try.results93, asAddr, Result.andThen, go_sem, q2, q3]
        · rw [HS.out]
          refine listed_kept V1.out (Nat.le_of_eq (by simp)) (fun q hq => ?_)
          have hge := HFR.out q hq
          rw [Below.heap_setCell _ _ _ q (by show q ≠ W.heap.size + 1; omega), Below.heap_setCell _ _ _ q (by show q ≠ W.heap.size + 1; omega)]
        · have := HFR.out q hq
          omega
        · exact ((HBL.out.trans (HB2.out.mono (by omega))).setCell (p := ⟨W.heap.size + 1, 0, none⟩) (Nat.le_succ _) _).setCell (p := ⟨W.heap.size + 1, 1, none⟩) (Nat.le_succ _) _
      · have d3 : decide ((n : Int) ≤ 279) = false := decide_eq_false (by omega)
        have KB := rbits_some (.slice vo l vc) L t (192 + n - 280) 8 true w1 HR.out (by omega) (by decide) (by decide) (by omega)
        have HS : Hid (L ++ fixedSym n = L ++ someBits (192 + n - 280) 8 true) := by
          show _ = _
          congr 1
          unfold fixedSym
          rw [if_neg h1, if_neg h2, if_neg h3]; rfl
        have hv : (192 : Int) + (n : Int) - 280 = (((192 + n - 280) : Nat) : Int) := by omega
        have bv : (192 + n - 280) ≤ 1000 := by omega
        generalize hVV : (192 + n - 280) = V at *
        clear hVV
        rw [EL.out] at KB
        go_enter Try.func93, Try.ntmps93
        go_wp2_with fail
        rw [← e1]
        clear e1
        go_at_call 92
        refine KB.mono ?_
        rintro e w2 ⟨o2, c2, rfl, v1, hfr, hb2⟩
        have hb1 := (hb2.block (W.heap.size + 1) (by omega)).trans HB1.out
        obtain ⟨m2, em2⟩ : ∃ m2, l + 8 = m2 := ⟨_, rfl⟩
        rw [em2] at v1 hfr ⊢
        have V1 := Lib.hid v1
        have HFR := Lib.hid hfr
        have HB2 := Lib.hid hb2
        clear v1 em2 hfr hb2 KB q0 q1
        have q2 := cell_of_block hb1 0
        have q3 := cell_of_block hb1 1
        have f2 := unfrozen_of_block hb1 0
        have f3 := unfrozen_of_block hb1 1
        clear hb1
        go_wp2_with fail
        refine bodyPost_ret (v := .agg #[.slice o2 m2 c2, .int .i64 t]) ?_ rfl ⟨_, rfl, ?_, fun q hq => ?_, ?_⟩
        · simp [results, Try.results93, asAddr, Result.andThen, go_sem, q2, q3]
        · rw [HS.out]
          refine listed_kept V1.out (Nat.le_of_eq (by simp)) (fun q hq => ?_)
          have hge := HFR.out q hq
          rw [Below.heap_setCell _ _ _ q (by show q ≠ W.heap.size + 1; omega), Below.heap_setCell _ _ _ q (by show q ≠ W.heap.size + 1; omega)]
        · have := HFR.out q hq
          omega
        · exact ((HBL.out.trans (HB2.out.mono (by omega))).setCell (p := ⟨W.heap.size + 1, 0, none⟩) (Nat.le_succ _) _).setCell (p := ⟨W.heap.size + 1, 1, none⟩) (Nat.le_succ _) _
end Go.Proofs.Ytefdlidjdmlnaaa.Fx
namespace Go.Proofs.Ytefdlidjdmlnaaa.Fx
open Go Go.RowKit Go.Joins
set_option linter.unusedVariables false
theorem someBits_false (n k : Nat) : someBits n k false = bitsOf n k := rfl
theorem someBits_true (n k : Nat) : someBits n k true = turned n k := rfl
/-- A call of the document's own by its first two blocks: the writer's, the answer's; the list is a new one. -/
structure Boxed (W w : World) (u : Value) (X : List Bool) (t : Int) : Prop where
  box : w.heap[W.heap.size]? = some (.cells #[u, .int .i64 t] 63 (0, 0))
  res : w.heap[W.heap.size + 1]? = some (.cells #[.slice none 0 0, .int .i64 0] 63 (0, 0))
  val : bools w u X
  new : ∀ q, inBlock u q → W.heap.size + 2 ≤ q
  bl : Below W.heap.size W w
  sz : W.heap.size + 2 ≤ w.heap.size
theorem Boxed.store {W w0 w : World} {u : Value} {t : Int} (hb : w0.heap[W.heap.size]? = some (.cells #[u, .int .i64 t] 63 (0, 0))) (hr : w0.heap[W.heap.size + 1]? = some (.cells #[.slice none 0 0, .int .i64 0] 63 (0, 0))) (hbl : Below W.heap.size W w0) (hsz : W.heap.size + 2 ≤ w0.heap.size)
    {u2 : Value} {X2 : List Bool} (hv : bools w u2 X2) (hn : ∀ q, inBlock u2 q → W.heap.size + 2 ≤ q) (h2 : Below w0.heap.size w0 w) : Boxed W ((w.setCell ⟨W.heap.size, 0, none⟩ u2).setCell ⟨W.heap.size, 1, none⟩ (.int .i64 t)) u2 X2 t := by
  have hk : ∀ k, k ≠ W.heap.size → ((w.setCell ⟨W.heap.size, 0, none⟩ u2).setCell ⟨W.heap.size, 1, none⟩ (.int .i64 t)).heap[k]? = w.heap[k]? := fun k hk => by
    rw [Below.heap_setCell _ _ _ k hk, Below.heap_setCell _ _ _ k hk]
  have hs : ((w.setCell ⟨W.heap.size, 0, none⟩ u2).setCell ⟨W.heap.size, 1, none⟩ (.int .i64 t)).heap.size = w.heap.size := by simp
  refine ⟨block_setCell (block_setCell ((h2.block W.heap.size (by omega)).trans hb) _) _, (hk _ (by omega)).trans ((h2.block (W.heap.size + 1) (by omega)).trans hr), listed_kept hv (Nat.le_of_eq hs.symm) (fun q hq => hk q (by have := hn q hq; omega)), hn, ((hbl.trans (h2.mono (by omega))).setCell (p := ⟨W.heap.size, 0, none⟩) (Nat.le_refl _) _).setCell (p := ⟨W.heap.size, 1, none⟩) (Nat.le_refl _) _, ?_⟩
  rw [hs]
  have := h2.size
  omega
theorem Boxed.drew {W w : World} {u : Value} {X : List Bool} {t : Int} (h : Boxed W w u X t) : Boxed W w.drew u X t := ⟨h.box, h.res, h.val, h.new, h.bl.drew, h.sz⟩
set_option maxHeartbeats 4000000 in
set_option maxRecDepth 100000 in
theorem rstored_any (vL : Value) (L : List Bool) (t : Int) (b : Value) (zs : List Nat) (last : Nat) (W : World) (hr : bools W vL L) (hz : bytesIn W b zs) (h8 : ∀ x ∈ zs, x < 256) (hl : L.length ≤ 549755813888) (hzl : zs.length ≤ 65535) (hlast : last ≤ 1) :
    Calls Try.prog 77 #[.agg #[vL, .int .i64 t], b, .int .i64 (last : Int)] W fun e w' =>
      ∃ u, e = .returned (.agg #[u, .int .i64 t]) ∧ bools w' u (storedBlock L zs last) ∧ (∀ q, inBlock u q → W.heap.size ≤ q) ∧ Below W.heap.size W w' := by
  obtain ⟨w1, e1, hs1, hB0, hB1, hbl⟩ := two_blocks W 63 vL (.int .i64 t) (.slice none 0 0) (.int .i64 0)
  have HR := Lib.hid (listed_on hr hbl)
  obtain ⟨vo, vc, rfl⟩ := listed_length hr
  have hlen := fun w => listed_len (u := 3) Try.underlying36 hz w
  have HZ := Lib.hid hz
  have H8 := Lib.hid h8
  obtain ⟨l, el⟩ : ∃ l, L.length = l := ⟨_, rfl⟩
  have EL := Lib.hid el
  rw [el] at HR hB0 e1 ⊢
  obtain ⟨n, en⟩ : ∃ n, zs.length = n := ⟨_, rfl⟩
  have EN := Lib.hid en
  rw [en] at hlen hzl
  clear hr el hz h8 en
  have q0 := cell_of_block hB0 0
  have q1 := cell_of_block hB0 1
  have f0 := unfrozen_of_block hB0 0
  have f1 := unfrozen_of_block hB0 1
  have HB0 := Lib.hid hB0
  have HB1 := Lib.hid hB1
  have HBL := Lib.hid hbl
  have hne : ¬ W.heap.size = W.heap.size + 1 := by omega
  clear hB0 hB1 hbl
  have hsub : (65535 : Int) - (n : Int) = ((65535 - n : Nat) : Int) := by omega
  have hw : IntKind.i64.wrap ((65535 - n : Nat) : Int) = ((65535 - n : Nat) : Int) := by rw [IntKind.wrap_i64]; omega
  have hM : 65535 - n ≤ 65535 := by omega
  obtain ⟨M, eM⟩ : ∃ M, 65535 - n = M := ⟨_, rfl⟩
  have EM := Lib.hid eM
  rw [eM] at hsub hw hM
  clear eM
  have hl2 : l ≤ 549755813888 := by have := EL.out; omega
  go_enter Try.func77, Try.ntmps77
  go_wp2_with fail
  rw [← e1]
  clear e1
  go_at_call 92
  refine (rbits_some (.slice vo l vc) L t last 1 false w1 HR.out (by omega) (by decide) (by decide) (by omega)).mono ?_
  rintro e w2 ⟨o2, c2, rfl, v1, v2, hb2⟩
  rw [someBits_false] at v1
  rw [EL.out] at v1 v2 ⊢
  have HX := Lib.hid (Boxed.store HB0.out HB1.out HBL.out (by omega) v1 (fun q hq => by have := v2 q hq; omega) hb2)
  have hb0 := (hb2.block W.heap.size (by omega)).trans HB0.out
  clear q0 q1 f0 f1
  have q0 := cell_of_block hb0 0
  have q1 := cell_of_block hb0 1
  have f0 := unfrozen_of_block hb0 0
  have f1 := unfrozen_of_block hb0 1
  clear hb0 v1 v2 hb2
  go_upto_region 2 with fail
  obtain ⟨x2, ex2⟩ : ∃ x, x = (w2.setCell ⟨W.heap.size, 0, none⟩ (.slice o2 (l + 1) c2)).setCell ⟨W.heap.size, 1, none⟩ (.int .i64 t) := ⟨_, rfl⟩
  rw [← ex2] at HX ⊢
  clear ex2 q0 q1 f0 f1
  have q0 := cell_of_block HX.out.box 0
  have q1 := cell_of_block HX.out.box 1
  go_wp2_with fail
  go_at_call 92
  refine (rbits_some _ _ t 0 2 false x2 HX.out.val (by rw [List.length_append, bitsOf_length, EL.out]; omega) (by decide) (by decide) (by decide)).mono ?_
  rintro e w3 ⟨o3, c3, rfl, v1, v2, hb3⟩
  rw [someBits_false] at v1
  have hh : (L ++ bitsOf last 1).length + 2 = l + 3 := by rw [List.length_append, bitsOf_length, EL.out]
  rw [hh] at v1 v2 ⊢
  clear hh
  have v2 := fun q hq => Nat.le_trans HX.out.sz (v2 q hq)
  have hb0 := (hb3.block W.heap.size (by have := HX.out.sz; omega)).trans HX.out.box
  have HX := Lib.hid (Boxed.store HX.out.box HX.out.res HX.out.bl HX.out.sz v1 v2 hb3)
  clear q0 q1
  have q0 := cell_of_block hb0 0
  have q1 := cell_of_block hb0 1
  have f0 := unfrozen_of_block hb0 0
  have f1 := unfrozen_of_block hb0 1
  clear hb0 v1 v2 hb3
  go_upto_region 3 with fail
  obtain ⟨x3, ex3⟩ : ∃ x, x = (w3.setCell ⟨W.heap.size, 0, none⟩ (.slice o3 (l + 3) c3)).setCell ⟨W.heap.size, 1, none⟩ (.int .i64 t) := ⟨_, rfl⟩
  rw [← ex3] at HX ⊢
  clear ex3 q0 q1 f0 f1
  have q0 := cell_of_block HX.out.box 0
  have q1 := cell_of_block HX.out.box 1
  go_wp2_with fail
  go_at_call 61
  refine (rwalign_any _ _ t x3 HX.out.val (by rw [List.length_append, List.length_append, bitsOf_length, bitsOf_length, EL.out]; omega)).mono ?_
  rintro e w4 ⟨u4, rfl, v1, v2, hb4⟩
  obtain ⟨o4, c4, rfl⟩ := listed_length v1
  have hh : (aligned (L ++ bitsOf last 1 ++ bitsOf 0 2)).length = (l + 3 + 7) / 8 * 8 := by rw [aligned_length, List.length_append, List.length_append, bitsOf_length, bitsOf_length, EL.out]
  have EA := Lib.hid hh
  rw [hh] at v1 v2 ⊢
  clear hh
  have v2 := fun q hq => (v2 q hq).elim (fun h => HX.out.new q (h ▸ hq)) (fun h => Nat.le_trans HX.out.sz h)
  obtain ⟨la, ela⟩ : ∃ la, (l + 3 + 7) / 8 * 8 = la := ⟨_, rfl⟩
  have hla : la ≤ 549755813888 + 10 := by omega
  rw [ela] at v1 v2 EA ⊢
  clear ela
  have hb0 := (hb4.block W.heap.size (by have := HX.out.sz; omega)).trans HX.out.box
  have HX := Lib.hid (Boxed.store HX.out.box HX.out.res HX.out.bl HX.out.sz v1 v2 hb4)
  clear q0 q1
  have q0 := cell_of_block hb0 0
  have q1 := cell_of_block hb0 1
  have f0 := unfrozen_of_block hb0 0
  have f1 := unfrozen_of_block hb0 1
  clear hb0 v1 v2 hb4
  go_upto_region 4 with fail
  obtain ⟨x4, ex4⟩ : ∃ x, x = (w4.setCell ⟨W.heap.size, 0, none⟩ (.slice o4 (la) c4)).setCell ⟨W.heap.size, 1, none⟩ (.int .i64 t) := ⟨_, rfl⟩
  rw [← ex4] at HX ⊢
  clear ex4 q0 q1 f0 f1
  have q0 := cell_of_block HX.out.box 0
  have q1 := cell_of_block HX.out.box 1
  go_wp2_with fail
  go_at_call 92
  refine (rbits_some _ _ t n 16 false x4 HX.out.val (by rw [EA.out]; omega) (by decide) (by decide) (by omega)).mono ?_
  rintro e w5 ⟨o5, c5, rfl, v1, v2, hb5⟩
  rw [someBits_false] at v1
  rw [EA.out] at v1 v2 ⊢
  have v2 := fun q hq => Nat.le_trans HX.out.sz (v2 q hq)
  have hb0 := (hb5.block W.heap.size (by have := HX.out.sz; omega)).trans HX.out.box
  have HX := Lib.hid (Boxed.store HX.out.box HX.out.res HX.out.bl HX.out.sz v1 v2 hb5)
  clear q0 q1
  have q0 := cell_of_block hb0 0
  have q1 := cell_of_block hb0 1
  have f0 := unfrozen_of_block hb0 0
  have f1 := unfrozen_of_block hb0 1
  clear hb0 v1 v2 hb5
  go_upto_region 5 with fail
  obtain ⟨x5, ex5⟩ : ∃ x, x = (w5.setCell ⟨W.heap.size, 0, none⟩ (.slice o5 (la + 16) c5)).setCell ⟨W.heap.size, 1, none⟩ (.int .i64 t) := ⟨_, rfl⟩
  rw [← ex5] at HX ⊢
  clear ex5 q0 q1 f0 f1
  have q0 := cell_of_block HX.out.box 0
  have q1 := cell_of_block HX.out.box 1
  go_wp2_with fail
  go_at_call 92
  refine (rbits_some _ _ t M 16 false x5 HX.out.val (by rw [List.length_append, bitsOf_length, EA.out]; omega) (by decide) (by decide) (by omega)).mono ?_
  rintro e w6 ⟨o6, c6, rfl, v1, v2, hb6⟩
  rw [someBits_false] at v1
  have hh : (aligned (L ++ bitsOf last 1 ++ bitsOf 0 2) ++ bitsOf n 16).length + 16 = la + 32 := by rw [List.length_append, bitsOf_length, EA.out]
  rw [hh] at v1 v2 ⊢
  clear hh
  have v2 := fun q hq => Nat.le_trans HX.out.sz (v2 q hq)
  have hb0 := (hb6.block W.heap.size (by have := HX.out.sz; omega)).trans HX.out.box
  have HX := Lib.hid (Boxed.store HX.out.box HX.out.res HX.out.bl HX.out.sz v1 v2 hb6)
  clear q0 q1
  have q0 := cell_of_block hb0 0
  have q1 := cell_of_block hb0 1
  have f0 := unfrozen_of_block hb0 0
  have f1 := unfrozen_of_block hb0 1
  clear hb0 v1 v2 hb6
  go_upto_region 6 with fail
  obtain ⟨x6, ex6⟩ : ∃ x, x = (w6.setCell ⟨W.heap.size, 0, none⟩ (.slice o6 (la + 32) c6)).setCell ⟨W.heap.size, 1, none⟩ (.int .i64 t) := ⟨_, rfl⟩
  rw [← ex6] at HX ⊢
  clear ex6 q0 q1 f0 f1
  obtain ⟨Y, eY⟩ : ∃ Y, aligned (L ++ bitsOf last 1 ++ bitsOf 0 2) ++ bitsOf n 16 ++ bitsOf M 16 = Y := ⟨_, rfl⟩
  have EY := Lib.hid eY
  have hYl : Y.length = la + 32 := by rw [← eY, List.length_append, List.length_append, bitsOf_length, bitsOf_length, EA.out]
  have EYL := Lib.hid hYl
  rw [eY] at HX
  clear eY hYl
  go_wp2_with fail
  go_loopw [7] (fun i wr => ∃ (j : Nat) (u : Value), j ≤ n ∧ i = .int .i64 j ∧ Boxed W wr u (Y ++ bitsOfBytes (zs.take j)) t) (fun i _ => n - (intOf i).toNat)
  case atStart => exact ⟨0, _, Nat.zero_le _, rfl, by rw [List.take_zero]; unfold bitsOfBytes; rw [List.flatMap_nil, List.append_nil]; exact HX.out⟩
  case round =>
    clear HX HB0 HB1 HR HBL hs1
    obtain ⟨j, u, hj, rfl, hx⟩ := hrel
    obtain ⟨uo, uc, rfl⟩ := listed_length hx.val
    have hlenX : (Y ++ bitsOfBytes (zs.take j)).length = la + 32 + 8 * j := by
      rw [List.length_append, bitsOfBytes_length, List.length_take, EYL.out, EN.out, Nat.min_eq_left hj]
    rw [hlenX] at hx
    obtain ⟨m, em⟩ : ∃ m, la + 32 + 8 * j = m := ⟨_, rfl⟩
    rw [em] at hx hlenX
    have HLX := Lib.hid hlenX
    have hm40 : m ≤ 549756338168 + 100 := by omega
    have HXL := Lib.hid hx
    have q0 := cell_of_block hx.box 0
    have q1 := cell_of_block hx.box 1
    have f2 := unfrozen_of_block hx.res 0
    have f3 := unfrozen_of_block hx.res 1
    have g2 := cell_of_block hx.res 0
    have g3 := cell_of_block hx.res 1
    clear hx hlenX em
    by_cases hjn : j < n
    · have hd : decide ((j : Int) < (n : Int)) = true := decide_eq_true (by omega)
      obtain ⟨z, ez⟩ : ∃ z, zs[j]? = some z := ⟨zs[j]'(by rw [EN.out]; exact hjn), List.getElem?_eq_getElem _⟩
      obtain ⟨b', off, cap, rfl, hlt, hcell⟩ := listed_cell HZ.out j z ez
      rw [EN.out] at hlen
      have hz256 : z < 256 := H8.out z (List.mem_of_getElem? ez)
      have hcell := (HXL.out.bl.cell (p := ⟨b', off + j, none⟩) hlt).trans hcell
      unfold byteVal at hcell
      have HT : Hid (Y ++ bitsOfBytes (zs.take (j + 1)) = Y ++ bitsOfBytes (zs.take j) ++ bitsOf z 8) := by
        show _ = _
        rw [List.take_add_one, ez, Option.toList_some, bitsOfBytes_snoc, List.append_assoc]
      rw [EN.out]
      have hwz : IntKind.i64.wrap (z : Int) = (z : Int) := by rw [IntKind.wrap_i64]; omega
      have hj0 : (0 : Int) ≤ (j : Int) := by omega
      have hjn2 : (j : Int) < (n : Int) := by omega
      clear ez
      have KB : Hid (Calls Try.prog 92 #[.agg #[.slice uo m uc, .int .i64 t], .int .i64 (z : Int), .int .i64 8, .bool false] wr.drew fun e w' =>
          ∃ o c, e = .returned (.agg #[.slice o (m + 8) c, .int .i64 t]) ∧ bools w' (.slice o (m + 8) c) (Y ++ bitsOfBytes (zs.take j) ++ bitsOf z 8) ∧ (∀ q, inBlock (.slice o (m + 8) c) q → wr.heap.size ≤ q) ∧ Below wr.drew.heap.size wr.drew w') := by
        have h := rbits_some _ _ t z 8 false wr.drew HXL.out.drew.val (by rw [HLX.out]; omega) (by decide) (by decide) (by omega)
        rwa [HLX.out] at h
      go_wp2_with fail
      refine wp_region_still_tail 6 (by kernel_rfl) (by kernel_rfl) ?_
      simp only [List.take_succ_cons, List.take_zero, List.drop_succ_cons, List.drop_zero]
      repeat still_step
      refine wpStill_nil ?_
      change wpList _ _ _ _ _ wr.drew
      go_wp2_with (go_at_call 92; refine KB.out.mono ?_; rintro e w9 ⟨o9, c9, rfl, v1, v2, hb9⟩; have hb0 := (hb9.block W.heap.size (by have := HXL.out.drew.sz; omega)).trans HXL.out.drew.box; have HX9 := Lib.hid (Boxed.store HXL.out.drew.box HXL.out.drew.res HXL.out.drew.bl HXL.out.drew.sz v1 (fun q hq => Nat.le_trans HXL.out.sz (v2 q hq)) hb9); have r0 := cell_of_block hb0 0; have r1 := cell_of_block hb0 1; have r2 := unfrozen_of_block hb0 0; have r3 := unfrozen_of_block hb0 1; clear hb0 v1 v2 hb9)
      go_roundw
      case rel => exact ⟨j + 1, _, by omega, by go_num, by rw [HT.out]; exact HX9.out⟩
      case measure => simp [intOf]; omega
    · have hd : decide ((j : Int) < (n : Int)) = false := decide_eq_false (by omega)
      obtain rfl : j = n := by omega
      have hall : zs.take j = zs := by rw [← EN.out, List.take_length]
      rw [hall] at HXL
      go_wp2_with fail
      refine bodyPost_ret (v := .agg #[.slice uo m uc, .int .i64 t]) ?_ rfl ⟨_, rfl, ?_, fun q hq => ?_, ?_⟩
      · simp [results, Try.results77, asAddr, Result.andThen, go_sem, g2, g3]
      · have hfin : storedBlock L zs last = Y ++ bitsOfBytes zs := by
          unfold storedBlock
          rw [← EY.out, ← EM.out, EN.out]
        rw [hfin]
        refine listed_kept HXL.out.val (Nat.le_of_eq (by simp)) (fun q hq => ?_)
        have hge := HXL.out.new q hq
        rw [Below.heap_setCell _ _ _ q (by show q ≠ W.heap.size + 1; omega), Below.heap_setCell _ _ _ q (by show q ≠ W.heap.size + 1; omega)]
      · have := HXL.out.new q hq
        omega
      · exact (HXL.out.bl.setCell (p := ⟨W.heap.size + 1, 0, none⟩) (Nat.le_succ _) _).setCell (p := ⟨W.heap.size + 1, 1, none⟩) (Nat.le_succ _) _
end Go.Proofs.Ytefdlidjdmlnaaa.Fx
namespace Go.Proofs.Ytefdlidjdmlnaaa.Fx
open Go Go.RowKit Go.Joins
set_option linter.unusedVariables false
def intVal (n : Nat) : Value := .int .i64 (n : Int)
abbrev intsIn (w : World) (v : Value) (l : List Nat) : Prop := listed intVal w v l
theorem lits_in (w : World) (l : List Nat) (n : Nat) (ty : TypeId) (hn : l.length = n) : intsIn (w.alloc (.cells (l.map intVal).toArray ty)) (.slice (some ⟨w.heap.size, 0, none⟩) n n) l := by
  subst hn
  refine .inr ⟨w.heap.size, 0, l.length, rfl, by show _ < (w.heap.push _).size; simp, Nat.le_refl _, fun j z hz => ?_⟩
  rw [Nat.zero_add, World.cell?_alloc_mark]
  simp [hz]
theorem two_rows (w : World) (l m : List Nat) (n k : Nat) (ty : TypeId) (hn : l.length = n) (hk : m.length = k) : intsIn ((w.alloc (.cells (l.map intVal).toArray ty)).alloc (.cells (m.map intVal).toArray ty)) (.slice (some ⟨w.heap.size, 0, none⟩) n n) l ∧ intsIn ((w.alloc (.cells (l.map intVal).toArray ty)).alloc (.cells (m.map intVal).toArray ty)) (.slice (some ⟨w.heap.size + 1, 0, none⟩) k k) m := by
  have hs : (w.alloc (.cells (l.map intVal).toArray ty)).heap.size = w.heap.size + 1 := by simp
  refine ⟨listed_on (lits_in w l n ty hn) ((Below.refl _ _).alloc (Nat.le_refl _) _), ?_⟩
  have := lits_in (w.alloc (.cells (l.map intVal).toArray ty)) m k ty hk
  rwa [hs] at this
set_option maxRecDepth 100000 in
theorem lengths_any (w : World) : Calls Try.prog 94 #[] w fun e w' => ∃ g h, e = .returned (.tuple #[.slice (some ⟨g, 0, none⟩) 29 29, .slice (some ⟨h, 0, none⟩) 29 29]) ∧ intsIn w' (.slice (some ⟨g, 0, none⟩) 29 29) lens ∧ intsIn w' (.slice (some ⟨h, 0, none⟩) 29 29) lext ∧ w.heap.size ≤ g ∧ w.heap.size ≤ h ∧ Below w.heap.size w w' := by
  go_enter Try.func94, Try.ntmps94
  go_wp2_with fail
  refine bodyPost_ret (v := .tuple #[.slice (some ⟨w.heap.size, 0, none⟩) 29 29, .slice (some ⟨w.heap.size + 1, 0, none⟩) 29 29]) (by simp [results, Try.results94, asAddr, go_sem]) rfl ?_
  obtain ⟨h1, h2⟩ := two_rows w lens lext 29 29 3 rfl rfl
  exact ⟨_, _, rfl, h1, h2, Nat.le_refl _, Nat.le_succ _, below_two w _ _⟩
set_option maxRecDepth 100000 in
theorem distances_any (w : World) : Calls Try.prog 96 #[] w fun e w' => ∃ g h, e = .returned (.tuple #[.slice (some ⟨g, 0, none⟩) 30 30, .slice (some ⟨h, 0, none⟩) 30 30]) ∧ intsIn w' (.slice (some ⟨g, 0, none⟩) 30 30) dists ∧ intsIn w' (.slice (some ⟨h, 0, none⟩) 30 30) dext ∧ w.heap.size ≤ g ∧ w.heap.size ≤ h ∧ Below w.heap.size w w' := by
  go_enter Try.func96, Try.ntmps96
  go_wp2_with fail
  refine bodyPost_ret (v := .tuple #[.slice (some ⟨w.heap.size, 0, none⟩) 30 30, .slice (some ⟨w.heap.size + 1, 0, none⟩) 30 30]) (by simp [results, Try.results96, asAddr, go_sem]) rfl ?_
  obtain ⟨h1, h2⟩ := two_rows w dists dext 30 30 3 rfl rfl
  exact ⟨_, _, rfl, h1, h2, Nat.le_refl _, Nat.le_succ _, below_two w _ _⟩
set_option maxRecDepth 100000 in
theorem find_any (v : Value) (l : List Nat) (n : Nat) (w : World) (hr : intsIn w v l) (hl : 0 < l.length) (hl2 : l.length ≤ 1000) (hn : n ≤ 1000000) :
    Calls Try.prog 95 #[v, .int .i64 (n : Int)] w fun e w' => e = .returned (.int .i64 (find l n : Nat)) ∧ w = w' := by
  have hlen := fun w => listed_len (u := 3) Try.underlying28 hr w
  have HR := Lib.hid hr
  obtain ⟨len, el⟩ : ∃ len, l.length = len := ⟨_, rfl⟩
  have EL := Lib.hid el
  have HF : Hid (findFrom l n len 0 = find l n) := by
    show _ = _
    unfold find
    rw [el]
  rw [el] at hlen hl hl2
  clear hr el
  obtain ⟨F, eF⟩ : ∃ F, find l n = F := ⟨_, rfl⟩
  rw [eF] at HF ⊢
  clear eF
  go_enter Try.func95, Try.ntmps95
  go_wp2_with fail
  go_loop [5] (fun s => ∃ k f : Nat, k < len ∧ len ≤ k + f ∧ s = .int .i64 (k : Int) ∧ Hid (findFrom l n f k = F)) (fun s => len - (intOf s).toNat)
  case atStart => exact ⟨0, len, hl, by omega, rfl, HF⟩
  case round =>
    obtain ⟨k, f, hk, hf, rfl, hF⟩ := hrel
    by_cases h1 : k + 1 < len
    · have hd1 : decide ((k : Int) + 1 < (len : Int)) = true := decide_eq_true (by omega)
      obtain ⟨g, rfl⟩ : ∃ g, f = g + 1 := ⟨f - 1, by omega⟩
      obtain ⟨z, ez⟩ : ∃ z, l[k + 1]? = some z := ⟨l[k + 1]'(by rw [EL.out]; exact h1), List.getElem?_eq_getElem _⟩
      obtain ⟨b, off, cap, rfl, hlt, hcell⟩ := listed_cell HR.out (k + 1) z ez
      have hzd : l.getD (k + 1) 0 = z := by rw [List.getD_eq_getElem?_getD, ez]; rfl
      have HZ := Lib.hid hzd
      rw [EL.out]
      unfold intVal at hcell
      have hi : (0 : Int) ≤ (k : Int) + 1 := by omega
      have hi2 : (k : Int) + 1 < (len : Int) := by omega
      clear ez hzd
      by_cases h2 : z ≤ n
      · have hd2 : decide ((z : Int) ≤ (n : Int)) = true := decide_eq_true (by omega)
        have HG : Hid (findFrom l n g (k + 1) = F) := by
          have := hF.out
          unfold findFrom at this
          rwa [if_pos ⟨by rw [EL.out]; exact h1, by rw [HZ.out]; exact h2⟩] at this
        go_wp2_with fail
        go_round
        case rel => exact ⟨k + 1, g, h1, by omega, by go_num, HG⟩
        case measure => simp [intOf]; omega
      · have hd2 : decide ((z : Int) ≤ (n : Int)) = false := decide_eq_false (by omega)
        have HG : Hid (k = F) := by
          have := hF.out
          unfold findFrom at this
          rwa [if_neg (fun h => by rw [HZ.out] at h; omega)] at this
        go_wp2_with fail
        all_goals go_ret
        all_goals exact ⟨by rw [← HG.out]; rfl, rfl⟩
    · have hd1 : decide ((k : Int) + 1 < (len : Int)) = false := decide_eq_false (by omega)
      have HG : Hid (k = F) := by
        have := hF.out
        cases f with
        | zero => exact this
        | succ f =>
          unfold findFrom at this
          rwa [if_neg (fun h => by rw [EL.out] at h; omega)] at this
      go_wp2_with fail
      all_goals go_ret
      all_goals exact ⟨by rw [← HG.out]; rfl, rfl⟩
end Go.Proofs.Ytefdlidjdmlnaaa.Fx
namespace Go.Proofs.Ytefdlidjdmlnaaa.Fx
open Go Go.RowKit Go.Joins
set_option linter.unusedVariables false
theorem below_drewN {B : Nat} {a w : World} (h : Below B a w) (n : Nat) : Below B a (w.drewN n) := ⟨h.os, h.tape, h.output, h.size, h.block⟩
theorem sameFrom_go (b : List Nat) (p i up f n : Nat) (h1 : i + n < up) (h2 : b[p + n]? = b[i + n]?) : sameFrom b p i up (f + 1) n = sameFrom b p i up f (n + 1) := by
  rw [sameFrom, if_pos ⟨h1, h2⟩]
theorem sameFrom_stop (b : List Nat) (p i up f n : Nat) (h : ¬ (i + n < up ∧ b[p + n]? = b[i + n]?)) : sameFrom b p i up f n = n := by
  cases f with
  | zero => rfl
  | succ f => rw [sameFrom, if_neg h]
set_option maxHeartbeats 1000000 in
set_option maxRecDepth 100000 in
theorem match_row (b off cap : Nat) (zs : List Nat) (i up : Nat) (W : World) (hlt : b < W.heap.size) (hr : ∀ j z, zs[j]? = some z → W.cell? ⟨b, off + j, none⟩ = some (byteVal z)) (hi : i ≤ up) (ht : up ≤ zs.length) (hz : zs.length ≤ 1099511627776) :
    Calls Try.prog 97 #[.slice (some ⟨b, off, none⟩) zs.length cap, .int .i64 (i : Int), .int .i64 (up : Int)] W fun e w' => e = .returned (.tuple #[.int .i64 ((matchOf zs i up).1 : Nat), .int .i64 ((matchOf zs i up).2 : Nat)]) ∧ Below W.heap.size W w' := by
  have HR := Lib.hid hr
  obtain ⟨len, el⟩ : ∃ len, zs.length = len := ⟨_, rfl⟩
  have EL := Lib.hid el
  rw [el] at ht hz ⊢
  clear hr el
  obtain ⟨N, hN⟩ : ∃ N, min i 32768 = N := ⟨_, rfl⟩
  have HM : Hid (matchOf zs i up = bestOf zs i up N) := by
    show _ = _
    unfold matchOf
    rw [hN]
  obtain ⟨F1, e1⟩ : ∃ x, (matchOf zs i up).1 = x := ⟨_, rfl⟩
  obtain ⟨F2, e2⟩ : ∃ x, (matchOf zs i up).2 = x := ⟨_, rfl⟩
  rw [e1, e2]
  have HE1 := Lib.hid e1
  have HE2 := Lib.hid e2
  clear e1 e2
  go_enter Try.func97, Try.ntmps97
  go_wp2_with fail
  have hb0 := Below.refl W.heap.size W
  go_loopw [8, 9, 10] (fun s8 s9 s10 wr => ∃ j b1 b2 : Nat, j ≤ N ∧ s8 = .int .i64 (b1 : Int) ∧ s9 = .int .i64 (b2 : Int) ∧ s10 = .int .i64 ((i : Int) - 1 - (j : Int)) ∧ Hid (bestOf zs i up j = (b1, b2)) ∧ Below W.heap.size W wr) (fun _ _ s10 _ => (intOf s10 + 1).toNat)
  case atStart => exact ⟨0, 0, 0, Nat.zero_le _, rfl, rfl, by go_num, Lib.hid rfl, hb0⟩
  case round =>
    clear hb0
    obtain ⟨j, b1, b2, hj, rfl, rfl, rfl, hbest, hbl⟩ := hrel
    have hbb : b1 ≤ 258 := by
      have := (bestOf_spec zs i up j (by omega)).1
      rw [hbest.out] at this
      exact this
    have HBL := Lib.hid hbl
    clear hbl
    by_cases hjN : j < N
    · obtain ⟨p, hp⟩ : ∃ p : Nat, (i : Int) - 1 - (j : Int) = (p : Int) := ⟨i - 1 - j, by omega⟩
      have hp2 : i - 1 - j = p := by omega
      have HP := Lib.hid hp2
      have HPI := Lib.hid hp
      have hpi : p < i := by omega
      rw [hp]
      have d1 : decide ((0 : Int) ≤ (p : Int)) = true := decide_eq_true (by omega)
      have d2 : decide ((i : Int) - 32768 ≤ (p : Int)) = true := decide_eq_true (by omega)
      clear hp hp2
      obtain ⟨S, eS⟩ : ∃ S, same zs p i up = S := ⟨_, rfl⟩
      have ES : Hid (sameFrom zs p i up 258 0 = S) := eS
      have HS := Lib.hid eS
      clear eS
      go_upto_block 2 with fail
      go_cut [11] (fun s11 wx => s11 = .int .i64 (S : Int) ∧ Below W.heap.size W wx)
      case first =>
        go_wp2_with fail
        go_loopw [11] (fun s11 wx => ∃ n f : Nat, n + f = 258 ∧ s11 = .int .i64 (n : Int) ∧ Hid (sameFrom zs p i up f n = S) ∧ Below W.heap.size W wx) (fun s11 _ => 258 - (intOf s11).toNat)
        case atStart => exact ⟨0, 258, rfl, rfl, ES, HBL.out⟩
        case round =>
          obtain ⟨n, f, hnf, rfl, hF, hbl⟩ := hrel
          have HBL2 := Lib.hid hbl
          clear hbl
          by_cases hn : n < 258
          · have c1 : decide ((n : Int) < 258) = true := decide_eq_true (by omega)
            obtain ⟨f', rfl⟩ : ∃ g, f = g + 1 := ⟨f - 1, by omega⟩
            have hw1 : IntKind.i64.wrap ((i : Int) + (n : Int)) = (i : Int) + (n : Int) := by rw [IntKind.wrap_i64]; omega
            have hw2 : IntKind.i64.wrap ((p : Int) + (n : Int)) = (p : Int) + (n : Int) := by rw [IntKind.wrap_i64]; omega
            obtain ⟨P, eP⟩ : ∃ P, p + n = P := ⟨_, rfl⟩
            obtain ⟨I, eI⟩ : ∃ I, i + n = I := ⟨_, rfl⟩
            have hPs : (p : Int) + (n : Int) = (P : Int) := by omega
            have hIs : (i : Int) + (n : Int) = (I : Int) := by omega
            rw [hPs] at hw2
            rw [hIs] at hw1
            by_cases hin : i + n < up
            · have c2 : decide ((I : Int) < (up : Int)) = true := decide_eq_true (by omega)
              have c2n : decide (I < up) = true := decide_eq_true (by omega)
              have hIu : I < up := by omega
              obtain ⟨x, ex⟩ : ∃ x, zs[p + n]? = some x := ⟨zs[p + n]'(by rw [EL.out]; omega), List.getElem?_eq_getElem _⟩
              obtain ⟨y, ey⟩ : ∃ y, zs[i + n]? = some y := ⟨zs[i + n]'(by rw [EL.out]; omega), List.getElem?_eq_getElem _⟩
              have hcx := (HBL2.out.cell (p := ⟨b, off + (p + n), none⟩) hlt).trans (HR.out _ _ ex)
              have hcy := (HBL2.out.cell (p := ⟨b, off + (i + n), none⟩) hlt).trans (HR.out _ _ ey)
              unfold byteVal at hcx hcy
              have hI : I < len := by omega
              have hP : P < len := by omega
              have HXY := Lib.hid (And.intro ex ey)
              rw [eP] at hcx
              rw [eI] at hcy
              have i1 : (0 : Int) ≤ (P : Int) := by omega
              have i2 : (P : Int) < (len : Int) := by omega
              have i3 : (0 : Int) ≤ (I : Int) := by omega
              have i4 : (I : Int) < (len : Int) := by omega
              clear ex ey eP eI
              by_cases hxy : x = y
              · have c3 : ((x : Int) == (y : Int)) = true := by simp [hxy]
                have HF2 := Lib.hid (hF.out.symm.trans (sameFrom_go zs p i up f' n hin (by rw [HXY.out.1, HXY.out.2, hxy]))).symm
                subst hxy
                go_wp2_with fail
                go_still (by kernel_rfl)
                go_wp2_with fail
                go_roundw
                case rel => exact ⟨n + 1, f', by omega, by go_num, HF2, HBL2.out.drew⟩
                case measure => simp [intOf]; omega
              · have c3 : ((x : Int) == (y : Int)) = false := by simp; omega
                have c4 : decide ((x : Int) = (y : Int)) = false := decide_eq_false (by omega)
                have HF2 : Hid (n = S) := by
                  have := hF.out
                  rwa [sameFrom_stop zs p i up _ n (fun h => by rw [HXY.out.1, HXY.out.2] at h; exact hxy (Option.some.inj h.2))] at this
                go_wp2_with fail
                go_quiet (fail)
                go_wp2_with fail
                all_goals go_meet
                all_goals exact ⟨by rw [← HF2.out], below_drewN HBL2.out _⟩
            · have c2 : decide ((I : Int) < (up : Int)) = false := decide_eq_false (by omega)
              have c2n : decide (I < up) = false := decide_eq_false (by omega)
              have hIu : ¬ I < up := by omega
              have HF2 : Hid (n = S) := by
                have := hF.out
                rwa [sameFrom_stop zs p i up _ n (fun h => hin h.1)] at this
              clear eP eI hin
              go_wp2_with fail
              go_quiet (fail)
              go_wp2_with fail
              all_goals go_meet
              all_goals exact ⟨by rw [← HF2.out], below_drewN HBL2.out _⟩
          · have c1 : decide ((n : Int) < 258) = false := decide_eq_false (by omega)
            have HF2 : Hid (n = S) := by
              obtain rfl : f = 0 := by omega
              exact hF.out
            go_wp2_with fail
            go_quiet (fail)
            go_wp2_with fail
            all_goals go_meet
            all_goals exact ⟨by rw [← HF2.out], below_drewN HBL2.out _⟩
      case rest =>
        obtain ⟨rfl, hbl2⟩ := hcut
        have HB3 := Lib.hid hbl2
        clear hbl2
        have hsb : S ≤ 258 := by
          have := (same_spec zs p i up).1
          rw [HS.out] at this
          exact this
        by_cases hgt : b1 < S
        · have c1 : decide ((b1 : Int) < (S : Int)) = true := decide_eq_true (by omega)
          have HN : Hid (bestOf zs i up (j + 1) = (S, p)) := by
            show _ = _
            rw [bestOf, HP.out, HS.out, hbest.out, if_pos hgt]
          go_wp2_with fail
          go_roundw
          case rel => exact ⟨j + 1, S, p, by omega, rfl, rfl, by rw [show (i : Int) - 1 - ((j + 1 : Nat) : Int) = (p : Int) - 1 by have := HPI.out; omega], HN, HB3.out⟩
          case measure => first | (simp [intOf]; done) | (simp [intOf]; omega)
        · have c1 : decide ((b1 : Int) < (S : Int)) = false := decide_eq_false (by omega)
          have HN : Hid (bestOf zs i up (j + 1) = (b1, b2)) := by
            show _ = _
            rw [bestOf, HP.out, HS.out, hbest.out, if_neg hgt]
          go_wp2_with fail
          go_roundw
          case rel => exact ⟨j + 1, b1, b2, by omega, rfl, rfl, by rw [show (i : Int) - 1 - ((j + 1 : Nat) : Int) = (p : Int) - 1 by have := HPI.out; omega], HN, HB3.out⟩
          case measure => first | (simp [intOf]; done) | (simp [intOf]; omega)
    · obtain rfl : j = N := by omega
      have d12 : decide ((0 : Int) ≤ (i : Int) - 1 - (j : Int)) = false ∨ (decide ((0 : Int) ≤ (i : Int) - 1 - (j : Int)) = true ∧ decide ((i : Int) - 32768 ≤ (i : Int) - 1 - (j : Int)) = false) := by
        by_cases h : i ≤ 32768
        · exact .inl (decide_eq_false (by omega))
        · exact .inr ⟨decide_eq_true (by omega), decide_eq_false (by omega)⟩
      have HF1 : Hid (b1 = F1) := by
        show _ = _
        rw [← HE1.out, HM.out, hbest.out]
      have HF2 : Hid (b2 = F2) := by
        show _ = _
        rw [← HE2.out, HM.out, hbest.out]
      obtain ⟨Q, eQ⟩ : ∃ Q, (i : Int) - 1 - (j : Int) = Q := ⟨_, rfl⟩
      rw [eQ] at d12 ⊢
      clear eQ
      rcases d12 with d1 | ⟨d1, d2⟩
      · go_wp2_with fail
        all_goals refine bodyPost_ret (v := .tuple #[.int .i64 (b1 : Int), .int .i64 (b2 : Int)]) (by simp [results, Try.results97, asAddr, go_sem]) rfl ⟨by rw [HF1.out, HF2.out], HBL.out⟩
      · go_wp2_with fail
        all_goals refine bodyPost_ret (v := .tuple #[.int .i64 (b1 : Int), .int .i64 (b2 : Int)]) (by simp [results, Try.results97, asAddr, go_sem]) rfl ⟨by rw [HF1.out, HF2.out], HBL.out⟩
theorem match_any (v : Value) (zs : List Nat) (i up : Nat) (W : World) (hr : bytesIn W v zs) (hi : i ≤ up) (ht : up ≤ zs.length) (hz : zs.length ≤ 1099511627776) :
    Calls Try.prog 97 #[v, .int .i64 (i : Int), .int .i64 (up : Int)] W fun e w' => e = .returned (.tuple #[.int .i64 ((matchOf zs i up).1 : Nat), .int .i64 ((matchOf zs i up).2 : Nat)]) ∧ Below W.heap.size W w' := by
  rcases hr with ⟨⟨o, cap, rfl, _⟩, rfl⟩ | ⟨b, off, cap, rfl, hlt, _, hc⟩
  · obtain rfl : up = 0 := by simpa using ht
    obtain rfl : i = 0 := by omega
    have hm : matchOf [] 0 0 = (0, 0) := rfl
    rw [hm]
    go_enter Try.func97, Try.ntmps97
    go_wp2_with fail
    refine wp_loop_rounds 1 ?_
    rw [rounds_succ]
    go_wp2_with fail
    all_goals exact bodyPost_ret (v := .tuple #[.int .i64 0, .int .i64 0]) (by simp [results, Try.results97, asAddr, go_sem]) rfl ⟨rfl, Below.refl _ _⟩
  · exact match_row b off cap zs i up W hlt hc hi ht hz
end Go.Proofs.Ytefdlidjdmlnaaa.Fx
namespace Go.Proofs.Ytefdlidjdmlnaaa.Fx
open Go Go.RowKit Go.Joins
set_option linter.unusedVariables false
/-- A token's cells. -/
def tokCells (t : Tok) : List Value := [.int .i64 (t.n : Int), .int .i64 (t.back : Int), .int .u8 (t.b : Int)]
def toksCells (ts : List Tok) : List Value := ts.flatMap tokCells
theorem toksCells_length (ts : List Tok) : (toksCells ts).length = ts.length * 3 := by
  unfold toksCells
  induction ts with
  | nil => rfl
  | cons t ts ih =>
    rw [List.flatMap_cons, List.length_append, ih, List.length_cons]
    simp [tokCells]
    omega
theorem toksCells_snoc (ts : List Tok) (t : Tok) : toksCells (ts ++ [t]) = toksCells ts ++ tokCells t := by
  unfold toksCells
  rw [List.flatMap_append]
  simp
theorem toksCells_at (ts : List Tok) (i : Nat) (t : Tok) (h : ts[i]? = some t) : (toksCells ts)[i * 3]? = some (.int .i64 (t.n : Int)) ∧ (toksCells ts)[i * 3 + 1]? = some (.int .i64 (t.back : Int)) ∧ (toksCells ts)[i * 3 + 2]? = some (.int .u8 (t.b : Int)) := by
  induction ts generalizing i with
  | nil => simp at h
  | cons d ts ih =>
    have e : toksCells (d :: ts) = tokCells d ++ toksCells ts := by
      unfold toksCells
      rw [List.flatMap_cons]
    have hl : (tokCells d).length = 3 := rfl
    rw [e]
    cases i with
    | zero =>
      obtain rfl := Option.some.inj h
      exact ⟨rfl, rfl, rfl⟩
    | succ i =>
      obtain ⟨h1, h2, h3⟩ := ih i (by simpa using h)
      refine ⟨?_, ?_, ?_⟩
      · rw [List.getElem?_append_right (by rw [hl]; omega), hl, show (i + 1) * 3 - 3 = i * 3 by omega]
        exact h1
      · rw [List.getElem?_append_right (by rw [hl]; omega), hl, show (i + 1) * 3 + 1 - 3 = i * 3 + 1 by omega]
        exact h2
      · rw [List.getElem?_append_right (by rw [hl]; omega), hl, show (i + 1) * 3 + 2 - 3 = i * 3 + 2 by omega]
        exact h3
/-- A slice's value that reads as these tokens. -/
def toksIn (w : World) (v : Value) (ts : List Tok) : Prop :=
  (v = .slice none 0 0 ∧ ts = []) ∨ ∃ g cap, v = .slice (some ⟨g, 0, none⟩) ts.length cap ∧ g < w.heap.size ∧ ∀ i t, ts[i]? = some t → w.cell? ⟨g, i * 3, none⟩ = some (.int .i64 (t.n : Int)) ∧ w.cell? ⟨g, i * 3 + 1, none⟩ = some (.int .i64 (t.back : Int)) ∧ w.cell? ⟨g, i * 3 + 2, none⟩ = some (.int .u8 (t.b : Int))
theorem toksIn_own {w : World} {base : Nat} {v : Value} {ts : List Tok} {e : TypeId} (h : w.ownsRow base e 3 v ts.length (toksCells ts)) : toksIn w v ts := by
  rcases h.2 with ⟨rfl, h0⟩ | ⟨g, cap, cur, rfl, _, hg, _⟩
  · exact .inl ⟨rfl, List.eq_nil_of_length_eq_zero h0⟩
  · refine .inr ⟨g, cap, rfl, (Array.getElem?_eq_some_iff.1 hg).1, fun i t hi => ?_⟩
    obtain ⟨h1, h2, h3⟩ := toksCells_at ts i t hi
    have k1 := h.cells rfl _ _ h1
    have k2 := h.cells rfl _ _ h2
    have k3 := h.cells rfl _ _ h3
    rw [Addr.add_lit, Nat.zero_add] at k1 k2 k3
    exact ⟨k1, k2, k3⟩
theorem toksIn_on {w w' : World} {v : Value} {ts : List Tok} (h : toksIn w v ts) (hb : Below w.heap.size w w') : toksIn w' v ts := by
  rcases h with h | ⟨g, cap, rfl, hlt, hc⟩
  · exact .inl h
  · exact .inr ⟨g, cap, rfl, Nat.lt_of_lt_of_le hlt hb.size, fun i t hi => ⟨(hb.cell hlt).trans (hc i t hi).1, (hb.cell hlt).trans (hc i t hi).2.1, (hb.cell hlt).trans (hc i t hi).2.2⟩⟩
theorem row3_any {w : World} {base : Nat} {e : TypeId} {v : Value} {n : Nat} {xs : List Value} (h : w.ownsRow base e 3 v n xs) : ∃ o cap, v = .slice o n cap := by
  rcases h.2 with ⟨rfl, rfl⟩ | ⟨g, cap, cur, rfl, _⟩
  · exact ⟨none, 0, rfl⟩
  · exact ⟨_, cap, rfl⟩
theorem new_cells (w : World) (xs : List Value) (ty : TypeId) (j : Nat) (u : Value) (h : xs[j]? = some u) : (w.alloc (.cells xs.toArray ty)).cell? ((⟨w.heap.size, 0, none⟩ : Addr).add j) = some u := by
  rw [Addr.add_lit, Nat.zero_add, World.cell?_alloc_mark]
  simp [h]
theorem infoT : (Try.prog.info? 157).map (fun i => (i.zero, i.size, i.bytes)) = some (some (.agg #[.int .i64 0, .int .i64 0, .int .u8 0]), 3, 24) := by kernel_rfl
theorem matchOf_le (b : List Nat) (i up : Nat) : (matchOf b i up).1 ≤ 258 ∧ (0 < (matchOf b i up).1 → (matchOf b i up).2 < i ∧ i + (matchOf b i up).1 ≤ up) := by
  refine ⟨(bestOf_spec b i up _ (Nat.min_le_left _ _)).1, fun h => ?_⟩
  obtain ⟨_, h2, _, h4, _⟩ := matchOf_spec b i up h
  exact ⟨h2, h4⟩
set_option maxHeartbeats 2000000 in
set_option maxRecDepth 100000 in
theorem tokens_any (v : Value) (zs : List Nat) (a up : Nat) (W : World) (hr : bytesIn W v zs) (h8 : ∀ x ∈ zs, x < 256) (ha : a ≤ up) (ht : up ≤ zs.length) (hz : zs.length ≤ 1099511627776) (hs : up - a ≤ 1000000) :
    Calls Try.prog 79 #[v, .int .i64 (a : Int), .int .i64 (up : Int)] W fun e w' => ∃ u, e = .returned u ∧ toksIn w' u (tokens zs a up) ∧ Below W.heap.size W w' := by
  have HR := Lib.hid hr
  have H8 := Lib.hid h8
  obtain ⟨vo, vc, rfl⟩ := listed_length hr
  obtain ⟨len, el⟩ : ∃ len, zs.length = len := ⟨_, rfl⟩
  have EL := Lib.hid el
  rw [el] at ht hz HR ⊢
  clear hr h8 el
  obtain ⟨T, eT⟩ : ∃ T, tokens zs a up = T := ⟨_, rfl⟩
  have HT : Hid ([] ++ toks zs up (up - a) a = T) := by
    show _ = _
    rw [← eT]
    rfl
  rw [eT]
  clear eT
  obtain ⟨i0, hi0, hz0, hz1, hz2⟩ := info_parts infoT
  go_enter Try.func79, Try.ntmps79
  go_wp2_with fail
  go_loopw [7, 8] (fun s7 s8 wr => ∃ (k f : Nat) (ts : List Tok), k ≤ up ∧ a ≤ k ∧ up ≤ k + f ∧ ts.length ≤ k - a ∧ s8 = .int .i64 (k : Int) ∧ Hid (ts ++ toks zs up f k = T) ∧ wr.ownsRow W.heap.size 157 3 s7 ts.length (toksCells ts) ∧ Below W.heap.size W wr) (fun _ s8 _ => up - (intOf s8).toNat)
  case atStart => exact ⟨a, up - a, [], ha, Nat.le_refl _, by omega, Nat.zero_le _, rfl, HT, World.ownsRow_nil _ _ _ _, Below.refl _ _⟩
  case round =>
    obtain ⟨k, f, ts, hk, hak, hf, hts, rfl, hT, hown, hbl⟩ := hrel
    obtain ⟨oo, oc, rfl⟩ := row3_any hown
    have HOWN := Lib.hid hown
    have HBL := Lib.hid hbl
    obtain ⟨m, em⟩ : ∃ m, ts.length = m := ⟨_, rfl⟩
    rw [em] at HOWN hts ⊢
    have EM := Lib.hid em
    have hsz := hbl.size
    clear hown hbl em
    by_cases hku : k < up
    · have d1 : decide ((k : Int) < (up : Int)) = true := decide_eq_true (by omega)
      obtain ⟨f', rfl⟩ : ∃ g, f = g + 1 := ⟨f - 1, by omega⟩
      have KM := match_any (.slice vo len vc) zs k up wr (listed_on HR.out HBL.out) hk (by rw [EL.out]; exact ht) (by rw [EL.out]; exact hz)
      obtain ⟨hm1, hm2⟩ := matchOf_le zs k up
      obtain ⟨n, en⟩ : ∃ n, (matchOf zs k up).1 = n := ⟨_, rfl⟩
      obtain ⟨p, ep⟩ : ∃ p, (matchOf zs k up).2 = p := ⟨_, rfl⟩
      rw [en] at KM hm1 hm2
      rw [ep] at KM hm2
      by_cases h3 : 3 ≤ n
      · have d3 : decide ((3 : Int) ≤ (n : Int)) = true := decide_eq_true (by omega)
        obtain ⟨hp, hn⟩ := hm2 (by omega)
        have hkp : (k : Int) - (p : Int) = ((k - p : Nat) : Int) := by omega
        have HN : Hid ((ts ++ [⟨n, k - p, 0⟩]) ++ toks zs up f' (k + n) = T) := by
          have := hT.out
          rw [toks, if_pos hku, en, ep, if_pos h3] at this
          show _ = _
          rw [← this, List.append_assoc]
          rfl
        obtain ⟨q, eq⟩ : ∃ q, k - p = q := ⟨_, rfl⟩
        rw [eq] at hkp HN
        clear eq en ep hm2 hT
        go_wp2_with fail
        go_at_call 97
        refine KM.mono ?_
        rintro e w2 ⟨rfl, hb2⟩
        have HB2 := Lib.hid hb2
        have hs2 := hb2.size
        have hown2 : w2.ownsRow W.heap.size 157 3 (.slice oo m oc) m (toksCells ts) := HOWN.out.kept (row := none) ⟨hb2.os, hb2.tape, hb2.output, hb2.size, fun q hq _ => hb2.block q hq⟩ (by cases hv : (Value.slice oo m oc).ownBlock <;> simp)
        have HO2 := Lib.hid hown2
        clear hb2 KM hown2
        go_wp2_with (at_builtin; refine wpList_append_own _ rfl _ _ 135 rfl W.heap.size 157 i0 (.agg #[.int .i64 0, .int .i64 0, .int .u8 0]) 3 24 Try.underlying135 hi0 hz0 hz1 hz2 rfl (by decide) (.slice oo m oc) m (toksCells ts) rfl (HO2.out.alloc _) ⟨w2.heap.size, 0, none⟩ 1 1 (tokCells ⟨n, q, 0⟩) rfl rfl (fun j u hj => new_cells w2 (tokCells ⟨n, q, 0⟩) _ j u hj) (fun u hu => by simp [tokCells] at hu; rcases hu with rfl | rfl | rfl <;> rfl) (by unfold maxLen; omega) (by omega) (by simp; omega) ?_)
        intro v' w3 hown3 hgrow _
        have HB3 := Lib.hid ((((HBL.out.trans (HB2.out.mono hsz)).alloc (by omega) _).grown hgrow (by simp; omega) (fun q hq => (HOWN.out.lt q hq).1)))
        have HO3 : Hid (w3.ownsRow W.heap.size 157 3 v' (ts ++ [(⟨n, q, 0⟩ : Tok)]).length (toksCells (ts ++ [(⟨n, q, 0⟩ : Tok)]))) := by
          show World.ownsRow _ _ _ _ _ _ _
          rw [toksCells_snoc, List.length_append, EM.out]
          exact hown3
        clear hown3 hgrow
        go_wp2_with fail
        go_roundw
        case rel => exact ⟨k + n, f', ts ++ [⟨n, q, 0⟩], by omega, by omega, by omega, by rw [List.length_append, EM.out]; simp only [List.length_singleton]; omega, by go_num, HN, HO3.out, HB3.out⟩
        case measure => simp [intOf]; omega
      · have d3 : decide ((3 : Int) ≤ (n : Int)) = false := decide_eq_false (by omega)
        obtain ⟨x, ex⟩ : ∃ x, zs[k]? = some x := ⟨zs[k]'(by rw [EL.out]; omega), List.getElem?_eq_getElem _⟩
        have hx : zs.getD k 0 = x := by rw [List.getD_eq_getElem?_getD, ex]; rfl
        have hx8 : x < 256 := H8.out x (List.mem_of_getElem? ex)
        have HN : Hid ((ts ++ [⟨0, 0, x⟩]) ++ toks zs up f' (k + 1) = T) := by
          have := hT.out
          rw [toks, if_pos hku, en, if_neg h3, hx] at this
          show _ = _
          rw [← this, List.append_assoc]
          rfl
        obtain ⟨b, off, cap, ev, hlt, hcell⟩ := listed_cell HR.out k x ex
        rw [EL.out] at ev
        simp only [Value.slice.injEq] at ev
        obtain ⟨rfl, _, rfl⟩ := ev
        unfold byteVal at hcell
        have HCELL := Lib.hid hcell
        have k0 : (0 : Int) ≤ (k : Int) := by omega
        have k1 : (k : Int) < (len : Int) := by omega
        clear en ep hm2 hT ex hx hcell
        go_wp2_with fail
        go_at_call 97
        refine KM.mono ?_
        rintro e w2 ⟨rfl, hb2⟩
        have HB2 := Lib.hid hb2
        have hs2 := hb2.size
        have hown2 : w2.ownsRow W.heap.size 157 3 (.slice oo m oc) m (toksCells ts) := HOWN.out.kept (row := none) ⟨hb2.os, hb2.tape, hb2.output, hb2.size, fun q hq _ => hb2.block q hq⟩ (by cases hv : (Value.slice oo m oc).ownBlock <;> simp)
        have HO2 := Lib.hid hown2
        clear hb2 KM hown2
        have hcell := ((HBL.out.trans (HB2.out.mono hsz)).cell (p := ⟨b, off + k, none⟩) hlt).trans HCELL.out
        go_wp2_with (at_builtin; refine wpList_append_own _ rfl _ _ 135 rfl W.heap.size 157 i0 (.agg #[.int .i64 0, .int .i64 0, .int .u8 0]) 3 24 Try.underlying135 hi0 hz0 hz1 hz2 rfl (by decide) (.slice oo m oc) m (toksCells ts) rfl (HO2.out.alloc _) ⟨w2.heap.size, 0, none⟩ 1 1 (tokCells ⟨0, 0, x⟩) rfl rfl (fun j u hj => new_cells w2 (tokCells ⟨0, 0, x⟩) _ j u hj) (fun u hu => by simp [tokCells] at hu; rcases hu with rfl | rfl | rfl <;> rfl) (by unfold maxLen; omega) (by omega) (by simp; omega) ?_)
        intro v' w3 hown3 hgrow _
        have HB3 := Lib.hid ((((HBL.out.trans (HB2.out.mono hsz)).alloc (by omega) _).grown hgrow (by simp; omega) (fun q hq => (HOWN.out.lt q hq).1)))
        have HO3 : Hid (w3.ownsRow W.heap.size 157 3 v' (ts ++ [(⟨0, 0, x⟩ : Tok)]).length (toksCells (ts ++ [(⟨0, 0, x⟩ : Tok)]))) := by
          show World.ownsRow _ _ _ _ _ _ _
          rw [toksCells_snoc, List.length_append, EM.out]
          exact hown3
        clear hown3 hgrow
        go_wp2_with fail
        go_roundw
        case rel => exact ⟨k + 1, f', ts ++ [⟨0, 0, x⟩], by omega, by omega, by omega, by rw [List.length_append, EM.out]; simp only [List.length_singleton]; omega, by go_num, HN, HO3.out, HB3.out⟩
        case measure => simp [intOf]; omega
    · have d1 : decide ((k : Int) < (up : Int)) = false := decide_eq_false (by omega)
      have HN : Hid (ts = T) := by
        have := hT.out
        show ts = T
        cases f with
        | zero => simpa [toks] using this
        | succ f =>
          rw [toks, if_neg hku, List.append_nil] at this
          exact this
      go_wp2_with fail
      all_goals go_ret
      all_goals exact ⟨_, rfl, by rw [← HN.out]; exact toksIn_own (by rw [EM.out]; exact HOWN.out), HBL.out⟩
end Go.Proofs.Ytefdlidjdmlnaaa.Fx
