/-
  The document's own answers of layer 6: bits of a number, symbols, finding a code. The conditions stand in each.
-/
import Derived.Test.YtggkmbnogdikkaaBitsT
import Derived.Test.YtggkmbnogdikkaaDeflP
namespace Go.Proofs.Ytggkmbnogdikkaa.Fx
open Go Go.RowKit Go.Joins
set_option linter.unusedVariables false
/-- k bits of a number, in the one order or the other. -/
def someBits (n k : Nat) (b : Bool) : List Bool := if b then turned n k else bitsOf n k
theorem someBits_length (n k : Nat) (b : Bool) : (someBits n k b).length = k := by
  unfold someBits
  split
  · exact turned_length n k
  · exact bitsOf_length n k
theorem bitsOf_bit (n k j : Nat) (h : j < k) : (bitsOf n k)[j]? = some (n / 2 ^ j % 2 == 1) := by
  obtain ⟨d, rfl⟩ : ∃ d, k = j + 1 + d := ⟨k - (j + 1), by omega⟩
  rw [bitsOf_add, List.getElem?_append_left (by rw [bitsOf_length]; omega), bitsOf_next, List.getElem?_append_right (by rw [bitsOf_length]; omega), bitsOf_length, Nat.sub_self]
  rfl
theorem someBits_next (n k i : Nat) (b : Bool) (h : i < k) : (someBits n k b).take (i + 1) = (someBits n k b).take i ++ bitsOf (n / 2 ^ (if b then k - 1 - i else i) % 2) 1 := by
  have hb : ∀ x : Nat, bitsOf (x % 2) 1 = [x % 2 == 1] := fun x => by
    unfold bitsOf
    rw [Nat.mod_mod]
    rfl
  rw [List.take_add_one, hb]
  congr 1
  unfold someBits
  cases b with
  | false =>
    simp only [Bool.false_eq_true, if_false]
    rw [bitsOf_bit n k i h]
    rfl
  | true =>
    simp only [if_true]
    unfold turned
    rw [List.getElem?_reverse (by rw [bitsOf_length]; exact h), bitsOf_length, bitsOf_bit n k (k - 1 - i) (by omega)]
    rfl
set_option maxHeartbeats 4000000 in
set_option maxRecDepth 100000 in
theorem rbits_any (vL : Value) (L : List Bool) (t : Int) (n k : Nat) (b : Bool) (W : World) (hr : bools W vL L) (hl : L.length ≤ 1099511627000) (hk : k ≤ 32) (hn : n ≤ 4294967295) :
    Calls Try.prog 73 #[.agg #[vL, .int .i64 t], .int .i64 (n : Int), .int .i64 (k : Int), .bool b] W fun e w' =>
      ∃ u, e = .returned (.agg #[u, .int .i64 t]) ∧ bools w' u (L ++ someBits n k b) ∧ (∀ q, inBlock u q → u = vL ∨ W.heap.size ≤ q) ∧ Below W.heap.size W w' := by
  obtain ⟨w1, e1, hs1, hB0, hB1, hbl⟩ := two_blocks W 34 vL (.int .i64 t) (.slice none 0 0) (.int .i64 0)
  have HR := Lib.hid hr
  obtain ⟨vo, vc, rfl⟩ := listed_length hr
  clear hr
  have hst : bools w1 (.slice vo L.length vc) (L ++ (someBits n k b).take 0) := by
    rw [List.take_zero, List.append_nil]
    exact listed_on HR.out hbl
  have HVB : Hid (∀ q, inBlock (.slice vo L.length vc) q → q < W.heap.size) := fun q hq => by
    obtain ⟨off, m, cap, h, hm⟩ := hq
    rcases HR.out with ⟨⟨o, c', h', _⟩, _⟩ | ⟨b', off', cap', h', hlt, _⟩
    · rw [h'] at h
      simp only [Value.slice.injEq] at h
      omega
    · rw [h'] at h
      simp only [Value.slice.injEq, Option.some.injEq, Addr.mk.injEq] at h
      obtain ⟨⟨rfl, _⟩, _⟩ := h
      exact hlt
  go_enter Try.func73, Try.ntmps73
  go_wp2_with fail
  rw [← e1]
  clear e1
  go_loopw [9] (fun i wr => ∃ (j : Nat) (u : Value), j ≤ k ∧ i = .int .i64 j ∧ bools wr u (L ++ (someBits n k b).take j) ∧ (∀ q, inBlock u q → u = .slice vo L.length vc ∨ W.heap.size + 2 ≤ q) ∧ wr.heap[W.heap.size]? = some (.cells #[u, .int .i64 t] 34 (0, 0)) ∧ wr.heap[W.heap.size + 1]? = some (.cells #[.slice none 0 0, .int .i64 0] 34 (0, 0)) ∧ Below W.heap.size W wr ∧ W.heap.size + 2 ≤ wr.heap.size) (fun i _ => k - (intOf i).toNat)
  case atStart => exact ⟨0, .slice vo L.length vc, Nat.zero_le _, rfl, hst, fun q hq => .inl rfl, hB0, hB1, hbl, by omega⟩
  case round =>
    clear hB0 hB1 hbl hs1 hst
    obtain ⟨j, u, hj, rfl, hu, hfr, hB0, hB1, hbl, hsz⟩ := hrel
    have HU := Lib.hid hu
    have HFR := Lib.hid hfr
    have HB0 := Lib.hid hB0
    have HB1 := Lib.hid hB1
    have HBL := Lib.hid hbl
    obtain ⟨uo, uc, rfl⟩ := listed_length hu
    have hlen : (L ++ (someBits n k b).take j).length = L.length + j := by rw [List.length_append, List.length_take, someBits_length]; omega
    rw [hlen] at HU HFR HB0 hB0
    have HLEN := Lib.hid hlen
    obtain ⟨m, em⟩ : ∃ m, L.length + j = m := ⟨_, rfl⟩
    rw [em] at HU HFR HB0 hB0 HLEN
    have hm40 : m ≤ 1099511627776 := by omega
    clear hu hfr hbl hlen
    have q0 := cell_of_block hB0 0
    have q1 := cell_of_block hB0 1
    have q2 := cell_of_block hB1 0
    have q3 := cell_of_block hB1 1
    have f0 := unfrozen_of_block hB0 0
    have f1 := unfrozen_of_block hB0 1
    have f2 := unfrozen_of_block hB1 0
    have f3 := unfrozen_of_block hB1 1
    have hne : ¬ W.heap.size = W.heap.size + 1 := by omega
    clear hB0 hB1
    by_cases hjk : j < k
    · have hd : decide ((j : Int) < (k : Int)) = true := decide_eq_true (by omega)
      have HN := Lib.hid (someBits_next n k j b hjk)
      obtain ⟨at', eat⟩ : ∃ a, (if b = true then k - 1 - j else j) = a := ⟨_, rfl⟩
      rw [eat] at HN
      have hat : at' ≤ 31 := by
        rw [← eat]
        split <;> omega
      have hsh : (n : Int) / (2 : Int) ^ at' = ((n / 2 ^ at' : Nat) : Int) := by
        rw [show (2 : Int) ^ at' = ((2 ^ at' : Nat) : Int) by rw [Int.natCast_pow]; rfl, Int.natCast_ediv]
      have hdv : n / 2 ^ at' ≤ n := Nat.div_le_self _ _
      obtain ⟨D, eD⟩ : ∃ D, n / 2 ^ at' = D := ⟨_, rfl⟩
      rw [eD] at hsh hdv HN
      clear eD
      obtain ⟨X, eX⟩ : ∃ X, D % 2 = X := ⟨_, rfl⟩
      rw [eX] at HN
      have hX : X < 2 := by omega
      have hDX : (D : Int) % 2 = (X : Int) := by omega
      have htX : (D : Int).tmod 2 = (X : Int) := by rw [Int.tmod_eq_emod_of_nonneg (by omega)]; exact hDX
      have hwa : IntKind.u64.wrap (at' : Int) = (at' : Int) := by rw [IntKind.wrap_u64]; omega
      have hwX : IntKind.u32.wrap (X : Int) = (X : Int) := by rw [IntKind.wrap_u32']; omega
      clear eX
      have KP : Hid (Calls Try.prog 61 #[.agg #[.slice uo m uc, .int .i64 t], .int .u32 (X : Int), .int .i64 1] wr fun e w' =>
          ∃ u2, e = .returned (.tuple #[.agg #[u2, .int .i64 t], .int .i64 0]) ∧ bools w' u2 (L ++ (someBits n k b).take j ++ bitsOf X 1) ∧ (∀ q, inBlock u2 q → wr.heap.size ≤ q) ∧ Below wr.heap.size wr w') := rput_any _ _ t X 1 wr HU.out (by rw [HLEN.out]; exact hm40) (by decide) (by omega)
      cases b with
      | false =>
        obtain rfl : j = at' := by simpa using eat
        go_wp2_with fail
        go_at_call 61
        refine KP.out.mono ?_
        rintro e w2 ⟨u2, rfl, v1, v2, hb2⟩
        obtain ⟨o2, c2, rfl⟩ := listed_length v1
        have hb0 := (hb2.block W.heap.size (by omega)).trans HB0.out
        have hb1 := (hb2.block (W.heap.size + 1) (by omega)).trans HB1.out
        obtain ⟨m2, em2⟩ : ∃ m2, (L ++ (someBits n k false).take j ++ bitsOf X 1).length = m2 := ⟨_, rfl⟩
        rw [em2] at v1 v2 ⊢
        have V1 := Lib.hid v1
        have V2 := Lib.hid v2
        have HB2 := Lib.hid hb2
        have HC0 := Lib.hid hb0
        have HC1 := Lib.hid hb1
        clear q0 q1 q2 q3 f0 f1 f2 f3 v1 v2 em2
        have q0 := cell_of_block hb0 0
        have q1 := cell_of_block hb0 1
        have f0 := unfrozen_of_block hb0 0
        have f1 := unfrozen_of_block hb0 1
        clear hb0 hb1 hb2 KP
        go_wp2_with fail
        go_roundw
        case rel =>
          have hN0 : ((w2.setCell ⟨W.heap.size, 0, none⟩ (.slice o2 m2 c2)).setCell ⟨W.heap.size, 1, none⟩ (.int .i64 t)).heap[W.heap.size]? = some (.cells #[.slice o2 m2 c2, .int .i64 t] 34 (0, 0)) := block_setCell (block_setCell HC0.out _) _
          refine ⟨j + 1, .slice o2 m2 c2, by omega, by go_num, ?_, fun q hq => .inr (Nat.le_trans hsz (V2.out q hq)), hN0, ?_, ((HBL.out.trans (HB2.out.mono (by omega))).setCell (p := ⟨W.heap.size, 0, none⟩) (Nat.le_refl _) _).setCell (p := ⟨W.heap.size, 1, none⟩) (Nat.le_refl _) _, by have := HB2.out.size; simp; omega⟩
          · rw [HN.out, ← List.append_assoc]
            refine listed_kept V1.out (Nat.le_of_eq (by simp)) (fun q hq => ?_)
            have hge := V2.out q hq
            rw [Below.heap_setCell _ _ _ q (by show q ≠ W.heap.size; omega), Below.heap_setCell _ _ _ q (by show q ≠ W.heap.size; omega)]
          · rw [Below.heap_setCell _ _ _ _ (by show W.heap.size + 1 ≠ W.heap.size; omega), Below.heap_setCell _ _ _ _ (by show W.heap.size + 1 ≠ W.heap.size; omega)]
            exact HC1.out
        case measure => simp [intOf]; omega
      | true =>
        have hka : (k : Int) - 1 - (j : Int) = (at' : Int) := by
          have : k - 1 - j = at' := by simpa using eat
          omega
        clear eat
        go_wp2_with fail
        go_at_call 61
        refine KP.out.mono ?_
        rintro e w2 ⟨u2, rfl, v1, v2, hb2⟩
        obtain ⟨o2, c2, rfl⟩ := listed_length v1
        have hb0 := (hb2.block W.heap.size (by omega)).trans HB0.out
        have hb1 := (hb2.block (W.heap.size + 1) (by omega)).trans HB1.out
        obtain ⟨m2, em2⟩ : ∃ m2, (L ++ (someBits n k true).take j ++ bitsOf X 1).length = m2 := ⟨_, rfl⟩
        rw [em2] at v1 v2 ⊢
        have V1 := Lib.hid v1
        have V2 := Lib.hid v2
        have HB2 := Lib.hid hb2
        have HC0 := Lib.hid hb0
        have HC1 := Lib.hid hb1
        clear q0 q1 q2 q3 f0 f1 f2 f3 v1 v2 em2
        have q0 := cell_of_block hb0 0
        have q1 := cell_of_block hb0 1
        have f0 := unfrozen_of_block hb0 0
        have f1 := unfrozen_of_block hb0 1
        clear hb0 hb1 hb2 KP
        go_wp2_with fail
        go_roundw
        case rel =>
          have hN0 : ((w2.setCell ⟨W.heap.size, 0, none⟩ (.slice o2 m2 c2)).setCell ⟨W.heap.size, 1, none⟩ (.int .i64 t)).heap[W.heap.size]? = some (.cells #[.slice o2 m2 c2, .int .i64 t] 34 (0, 0)) := block_setCell (block_setCell HC0.out _) _
          refine ⟨j + 1, .slice o2 m2 c2, by omega, by go_num, ?_, fun q hq => .inr (Nat.le_trans hsz (V2.out q hq)), hN0, ?_, ((HBL.out.trans (HB2.out.mono (by omega))).setCell (p := ⟨W.heap.size, 0, none⟩) (Nat.le_refl _) _).setCell (p := ⟨W.heap.size, 1, none⟩) (Nat.le_refl _) _, by have := HB2.out.size; simp; omega⟩
          · rw [HN.out, ← List.append_assoc]
            refine listed_kept V1.out (Nat.le_of_eq (by simp)) (fun q hq => ?_)
            have hge := V2.out q hq
            rw [Below.heap_setCell _ _ _ q (by show q ≠ W.heap.size; omega), Below.heap_setCell _ _ _ q (by show q ≠ W.heap.size; omega)]
          · rw [Below.heap_setCell _ _ _ _ (by show W.heap.size + 1 ≠ W.heap.size; omega), Below.heap_setCell _ _ _ _ (by show W.heap.size + 1 ≠ W.heap.size; omega)]
            exact HC1.out
        case measure => simp [intOf]; omega
    · have hd : decide ((j : Int) < (k : Int)) = false := decide_eq_false (by omega)
      obtain rfl : j = k := by omega
      have hall : (someBits n j b).take j = someBits n j b := List.take_of_length_le (by rw [someBits_length]; exact Nat.le_refl _)
      rw [hall] at HU
      go_wp2_with fail
      refine bodyPost_ret (v := .agg #[.slice uo m uc, .int .i64 t]) ?_ rfl ⟨_, rfl, ?_, fun q hq => ?_, ?_⟩
      · simp [results, Try.results73, asAddr, Result.andThen, go_sem, q2, q3]
      · refine listed_kept HU.out (Nat.le_of_eq (by simp)) (fun q hq => ?_)
        have hqn : q ≠ W.heap.size + 1 := by
          rcases HFR.out q hq with h | h
          · have := HVB.out q (h ▸ hq)
            omega
          · omega
        rw [Below.heap_setCell _ _ _ q hqn, Below.heap_setCell _ _ _ q hqn]
      · rcases HFR.out q hq with h | h
        · exact .inl h
        · exact .inr (by omega)
      · exact (HBL.out.setCell (p := ⟨W.heap.size + 1, 0, none⟩) (Nat.le_succ _) _).setCell (p := ⟨W.heap.size + 1, 1, none⟩) (Nat.le_succ _) _
/-- Some bits at least: the list is a new one. -/
theorem rbits_some (vL : Value) (L : List Bool) (t : Int) (n k : Nat) (b : Bool) (W : World) (hr : bools W vL L) (hl : L.length ≤ 1099511627000) (h0 : 0 < k) (hk : k ≤ 32) (hn : n ≤ 4294967295) :
    Calls Try.prog 73 #[.agg #[vL, .int .i64 t], .int .i64 (n : Int), .int .i64 (k : Int), .bool b] W fun e w' =>
      ∃ o c, e = .returned (.agg #[.slice o (L.length + k) c, .int .i64 t]) ∧ bools w' (.slice o (L.length + k) c) (L ++ someBits n k b) ∧ (∀ q, inBlock (.slice o (L.length + k) c) q → W.heap.size ≤ q) ∧ Below W.heap.size W w' := by
  refine (rbits_any vL L t n k b W hr hl hk hn).mono ?_
  rintro e w' ⟨u, rfl, v1, v2, hb⟩
  obtain ⟨o, c, rfl⟩ := listed_length v1
  have hlen : (L ++ someBits n k b).length = L.length + k := by rw [List.length_append, someBits_length]
  rw [hlen] at v1 v2 ⊢
  refine ⟨o, c, rfl, v1, fun q hq => ?_, hb⟩
  rcases v2 q hq with h | h
  · exfalso
    obtain ⟨o', c', h3⟩ := listed_length hr
    rw [h3] at h
    simp only [Value.slice.injEq] at h
    omega
  · exact h
end Go.Proofs.Ytggkmbnogdikkaa.Fx
