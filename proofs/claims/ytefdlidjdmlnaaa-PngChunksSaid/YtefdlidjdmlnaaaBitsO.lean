/-
  Plain bits: numbers as bits, bits as numbers and as bytes. No condition but those that are said.
  The document's own answers of layer 5. The conditions stand in each.
  The document's own reader. The conditions stand in each.
  What the document's own writer hands on; the document's own reader of bytes. The conditions stand in each.
  What the calls of package bits do, whatever an object's memory looks like: the statements' walks lean on this alone. The conditions stand in each.
  What the document's own writer hands on is the call's own. The conditions stand in it.
-/
import Derived.Test.YtefdlidjdmlnaaaBitsP
import Derived.Laws.Bits64
import Derived.Laws.BitsAllLaws
import Derived.Handy
import Derived.Deep.CutBlock
import Derived.Deep.DeepCutAuto
import Derived.Test.YtefdlidjdmlnaaaRegion
import Derived.Laws.BytesArg
import Derived.Deep.Onto
namespace Go.Proofs.Ytefdlidjdmlnaaa.Fx
open Go Go.RowKit Go.Joins
set_option linter.unusedVariables false
abbrev bools (w : World) (v : Value) (l : List Bool) : Prop := listed Value.bool w v l
theorem pow_le (k : Nat) (h : k ≤ 32) : 2 ^ k ≤ 4294967296 := by
  have := Nat.pow_le_pow_right (n := 2) (by decide) h
  omega
set_option maxHeartbeats 1000000 in
theorem number_any (v : Value) (l : List Bool) (f k : Nat) (w : World) (hr : bools w v l) (hl : l.length ≤ 1099511627776) (hk : k ≤ 32) (hf : f + k ≤ l.length) :
    Calls Try.prog 80 #[v, .int .i64 (f : Int), .int .i64 (k : Int)] w fun e w' => e = .returned (.int .u32 (numAt l f k : Nat)) ∧ w = w' := by
  have HR := Lib.hid hr
  clear hr
  have HL := Lib.hid hf
  have hf2 : f + k ≤ 1099511627776 := by omega
  clear hl
  have b0 := numAt_below l f k
  have bk := pow_le k hk
  go_enter Try.func80, Try.ntmps80
  go_wp2_with fail
  go_loop [7, 8] (fun n i => ∃ j : Nat, j ≤ k ∧ n = .int .u32 (numAt l (f + j) (k - j) : Nat) ∧ i = .int .i64 ((j : Int) - 1)) (fun _ i => (intOf i + 1).toNat)
  case atStart => exact ⟨k, Nat.le_refl _, by rw [Nat.sub_self, numAt_zero]; rfl, by first | rfl | go_num⟩
  case round =>
    obtain ⟨j, hj, rfl, rfl⟩ := hrel
    by_cases hj0 : j = 0
    · subst hj0
      rw [Nat.add_zero, Nat.sub_zero]
      obtain ⟨N, eN⟩ : ∃ N, numAt l f k = N := ⟨_, rfl⟩
      rw [eN] at b0 ⊢
      have EN := Lib.hid eN
      clear eN
      go_wp2_with fail
      go_ret
      rw [EN.out]
      exact ⟨rfl, rfl⟩
    · obtain ⟨q, rfl⟩ : ∃ q, j = q + 1 := ⟨j - 1, by omega⟩
      have hq : f + q < l.length := by have := HL.out; omega
      obtain ⟨bit, hbit⟩ : ∃ bit, l[f + q]? = some bit := ⟨l[f + q], List.getElem?_eq_getElem hq⟩
      obtain ⟨b, off, cap, ev, hlt, hcell⟩ := listed_cell HR.out (f + q) bit hbit
      have HS := Lib.hid (numAt_down l (f + q) (k - (q + 1)) bit hbit)
      have e1 : k - (q + 1) + 1 = k - q := by omega
      rw [e1, Nat.add_assoc f q 1] at HS
      have bq := numAt_below l (f + q) (k - q)
      have bq2 := pow_le (k - q) (by omega)
      obtain ⟨N, eN⟩ : ∃ N, numAt l (f + (q + 1)) (k - (q + 1)) = N := ⟨_, rfl⟩
      rw [eN] at HS
      rw [eN]
      clear eN
      have HSB := HS.out
      obtain ⟨M, eM⟩ : ∃ M, numAt l (f + q) (k - q) = M := ⟨_, rfl⟩
      rw [eM] at HS HSB bq
      have HM := Lib.hid eM
      clear eM hbit
      subst ev
      obtain ⟨p, ep⟩ : ∃ p, f + q = p := ⟨_, rfl⟩
      rw [ep] at hcell hq
      have hsum : (f : Int) + (q : Int) = (p : Int) := by omega
      obtain ⟨len, el⟩ : ∃ len, l.length = len := ⟨_, rfl⟩
      rw [el] at hq ⊢
      have hN2 : N * 2 ≤ 4294967295 := by cases bit <;> simp at HSB <;> omega
      cases bit with
      | true =>
        have hM : M = N * 2 + 1 := by simpa using HSB
        clear HSB
        go_wp2_with fail
        go_round
        case rel => exact ⟨q, by omega, by rw [HM.out, hM]; go_num, by go_num⟩
        case measure => simp [intOf]
      | false =>
        have hM : M = N * 2 := by simpa using HSB
        clear HSB
        go_wp2_with fail
        go_round
        case rel => exact ⟨q, by omega, by rw [HM.out, hM]; go_num, by go_num⟩
        case measure => simp [intOf]
theorem infoB : (Try.prog.info? 4).map (fun i => (i.zero, i.size, i.bytes)) = some (some (.bool false), 1, 1) := by kernel_rfl
theorem alloc_old {w : World} {o o' : Obj} {g : Nat} (h : w.heap[g]? = some o) : (w.alloc o').heap[g]? = some o := by
  exact (Below.heap_alloc w o' g (Array.getElem?_eq_some_iff.1 h).1).trans h
set_option maxHeartbeats 4000000 in
set_option maxRecDepth 100000 in
theorem rput_any (vL : Value) (L : List Bool) (t : Int) (n k : Nat) (W : World) (hr : bools W vL L) (hl : L.length ≤ 1099511627776) (hk : k ≤ 32) (hn : n < 2 ^ k) :
    Calls Try.prog 81 #[.agg #[vL, .int .i64 t], .int .u32 (n : Int), .int .i64 (k : Int)] W fun e w' =>
      ∃ u, e = .returned (.tuple #[.agg #[u, .int .i64 t], .int .i64 0]) ∧ bools w' u (L ++ bitsOf n k) ∧ (∀ b, inBlock u b → W.heap.size ≤ b) ∧ Below W.heap.size W w' := by
  have bk := pow_le k hk
  have HR := Lib.hid hr
  clear hr
  have hk2 : decide ((32 : Int) < (k : Int)) = false := decide_eq_false (by omega)
  have hk3 : decide ((k : Int) < 0) = false := decide_eq_false (by omega)
  obtain ⟨K, hK, hnK⟩ : ∃ K : Nat, IntKind.u64.wrap ((2 : Int) ^ k) = (K : Int) ∧ n < K := by
    refine ⟨2 ^ k, ?_, hn⟩
    rw [IntKind.wrap_u64]
    have e : (2 : Int) ^ k = ((2 ^ k : Nat) : Int) := by rw [Int.natCast_pow]; rfl
    rw [e]
    omega
  have hd : decide ((K : Int) ≤ (n : Int)) = false := decide_eq_false (by omega)
  have bn : n ≤ 4294967295 := by omega
  clear hn bk
  go_enter Try.func81, Try.ntmps81
  go_upto_region 3 with fail
  obtain ⟨w1, e1⟩ : ∃ w1, w1 = (W.alloc (.cells #[vL, .int .i64 t] 63)).alloc (.cells #[.slice none 0 0, .int .i64 0] 63) := ⟨_, rfl⟩
  have hs0 : (W.alloc (.cells #[vL, .int .i64 t] 63)).heap.size = W.heap.size + 1 := by
    show (W.heap.push _).size = _
    simp
  have hs1 : w1.heap.size = W.heap.size + 2 := by
    rw [e1]
    show ((W.alloc _).heap.push _).size = _
    rw [Array.size_push, hs0]
  have hB0 : w1.heap[W.heap.size]? = some (.cells #[vL, .int .i64 t] 63 (0, 0)) := by
    rw [e1]
    exact alloc_old (heap_alloc_new W _)
  have hB1 : w1.heap[W.heap.size + 1]? = some (.cells #[.slice none 0 0, .int .i64 0] 63 (0, 0)) := by
    rw [e1, ← hs0]
    exact heap_alloc_new _ _
  have hbl : Below W.heap.size W w1 := by
    rw [e1]
    exact ((Below.refl _ _).alloc (Nat.le_refl _) _).alloc (by rw [hs0]; omega) _
  rw [← e1]
  clear e1 hs0
  have HS1 := Lib.hid hs1
  clear hs1
  have hc0 : w1.cell? ⟨W.heap.size, 0, none⟩ = some vL := cell_of_block hB0 0
  go_wp2_with (at_builtin; refine wpList_append_listed (c := Value.bool) rfl _ _ 48 rfl w1.heap.size 4 (.bool false) Try.underlying48 infoB rfl (fun _ => rfl) (.slice none 0 0) 0 [] rfl (World.ownsRow_nil _ _ _ _) vL L rfl (listed_on HR.out hbl) (by omega) (Nat.le_refl _) ?_)
  intro v0 w2 hown hgrow
  have hown : w2.ownsRow w1.heap.size 4 1 v0 L.length (L.map Value.bool) := by first | exact hown | (rw [Nat.zero_add, List.nil_append] at hown; exact hown)
  have hbg : Below w1.heap.size w1 w2 := (Below.refl _ _).grown hgrow (Nat.le_refl _) (fun q hq => by simp [Value.ownBlock] at hq)
  clear hgrow
  have hst : w2.ownsRow w1.heap.size 4 1 v0 (L.length + 0) ((L ++ bitsOf n 0).map Value.bool) := by
    rw [bitsOf, List.append_nil]
    exact hown
  clear hown hc0
  go_wp2_with fail
  go_loopw [1, 8, 9] (fun m v i wr => ∃ j : Nat, j ≤ k ∧ m = .int .u32 ((n / 2 ^ j : Nat) : Int) ∧ wr.ownsRow w1.heap.size 4 1 v (L.length + j) ((L ++ bitsOf n j).map Value.bool) ∧ i = .int .i64 j ∧ Below w1.heap.size w1 wr) (fun _ _ i _ => k - (intOf i).toNat)
  case atStart => exact ⟨0, Nat.zero_le _, by rw [Nat.pow_zero, Nat.div_one], hst, rfl, hbg⟩
  case round =>
    clear hst hbg
    obtain ⟨j, hj, rfl, hown, rfl, hbg⟩ := hrel
    have hsz := hbg.size
    by_cases hjk : j < k
    · have hdj : decide ((j : Int) < (k : Int)) = true := decide_eq_true (by omega)
      have bm : n / 2 ^ j ≤ 4294967295 := Nat.le_trans (Nat.div_le_self _ _) bn
      have HE : Hid (bitsOf n (j + 1) = bitsOf n j ++ [n / 2 ^ j % 2 == 1]) := bitsOf_next n j
      have HD : Hid (n / 2 ^ (j + 1) = n / 2 ^ j / 2) := by
        show _ = _
        rw [Nat.pow_succ, Nat.div_div_eq_div_mul]
      obtain ⟨M, eM⟩ : ∃ M, n / 2 ^ j = M := ⟨_, rfl⟩
      rw [eM] at bm HE HD ⊢
      clear eM
      have hbit : ((M : Int) % 2 == 1) = (M % 2 == 1) := by
        rw [Bool.eq_iff_iff]
        simp
        omega
      obtain ⟨bit, eb⟩ : ∃ bit, (M % 2 == 1) = bit := ⟨_, rfl⟩
      rw [eb] at hbit HE
      clear eb
      go_wp2_with (at_builtin; refine wpList_append_one (c := Value.bool) rfl _ _ 48 rfl w1.heap.size 4 (.bool false) Try.underlying48 infoB rfl (fun _ => rfl) _ (L.length + j) (L ++ bitsOf n j) rfl (hown.alloc _) wr.heap.size bit rfl ?c1 (by omega) (by simp; omega) ?_)
      case c1 => simp
      intro v' w3 hown' hgrow
      have hb1 : Below w1.heap.size w1 w3 := (hbg.alloc hsz _).grown hgrow (by simp; omega) (fun q hq => (hown.lt q hq).1)
      have hown' : w3.ownsRow w1.heap.size 4 1 v' (L.length + (j + 1)) ((L ++ bitsOf n (j + 1)).map Value.bool) := by
        rw [HE.out, ← Nat.add_assoc]
        simpa using hown'
      clear hown hgrow hbg
      go_wp2_with fail
      go_roundw
      case rel => exact ⟨j + 1, by omega, by rw [HD.out, Int.natCast_ediv]; rfl, hown', by go_num, hb1⟩
      case measure => simp [intOf]; omega
    · have hdj : decide ((j : Int) < (k : Int)) = false := decide_eq_false (by omega)
      obtain rfl : j = k := by omega
      have hrow : bools wr _ (L ++ bitsOf n j) := own_listed hown
      have hfresh := fun b hb => own_fresh hown b hb
      obtain ⟨uo, uc, rfl⟩ := listed_length hrow
      obtain ⟨len, el⟩ : ∃ len, (L ++ bitsOf n j).length = len := ⟨_, rfl⟩
      rw [el] at hrow hfresh ⊢
      have HROW := Lib.hid hrow
      have HFR := Lib.hid hfresh
      clear hrow hfresh el
      have hB0r := (hbg.block W.heap.size (by have := HS1.out; omega)).trans hB0
      have hB1r := (hbg.block (W.heap.size + 1) (by have := HS1.out; omega)).trans hB1
      have q0 := cell_of_block hB0r 0
      have q1 := cell_of_block hB0r 1
      have q2 := cell_of_block hB1r 0
      have q3 := cell_of_block hB1r 1
      have f0 := unfrozen_of_block hB0r 0
      have f1 := unfrozen_of_block hB0r 1
      have f2 := unfrozen_of_block hB1r 0
      have f3 := unfrozen_of_block hB1r 1
      have hne : ¬ W.heap.size = W.heap.size + 1 := by omega
      have HW : Hid (Below W.heap.size W wr) := hbl.trans (hbg.mono (by have := HS1.out; omega))
      clear hown hB0r hB1r hB0 hB1
      go_wp2_with fail
      refine bodyPost_ret (v := .tuple #[.agg #[.slice uo len uc, .int .i64 t], .int .i64 0]) ?_ rfl ⟨_, rfl, ?_, fun b hb => Nat.le_trans (by have := HS1.out; omega) (HFR.out b hb), ?_⟩
      · rw [results_cell_tmp rfl]
        simp [asAddr, Result.andThen, go_sem, q2, q3]
      · refine listed_kept HROW.out (Nat.le_of_eq (by simp)) (fun b hb => ?_)
        have hge := HFR.out b hb
        have := HS1.out
        rw [Below.heap_setCell _ _ _ b (by show b ≠ W.heap.size + 1; omega), Below.heap_setCell _ _ _ b (by show b ≠ W.heap.size + 1; omega), Below.heap_setCell _ _ _ b (by show b ≠ W.heap.size; omega)]
      · exact ((HW.out.setCell (p := ⟨W.heap.size, 0, none⟩) (Nat.le_refl _) _).setCell (p := ⟨W.heap.size + 1, 0, none⟩) (Nat.le_succ _) _).setCell (p := ⟨W.heap.size + 1, 1, none⟩) (Nat.le_succ _) _
/-- The two blocks that a call of the document's own lays first: the receiver's and the answer's. -/
theorem two_blocks (W : World) (ty : TypeId) (x y x0 y0 : Value) : ∃ w1, w1 = (W.alloc (.cells #[x, y] ty)).alloc (.cells #[x0, y0] ty) ∧ w1.heap.size = W.heap.size + 2 ∧ w1.heap[W.heap.size]? = some (.cells #[x, y] ty (0, 0)) ∧ w1.heap[W.heap.size + 1]? = some (.cells #[x0, y0] ty (0, 0)) ∧ Below W.heap.size W w1 := by
  have hs0 : (W.alloc (.cells #[x, y] ty)).heap.size = W.heap.size + 1 := by
    show (W.heap.push _).size = _
    simp
  refine ⟨_, rfl, ?_, alloc_old (heap_alloc_new W _), ?_, ((Below.refl _ _).alloc (Nat.le_refl _) _).alloc (by rw [hs0]; omega) _⟩
  · show ((W.alloc _).heap.push _).size = _
    rw [Array.size_push, hs0]
  · rw [← hs0]
    exact heap_alloc_new _ _
set_option maxHeartbeats 4000000 in
set_option maxRecDepth 100000 in
theorem rput_bad (vo : Option Addr) (vn vc : Nat) (t n k : Int) (W : World) (hn : 0 ≤ n ∧ n ≤ 4294967295) (hk : -9223372036854775808 ≤ k ∧ k ≤ 9223372036854775807) (hbad : k < 0 ∨ 32 < k ∨ 2 ^ k.toNat ≤ n) :
    Calls Try.prog 81 #[.agg #[.slice vo vn vc, .int .i64 t], .int .u32 n, .int .i64 k] W fun e w' =>
      e = .returned (.tuple #[.agg #[.slice vo vn vc, .int .i64 t], .int .i64 2]) ∧ Below W.heap.size W w' := by
  have hfin : ∀ o o' : Obj, Below W.heap.size W ((W.alloc o).alloc o') := fun o o' => ((Below.refl _ _).alloc (Nat.le_refl _) _).alloc (by show W.heap.size ≤ (W.heap.push _).size; simp) _
  rcases Int.lt_or_le k 0 with h | h
  · have hk2 : decide (k < 0) = true := decide_eq_true h
    go_enter Try.func81, Try.ntmps81
    go_wp2_with fail
    refine bodyPost_ret (v := .tuple #[.agg #[.slice vo vn vc, .int .i64 t], .int .i64 2]) ?_ rfl ⟨rfl, hfin _ _⟩
    rw [results_cell_tmp rfl]
    simp [asAddr, Result.andThen, go_sem]
  · have hk2 : decide (k < 0) = false := decide_eq_false (by omega)
    rcases Int.lt_or_le 32 k with h32 | h32
    · have hk3 : decide (32 < k) = true := decide_eq_true h32
      go_enter Try.func81, Try.ntmps81
      go_wp2_with fail
      refine bodyPost_ret (v := .tuple #[.agg #[.slice vo vn vc, .int .i64 t], .int .i64 2]) ?_ rfl ⟨rfl, hfin _ _⟩
      rw [results_cell_tmp rfl]
      simp [asAddr, Result.andThen, go_sem]
    · have hk3 : decide (32 < k) = false := decide_eq_false (by omega)
      obtain ⟨k', rfl⟩ : ∃ q : Nat, k = (q : Int) := ⟨k.toNat, by omega⟩
      rw [Int.toNat_natCast] at hbad
      have bk := pow_le k' (by omega)
      obtain ⟨K, eK⟩ : ∃ K : Nat, 2 ^ k' = K := ⟨_, rfl⟩
      have e : (2 : Int) ^ k' = (K : Int) := by rw [← eK, Int.natCast_pow]; rfl
      rw [eK] at bk
      rw [e] at hbad
      have hK : IntKind.u64.wrap ((2 : Int) ^ k') = (K : Int) := by
        rw [IntKind.wrap_u64, e]
        omega
      have hd : decide ((K : Int) ≤ n) = true := decide_eq_true (by omega)
      clear hbad e bk eK
      go_enter Try.func81, Try.ntmps81
      go_wp2_with fail
      refine bodyPost_ret (v := .tuple #[.agg #[.slice vo vn vc, .int .i64 t], .int .i64 2]) ?_ rfl ⟨rfl, hfin _ _⟩
      rw [results_cell_tmp rfl]
      simp [asAddr, Result.andThen, go_sem]
end Go.Proofs.Ytefdlidjdmlnaaa.Fx
namespace Go.Proofs.Ytefdlidjdmlnaaa.Fx
open Go Go.RowKit Go.Joins
set_option linter.unusedVariables false
theorem below_two (W : World) (o o' : Obj) : Below W.heap.size W ((W.alloc o).alloc o') := ((Below.refl _ _).alloc (Nat.le_refl _) _).alloc (by show W.heap.size ≤ (W.heap.push _).size; simp) _
/-! ### The document's own writer: up to whole bytes; what is taken -/
def sliceLen : Value → Nat
  | .slice _ n _ => n
  | _ => 0
set_option maxHeartbeats 4000000 in
set_option maxRecDepth 100000 in
theorem rwalign_any (v : Value) (L : List Bool) (t : Int) (W : World) (hr : bools W v L) (hl : L.length ≤ 1099511627000) :
    Calls Try.prog 61 #[.agg #[v, .int .i64 t]] W fun e w' =>
      ∃ u, e = .returned (.agg #[u, .int .i64 t]) ∧ bools w' u (aligned L) ∧ (∀ b, inBlock u b → u = v ∨ W.heap.size ≤ b) ∧ Below W.heap.size W w' := by
  obtain ⟨w1, e1, hs1, hB0, hB1, hbl⟩ := two_blocks W 63 v (.int .i64 t) (.slice none 0 0) (.int .i64 0)
  have hr1 := listed_on hr hbl
  have hvb : ∀ b, inBlock v b → b < W.heap.size := fun b hb => by
    obtain ⟨off, n, cap, rfl, hn⟩ := hb
    rcases hr with ⟨⟨o, c, h, _⟩, _⟩ | ⟨b', off', cap', h, hlt, _⟩
    · simp only [Value.slice.injEq] at h
      omega
    · simp only [Value.slice.injEq, Option.some.injEq, Addr.mk.injEq] at h
      obtain ⟨⟨rfl, _⟩, _⟩ := h
      exact hlt
  have HVB := Lib.hid hvb
  have HAL := Lib.hid (aligned_length L)
  clear hr hvb
  go_enter Try.func61, Try.ntmps61
  go_wp2_with fail
  rw [← e1]
  clear e1
  go_loopw [6] (fun _ wr => ∃ (u : Value) (l : List Bool), bools wr u l ∧ aligned l = aligned L ∧ l.length ≤ (L.length + 7) / 8 * 8 ∧ wr.heap[W.heap.size]? = some (.cells #[u, .int .i64 t] 63 (0, 0)) ∧ wr.heap[W.heap.size + 1]? = some (.cells #[.slice none 0 0, .int .i64 0] 63 (0, 0)) ∧ (∀ b, inBlock u b → u = v ∨ W.heap.size + 2 ≤ b) ∧ Below W.heap.size W wr ∧ W.heap.size + 2 ≤ wr.heap.size) (fun _ wr => (L.length + 7) / 8 * 8 - sliceLen ((wr.cell? ⟨W.heap.size, 0, none⟩).getD undef))
  case atStart => exact ⟨v, L, hr1, rfl, by omega, hB0, hB1, fun b hb => .inl rfl, hbl, by omega⟩
  case round =>
    clear hr1 hB0 hB1 hbl hs1
    obtain ⟨u, l, hr, hal, hle, hB0, hB1, hfr, hbl, hsz⟩ := hrel
    have HRU := Lib.hid hr
    obtain ⟨uo, uc, rfl⟩ := listed_length hr
    have HA := Lib.hid hal
    have HFR := Lib.hid hfr
    have HBL := Lib.hid hbl
    have q0 := cell_of_block hB0 0
    have q1 := cell_of_block hB0 1
    have q2 := cell_of_block hB1 0
    have q3 := cell_of_block hB1 1
    have f0 := unfrozen_of_block hB0 0
    have f1 := unfrozen_of_block hB0 1
    have f2 := unfrozen_of_block hB1 0
    have f3 := unfrozen_of_block hB1 1
    have HB0 := Lib.hid hB0
    have HB1 := Lib.hid hB1
    have hne : ¬ W.heap.size = W.heap.size + 1 := by omega
    have hl2 : l.length ≤ 1099511627008 := by omega
    have HSTEP : Hid (l.length % 8 ≠ 0 → aligned (l ++ [false]) = aligned l) := aligned_step l
    have HDONE : Hid (l.length % 8 = 0 → aligned l = l) := aligned_done l
    have HLE := Lib.hid hle
    clear hr hal hfr hbl hB0 hB1 hle
    obtain ⟨n, en⟩ : ∃ n, l.length = n := ⟨_, rfl⟩
    have EN := Lib.hid en
    rw [en] at q0 HFR HB0 HRU HSTEP HDONE HLE hl2
    clear en
    by_cases h8 : n % 8 = 0
    · have ht : ((n : Int) % 8 != 0) = false := by simp; omega
      have hdone := HDONE.out h8
      have HALL : Hid (aligned L = l) := HA.out.symm.trans hdone
      clear h8 hdone HSTEP HDONE
      go_wp2_with fail
      refine bodyPost_ret (v := .agg #[.slice uo n uc, .int .i64 t]) (by simp [results, Try.results61, asAddr, Result.andThen, go_sem, q2, q3]) rfl ⟨_, rfl, ?_, fun b hb => ?_, ?_⟩
      · rw [HALL.out]
        refine listed_kept HRU.out (Nat.le_of_eq (by simp)) (fun b hb => ?_)
        have hb2 : b ≠ W.heap.size + 1 := by
          rcases HFR.out b hb with h | h
          · have := HVB.out b (by rw [← h]; exact hb)
            omega
          · omega
        rw [Below.heap_setCell _ _ _ b hb2, Below.heap_setCell _ _ _ b hb2]
      · rcases HFR.out b hb with h | h
        · exact .inl h
        · exact .inr (by omega)
      · exact (HBL.out.setCell (p := ⟨W.heap.size + 1, 0, none⟩) (Nat.le_succ _) _).setCell (p := ⟨W.heap.size + 1, 1, none⟩) (Nat.le_succ _) _
    · have ht : ((n : Int) % 8 != 0) = true := by simp; omega
      have hstep := HSTEP.out h8
      have HST := Lib.hid (hstep.trans HA.out)
      have hlt : n + 1 ≤ (L.length + 7) / 8 * 8 := by
        have h1 := congrArg List.length HA.out
        rw [aligned_length, aligned_length, EN.out] at h1
        omega
      have HLT := Lib.hid hlt
      clear h8 hstep hlt HSTEP HDONE
      go_wp2_with fail
      go_at_call 81
      refine (rput_any (.slice uo n uc) l t 0 1 wr HRU.out (by rw [EN.out]; omega) (by omega) (by decide)).mono ?_
      rintro e w2 ⟨u2, rfl, hu2, hfr2, hb2⟩
      obtain ⟨vo2, vc2, rfl⟩ := listed_length hu2
      have hB0' := (hb2.block W.heap.size (by omega)).trans HB0.out
      have hB1' := (hb2.block (W.heap.size + 1) (by omega)).trans HB1.out
      have hl' : (l ++ bitsOf 0 1).length = n + 1 := by rw [List.length_append, bitsOf_length, EN.out]
      rw [hl'] at hu2 hfr2 ⊢
      clear q0 q1 q2 q3 f0 f1 f2 f3
      have q0 := cell_of_block hB0' 0
      have q1 := cell_of_block hB0' 1
      have f0 := unfrozen_of_block hB0' 0
      have f1 := unfrozen_of_block hB0' 1
      have HU2 := Lib.hid hu2
      have HF2 := Lib.hid hfr2
      have HBB := Lib.hid hb2
      have HC0 := Lib.hid hB0'
      have HC1 := Lib.hid hB1'
      clear hu2 hfr2 hb2 hB0' hB1' hl'
      go_wp2_with fail
      go_roundw
      case rel =>
        have hE : bitsOf 0 1 = [false] := by decide
        have hN0 : ((w2.setCell ⟨W.heap.size, 0, none⟩ (.slice vo2 (n + 1) vc2)).setCell ⟨W.heap.size, 1, none⟩ (.int .i64 t)).heap[W.heap.size]? = some (.cells #[.slice vo2 (n + 1) vc2, .int .i64 t] 63 (0, 0)) := block_setCell (block_setCell HC0.out _) _
        refine ⟨_, l ++ [false], ?_, HST.out, ?_, hN0, ?_, fun b hb => .inr (Nat.le_trans hsz (HF2.out b hb)), ?_, ?_⟩
        · rw [← hE]
          refine listed_kept HU2.out (Nat.le_of_eq (by simp)) (fun b hb => ?_)
          have hge := HF2.out b hb
          rw [Below.heap_setCell _ _ _ b (by show b ≠ W.heap.size; omega), Below.heap_setCell _ _ _ b (by show b ≠ W.heap.size; omega)]
        · rw [List.length_append, EN.out]
          exact HLT.out
        · rw [Below.heap_setCell _ _ _ _ (by show W.heap.size + 1 ≠ W.heap.size; omega), Below.heap_setCell _ _ _ _ (by show W.heap.size + 1 ≠ W.heap.size; omega)]
          exact HC1.out
        · exact ((HBL.out.trans (HBB.out.mono (by omega))).setCell (p := ⟨W.heap.size, 0, none⟩) (Nat.le_refl _) _).setCell (p := ⟨W.heap.size, 1, none⟩) (Nat.le_refl _) _
        · have := HBB.out.size
          simp
          omega
      case measure =>
        have hN0 : ((w2.setCell ⟨W.heap.size, 0, none⟩ (.slice vo2 (n + 1) vc2)).setCell ⟨W.heap.size, 1, none⟩ (.int .i64 t)).heap[W.heap.size]? = some (.cells #[.slice vo2 (n + 1) vc2, .int .i64 t] 63 (0, 0)) := block_setCell (block_setCell HC0.out _) _
        have h1 := cell_of_block hN0 0
        have h2 := cell_of_block HB0.out 0
        have h3 := HLT.out
        rw [h1, h2]
        simp [sliceLen]
        omega
end Go.Proofs.Ytefdlidjdmlnaaa.Fx
namespace Go.Proofs.Ytefdlidjdmlnaaa.Fx
open Go Go.RowKit Go.Joins
set_option linter.unusedVariables false
theorem info8 : (Try.prog.info? 5).map (fun i => (i.zero, i.size, i.bytes)) = some (some (.int .u8 0), 1, 1) := by kernel_rfl
set_option maxHeartbeats 4000000 in
set_option maxRecDepth 100000 in
theorem rtake_any (v : Value) (L : List Bool) (t : Nat) (W : World) (hr : bools W v L) (hl : L.length ≤ 1099511627000) (ht : 8 * t ≤ L.length) :
    Calls Try.prog 60 #[.agg #[v, .int .i64 (t : Int)]] W fun e w' =>
      ∃ u, e = .returned (.tuple #[.agg #[v, .int .i64 ((L.length / 8 : Nat) : Int)], u]) ∧ bytesIn w' u (bytesAt L t (L.length / 8 - t)) ∧ (∀ b, inBlock u b → W.heap.size ≤ b) ∧ Below W.heap.size W w' := by
  obtain ⟨w1, e1, hs1, hB0, hB1, hbl⟩ := two_blocks W 63 v (.int .i64 (t : Int)) (.slice none 0 0) (.int .i64 0)
  have HR := Lib.hid hr
  obtain ⟨vo, vc, rfl⟩ := listed_length hr
  clear hr
  obtain ⟨n, en⟩ : ∃ n, L.length = n := ⟨_, rfl⟩
  have EN := Lib.hid en
  rw [en] at HR hl ht hB0 e1 ⊢
  clear en
  have hb1 : Below w1.heap.size w1 w1 := Below.refl _ _
  go_enter Try.func60, Try.ntmps60
  go_wp2_with fail
  rw [← e1]
  clear e1
  go_loopw [4] (fun o wr => ∃ m : Nat, 8 * (t + m) ≤ n ∧ wr.ownsRow (W.heap.size + 2) 5 1 o m ((bytesAt L t m).map byteVal) ∧ wr.heap[W.heap.size]? = some (.cells #[.slice vo n vc, .int .i64 ((t + m : Nat) : Int)] 63 (0, 0)) ∧ wr.heap[W.heap.size + 1]? = some (.cells #[.slice none 0 0, .int .i64 0] 63 (0, 0)) ∧ Below W.heap.size W wr ∧ W.heap.size + 2 ≤ wr.heap.size) (fun o _ => n / 8 - t - sliceLen o)
  case atStart => exact ⟨0, by omega, World.ownsRow_nil _ _ _ _, hB0, hB1, hbl, by omega⟩
  case round =>
    clear hB0 hB1 hbl hs1 hb1
    obtain ⟨m, hm, hown, hB0, hB1, hbl, hsz⟩ := hrel
    have HO := Lib.hid hown
    have HBL := Lib.hid hbl
    have HB0 := Lib.hid hB0
    have HB1 := Lib.hid hB1
    have hrow := own_listed (c := byteVal) hown
    have HFR := Lib.hid (fun b hb => own_fresh hown b hb)
    have HROW := Lib.hid hrow
    obtain ⟨oo, oc, rfl⟩ := listed_length hrow
    have hbm : (bytesAt L t m).length = m := bytesAt_length _ _ _
    rw [hbm] at HO HROW HFR ⊢
    clear hbl hown hbm hrow
    obtain ⟨q, eq⟩ : ∃ q, t + m = q := ⟨_, rfl⟩
    have EQ := Lib.hid eq
    have hm2 : m + 1 ≤ 140737488355328 := by omega
    rw [eq] at hB0 HB0 hm
    have q0 := cell_of_block hB0 0
    have q1 := cell_of_block hB0 1
    have q2 := cell_of_block hB1 0
    have q3 := cell_of_block hB1 1
    have f0 := unfrozen_of_block hB0 0
    have f1 := unfrozen_of_block hB0 1
    have f2 := unfrozen_of_block hB1 0
    have f3 := unfrozen_of_block hB1 1
    have hne : ¬ W.heap.size = W.heap.size + 1 := by omega
    clear hB0 hB1
    by_cases h8 : 8 * (q + 1) ≤ n
    · have hd : decide (8 * ((q : Int) + 1) ≤ (n : Int)) = true := decide_eq_true (by omega)
      obtain ⟨f, ef⟩ : ∃ f, 8 * q = f := ⟨_, rfl⟩
      have hf : 8 * (q : Int) = (f : Int) := by omega
      have KN : Hid (∀ w', Below W.heap.size W w' → Calls Try.prog 80 #[.slice vo n vc, .int .i64 (f : Int), .int .i64 8] w' fun e w'' => e = .returned (.int .u32 (numAt L f 8 : Nat)) ∧ w' = w'') := fun w' hb => number_any _ L f 8 w' (listed_on HR.out hb) (by rw [EN.out]; omega) (by omega) (by rw [EN.out]; omega)
      have bN := numAt_below L f 8
      have HNX := Lib.hid (bytesAt_next L t m)
      rw [EQ.out, ef] at HNX
      obtain ⟨N, eN⟩ : ∃ N, numAt L f 8 = N := ⟨_, rfl⟩
      rw [eN] at KN bN HNX
      clear eN eq
      have hw8 : IntKind.u8.wrap (N : Int) = (N : Int) := by
        rw [IntKind.wrap_u8']
        omega
      go_wp2_with (first | (go_at_call 80; refine (KN.out _ HBL.out).mono ?_; rintro e w' ⟨rfl, rfl⟩) | (at_builtin; refine wpList_append_one (c := byteVal) rfl _ _ 36 rfl (W.heap.size + 2) 5 (.int .u8 0) Try.underlying36 info8 rfl (fun _ => rfl) _ m (bytesAt L t m) rfl (HO.out.alloc _) wr.heap.size N rfl ?c1 hm2 (by simp; omega) ?_))
      case c1 => simp [byteVal]
      intro v' w3 hown' hgrow
      have hown'' : w3.ownsRow (W.heap.size + 2) 5 1 v' (m + 1) ((bytesAt L t (m + 1)).map byteVal) := by
        rw [HNX.out]
        simpa using hown'
      have hb2 : Below (W.heap.size + 2) wr w3 := ((Below.refl _ _).alloc hsz _).grown hgrow (by simp; omega) (fun q hq => (HO.out.lt q hq).1)
      clear hown' hgrow
      obtain ⟨o3, c3, rfl⟩ := listed_length (own_listed (c := byteVal) hown'')
      have hbm : (bytesAt L t (m + 1)).length = m + 1 := bytesAt_length _ _ _
      rw [hbm] at hown'' ⊢
      have HOWN := Lib.hid hown''
      have HB2 := Lib.hid hb2
      have hC0 := (hb2.block W.heap.size (by omega)).trans HB0.out
      have hC1 := (hb2.block (W.heap.size + 1) (by omega)).trans HB1.out
      clear q0 q1 q2 q3 f0 f1 f2 f3 hown'' hb2 hbm
      have q1 := cell_of_block hC0 1
      have f1 := unfrozen_of_block hC0 1
      have HC0 := Lib.hid hC0
      have HC1 := Lib.hid hC1
      have H8 := Lib.hid h8
      clear hC0 hC1
      go_wp2_with fail
      go_roundw
      case rel =>
        have e1 : t + (m + 1) = q + 1 := by have := EQ.out; omega
        have hN0 : (w3.setCell ⟨W.heap.size, 1, none⟩ (.int .i64 ((q : Int) + 1))).heap[W.heap.size]? = some (.cells #[.slice vo n vc, .int .i64 ((q + 1 : Nat) : Int)] 63 (0, 0)) := block_setCell HC0.out _
        refine ⟨m + 1, by rw [e1]; exact H8.out, ownsRow_setCell_below HOWN.out (by show W.heap.size < W.heap.size + 2; omega) _, by rw [e1]; exact hN0, ?_, ?_, ?_⟩
        · rw [Below.heap_setCell _ _ _ _ (by show W.heap.size + 1 ≠ W.heap.size; omega)]
          exact HC1.out
        · exact (HBL.out.trans (HB2.out.mono (by omega))).setCell (p := ⟨W.heap.size, 1, none⟩) (Nat.le_refl _) _
        · have := HB2.out.size
          simp
          omega
      case measure =>
        have h1 := H8.out
        have h2 := EQ.out
        simp [sliceLen]
        omega
    · have hd : decide (8 * ((q : Int) + 1) ≤ (n : Int)) = false := decide_eq_false (by omega)
      have hq : q = n / 8 := by omega
      have HQ := Lib.hid hq
      have hmm : n / 8 - t = m := by omega
      have HM := Lib.hid hmm
      clear hq hmm eq h8
      go_wp2_with fail
      refine bodyPost_ret (v := .tuple #[.agg #[.slice vo n vc, .int .i64 (q : Int)], .slice oo m oc]) ?_ rfl ⟨_, by rw [← HQ.out], ?_, fun b hb => Nat.le_trans (by omega) (HFR.out b hb), ?_⟩
      · rw [results_cell_tmp rfl]
        simp [asAddr, Result.andThen, go_sem, q2, q3]
      · rw [HM.out]
        refine listed_kept HROW.out (Nat.le_of_eq (by simp)) (fun b hb => ?_)
        have hge := HFR.out b hb
        rw [Below.heap_setCell _ _ _ b (by show b ≠ W.heap.size + 1; omega), Below.heap_setCell _ _ _ b (by show b ≠ W.heap.size + 1; omega)]
      · exact (HBL.out.setCell (p := ⟨W.heap.size + 1, 0, none⟩) (Nat.le_succ _) _).setCell (p := ⟨W.heap.size + 1, 1, none⟩) (Nat.le_succ _) _
end Go.Proofs.Ytefdlidjdmlnaaa.Fx
namespace Go.Proofs.Ytefdlidjdmlnaaa.Fx
open Go Go.RowKit Go.Joins
set_option linter.unusedVariables false
/-- Only blocks of O, and new ones, are other ones. -/
structure Past (O : Nat → Prop) (w w' : World) : Prop where
  os : w'.os = w.os
  tape : w'.tape = w.tape
  output : w'.output = w.output
  size : w.heap.size ≤ w'.heap.size
  block : ∀ k, k < w.heap.size → ¬ O k → w'.heap[k]? = w.heap[k]?
theorem Past.below {O : Nat → Prop} {w w' : World} {B : Nat} (h : Past O w w') (hO : ∀ k, O k → B ≤ k) (hB : B ≤ w.heap.size) : Below B w w' :=
  ⟨h.os, h.tape, h.output, h.size, fun k hk => h.block k (Nat.lt_of_lt_of_le hk hB) (fun ho => by have := hO k ho; omega)⟩
theorem Past.of_below {O : Nat → Prop} {w w' : World} (h : Below w.heap.size w w') : Past O w w' := ⟨h.os, h.tape, h.output, h.size, fun k hk _ => h.block k hk⟩
theorem Past.refl (O : Nat → Prop) (w : World) : Past O w w := ⟨rfl, rfl, rfl, Nat.le_refl _, fun _ _ _ => rfl⟩
theorem Past.trans {O O' : Nat → Prop} {w w' w'' : World} (h : Past O w w') (k : Past O' w' w'') (hO : ∀ b, O' b → O b ∨ w.heap.size ≤ b) : Past O w w'' :=
  ⟨k.os.trans h.os, k.tape.trans h.tape, k.output.trans h.output, Nat.le_trans h.size k.size, fun b hb hn => (k.block b (Nat.lt_of_lt_of_le hb h.size) (fun ho => by rcases hO b ho with h1 | h1; exact hn h1; omega)).trans (h.block b hb hn)⟩
theorem listed_past {α : Type} {c : α → Value} {O : Nat → Prop} {w w' : World} {v : Value} {zs : List α} (h : listed c w v zs) (hp : Past O w w') (hO : ∀ b, inBlock v b → ¬ O b) : listed c w' v zs := by
  refine listed_kept h hp.size (fun b hb => ?_)
  have hlt : b < w.heap.size := by
    obtain ⟨off, n, cap, rfl, hn⟩ := hb
    rcases h with ⟨⟨o, c', h, _⟩, _⟩ | ⟨b', off', cap', h, hlt, _⟩
    · simp only [Value.slice.injEq] at h
      omega
    · simp only [Value.slice.injEq, Option.some.injEq, Addr.mk.injEq] at h
      obtain ⟨⟨rfl, _⟩, _⟩ := h
      exact hlt
  exact hp.block b hlt (hO b hb)
/-! ### Lists of bytes that are alike -/
def strOf (zs : List Nat) : ByteArray := strOfNums (zs.map fun (n : Nat) => (n : Int))
theorem convert_listed {w : World} {v : Value} {zs : List Nat} (h : bytesIn w v zs) : (convert 36 9 v).run Try.prog w = .ok (.string (strOf zs)) w := by
  rcases h with ⟨⟨o, cap, rfl, ho⟩, rfl⟩ | ⟨b, off, cap, rfl, hlt, hle, hc⟩
  · cases o with
    | none => exact run_convert_bytes_nil w 36 5 Try.underlying36 Try.underlying5 0 cap 9 Try.underlying9
    | some a =>
      have hl : (loadCells a 0).run Try.prog w = .ok (([] : List Int).map (Value.int .u8)).toArray w := run_loadCells_list (P := Try.prog) w a [] (fun j v hj => by simp at hj)
      rw [run_convert_bytes_string w 36 9 5 (some a) 0 cap Try.underlying36 Try.underlying5 Try.underlying9, run_bytesToString w a 0 cap [] hl]
      rfl
  · refine run_convert_bytes_arg w 36 5 Try.underlying36 Try.underlying5 b off zs.length cap (zs.map fun (n : Nat) => (n : Int)) (by simp) (fun i hi => ?_) 9 Try.underlying9
    have := hc i zs[i] (List.getElem?_eq_getElem hi)
    rw [this]
    simp [byteVal, List.getD, hi]
theorem same_listed (p q : Value) (zs : List Nat) (w : World) (hp : bytesIn w p zs) (hq : bytesIn w q zs) :
    Calls Try.prog 18 #[p, q] w fun e w' => e = .returned (.bool true) ∧ w = w' := by
  have c1 := convert_listed hp
  have c2 := convert_listed hq
  clear hp hq
  generalize strOf zs = S at *
  go_enter Try.func18, Try.ntmps18
  go_wp2
  go_ret
  first | exact ⟨rfl, rfl⟩ | simp
end Go.Proofs.Ytefdlidjdmlnaaa.Fx
namespace Go.Proofs.Ytefdlidjdmlnaaa.Fx
open Go Go.RowKit Go.Joins
set_option linter.unusedVariables false
set_option maxHeartbeats 4000000 in
set_option maxRecDepth 100000 in
theorem rtake_own (v : Value) (L : List Bool) (t : Nat) (W : World) (hr : bools W v L) (hl : L.length ≤ 1099511627000) (ht : 8 * t ≤ L.length) :
    Calls Try.prog 60 #[.agg #[v, .int .i64 (t : Int)]] W fun e w' =>
      ∃ u, e = .returned (.tuple #[.agg #[v, .int .i64 ((L.length / 8 : Nat) : Int)], u]) ∧ bytesIn w' u (bytesAt L t (L.length / 8 - t)) ∧ (∀ b, inBlock u b → W.heap.size ≤ b) ∧ w'.ownsRow W.heap.size 5 1 u (L.length / 8 - t) ((bytesAt L t (L.length / 8 - t)).map byteVal) ∧ Below W.heap.size W w' := by
  obtain ⟨w1, e1, hs1, hB0, hB1, hbl⟩ := two_blocks W 63 v (.int .i64 (t : Int)) (.slice none 0 0) (.int .i64 0)
  have HR := Lib.hid hr
  obtain ⟨vo, vc, rfl⟩ := listed_length hr
  clear hr
  obtain ⟨n, en⟩ : ∃ n, L.length = n := ⟨_, rfl⟩
  have EN := Lib.hid en
  rw [en] at HR hl ht hB0 e1 ⊢
  clear en
  have hb1 : Below w1.heap.size w1 w1 := Below.refl _ _
  go_enter Try.func60, Try.ntmps60
  go_wp2_with fail
  rw [← e1]
  clear e1
  go_loopw [4] (fun o wr => ∃ m : Nat, 8 * (t + m) ≤ n ∧ wr.ownsRow (W.heap.size + 2) 5 1 o m ((bytesAt L t m).map byteVal) ∧ wr.heap[W.heap.size]? = some (.cells #[.slice vo n vc, .int .i64 ((t + m : Nat) : Int)] 63 (0, 0)) ∧ wr.heap[W.heap.size + 1]? = some (.cells #[.slice none 0 0, .int .i64 0] 63 (0, 0)) ∧ Below W.heap.size W wr ∧ W.heap.size + 2 ≤ wr.heap.size) (fun o _ => n / 8 - t - sliceLen o)
  case atStart => exact ⟨0, by omega, World.ownsRow_nil _ _ _ _, hB0, hB1, hbl, by omega⟩
  case round =>
    clear hB0 hB1 hbl hs1 hb1
    obtain ⟨m, hm, hown, hB0, hB1, hbl, hsz⟩ := hrel
    have HO := Lib.hid hown
    have HBL := Lib.hid hbl
    have HB0 := Lib.hid hB0
    have HB1 := Lib.hid hB1
    have hrow := own_listed (c := byteVal) hown
    have HFR := Lib.hid (fun b hb => own_fresh hown b hb)
    have HROW := Lib.hid hrow
    obtain ⟨oo, oc, rfl⟩ := listed_length hrow
    have hbm : (bytesAt L t m).length = m := bytesAt_length _ _ _
    rw [hbm] at HO HROW HFR ⊢
    clear hbl hown hbm hrow
    obtain ⟨q, eq⟩ : ∃ q, t + m = q := ⟨_, rfl⟩
    have EQ := Lib.hid eq
    have hm2 : m + 1 ≤ 140737488355328 := by omega
    rw [eq] at hB0 HB0 hm
    have q0 := cell_of_block hB0 0
    have q1 := cell_of_block hB0 1
    have q2 := cell_of_block hB1 0
    have q3 := cell_of_block hB1 1
    have f0 := unfrozen_of_block hB0 0
    have f1 := unfrozen_of_block hB0 1
    have f2 := unfrozen_of_block hB1 0
    have f3 := unfrozen_of_block hB1 1
    have hne : ¬ W.heap.size = W.heap.size + 1 := by omega
    clear hB0 hB1
    by_cases h8 : 8 * (q + 1) ≤ n
    · have hd : decide (8 * ((q : Int) + 1) ≤ (n : Int)) = true := decide_eq_true (by omega)
      obtain ⟨f, ef⟩ : ∃ f, 8 * q = f := ⟨_, rfl⟩
      have hf : 8 * (q : Int) = (f : Int) := by omega
      have KN : Hid (∀ w', Below W.heap.size W w' → Calls Try.prog 80 #[.slice vo n vc, .int .i64 (f : Int), .int .i64 8] w' fun e w'' => e = .returned (.int .u32 (numAt L f 8 : Nat)) ∧ w' = w'') := fun w' hb => number_any _ L f 8 w' (listed_on HR.out hb) (by rw [EN.out]; omega) (by omega) (by rw [EN.out]; omega)
      have bN := numAt_below L f 8
      have HNX := Lib.hid (bytesAt_next L t m)
      rw [EQ.out, ef] at HNX
      obtain ⟨N, eN⟩ : ∃ N, numAt L f 8 = N := ⟨_, rfl⟩
      rw [eN] at KN bN HNX
      clear eN eq
      have hw8 : IntKind.u8.wrap (N : Int) = (N : Int) := by
        rw [IntKind.wrap_u8']
        omega
      go_wp2_with (first | (go_at_call 80; refine (KN.out _ HBL.out).mono ?_; rintro e w' ⟨rfl, rfl⟩) | (at_builtin; refine wpList_append_one (c := byteVal) rfl _ _ 36 rfl (W.heap.size + 2) 5 (.int .u8 0) Try.underlying36 info8 rfl (fun _ => rfl) _ m (bytesAt L t m) rfl (HO.out.alloc _) wr.heap.size N rfl ?c1 hm2 (by simp; omega) ?_))
      case c1 => simp [byteVal]
      intro v' w3 hown' hgrow
      have hown'' : w3.ownsRow (W.heap.size + 2) 5 1 v' (m + 1) ((bytesAt L t (m + 1)).map byteVal) := by
        rw [HNX.out]
        simpa using hown'
      have hb2 : Below (W.heap.size + 2) wr w3 := ((Below.refl _ _).alloc hsz _).grown hgrow (by simp; omega) (fun q hq => (HO.out.lt q hq).1)
      clear hown' hgrow
      obtain ⟨o3, c3, rfl⟩ := listed_length (own_listed (c := byteVal) hown'')
      have hbm : (bytesAt L t (m + 1)).length = m + 1 := bytesAt_length _ _ _
      rw [hbm] at hown'' ⊢
      have HOWN := Lib.hid hown''
      have HB2 := Lib.hid hb2
      have hC0 := (hb2.block W.heap.size (by omega)).trans HB0.out
      have hC1 := (hb2.block (W.heap.size + 1) (by omega)).trans HB1.out
      clear q0 q1 q2 q3 f0 f1 f2 f3 hown'' hb2 hbm
      have q1 := cell_of_block hC0 1
      have f1 := unfrozen_of_block hC0 1
      have HC0 := Lib.hid hC0
      have HC1 := Lib.hid hC1
      have H8 := Lib.hid h8
      clear hC0 hC1
      go_wp2_with fail
      go_roundw
      case rel =>
        have e1 : t + (m + 1) = q + 1 := by have := EQ.out; omega
        have hN0 : (w3.setCell ⟨W.heap.size, 1, none⟩ (.int .i64 ((q : Int) + 1))).heap[W.heap.size]? = some (.cells #[.slice vo n vc, .int .i64 ((q + 1 : Nat) : Int)] 63 (0, 0)) := block_setCell HC0.out _
        refine ⟨m + 1, by rw [e1]; exact H8.out, ownsRow_setCell_below HOWN.out (by show W.heap.size < W.heap.size + 2; omega) _, by rw [e1]; exact hN0, ?_, ?_, ?_⟩
        · rw [Below.heap_setCell _ _ _ _ (by show W.heap.size + 1 ≠ W.heap.size; omega)]
          exact HC1.out
        · exact (HBL.out.trans (HB2.out.mono (by omega))).setCell (p := ⟨W.heap.size, 1, none⟩) (Nat.le_refl _) _
        · have := HB2.out.size
          simp
          omega
      case measure =>
        have h1 := H8.out
        have h2 := EQ.out
        simp [sliceLen]
        omega
    · have hd : decide (8 * ((q : Int) + 1) ≤ (n : Int)) = false := decide_eq_false (by omega)
      have hq : q = n / 8 := by omega
      have HQ := Lib.hid hq
      have hmm : n / 8 - t = m := by omega
      have HM := Lib.hid hmm
      clear hq hmm eq h8
      go_wp2_with fail
      refine bodyPost_ret (v := .tuple #[.agg #[.slice vo n vc, .int .i64 (q : Int)], .slice oo m oc]) ?_ rfl ⟨_, by rw [← HQ.out], ?_, fun b hb => Nat.le_trans (by omega) (HFR.out b hb), ?_, ?_⟩
      · rw [results_cell_tmp rfl]
        simp [asAddr, Result.andThen, go_sem, q2, q3]
      · rw [HM.out]
        refine listed_kept HROW.out (Nat.le_of_eq (by simp)) (fun b hb => ?_)
        have hge := HFR.out b hb
        rw [Below.heap_setCell _ _ _ b (by show b ≠ W.heap.size + 1; omega), Below.heap_setCell _ _ _ b (by show b ≠ W.heap.size + 1; omega)]
      · rw [HM.out]
        exact World.ownsRow.mono (ownsRow_setCell_below (ownsRow_setCell_below HO.out (by show W.heap.size + 1 < W.heap.size + 2; omega) _) (by show W.heap.size + 1 < W.heap.size + 2; omega) _) (by omega)
      · exact (HBL.out.setCell (p := ⟨W.heap.size + 1, 0, none⟩) (Nat.le_succ _) _).setCell (p := ⟨W.heap.size + 1, 1, none⟩) (Nat.le_succ _) _
end Go.Proofs.Ytefdlidjdmlnaaa.Fx
