/-
  The document's own answers of layer 5. The conditions stand in each.
-/
import Derived.Laws.Bits64
import Derived.Laws.BitsAllLaws
import Derived.Handy
import Derived.Deep.CutBlock
import Derived.Deep.DeepCutAuto
import Derived.Test.YtbfpbmnnlckldaaDoorLists
import Derived.Test.YtbfpbmnnlckldaaDoorBitsP
namespace Go.Proofs.YtbfpbmnnlckldaaDoor.Fx
open Go Go.RowKit Go.Joins
set_option linter.unusedVariables false
abbrev bools (w : World) (v : Value) (l : List Bool) : Prop := listed Value.bool w v l
theorem pow_le (k : Nat) (h : k ≤ 32) : 2 ^ k ≤ 4294967296 := by
  have := Nat.pow_le_pow_right (n := 2) (by decide) h
  omega
set_option maxHeartbeats 1000000 in
theorem number_any (v : Value) (l : List Bool) (f k : Nat) (w : World) (hr : bools w v l) (hl : l.length ≤ 1099511627776) (hk : k ≤ 32) (hf : f + k ≤ l.length) :
    Calls Tryd.prog 66 #[v, .int .i64 (f : Int), .int .i64 (k : Int)] w fun e w' => e = .returned (.int .u32 (numAt l f k : Nat)) ∧ w = w' := by
  have HR := Lib.hid hr
  clear hr
  have HL := Lib.hid hf
  have hf2 : f + k ≤ 1099511627776 := by omega
  clear hl
  have b0 := numAt_below l f k
  have bk := pow_le k hk
  go_enter Tryd.func66, Tryd.ntmps66
  go_wp2_with fail
  go_loop [7, 8] (fun n i => ∃ j : Nat, j ≤ k ∧ n = .int .u32 (numAt l (f + j) (k - j) : Nat) ∧ i = .int .i64 ((j : Int) - 1)) (fun _ i => (intOf i + 1).toNat)
  case atStart => exact ⟨k, Nat.le_refl _, by rw [Nat.sub_self, numAt_zero]; rfl, by first | rfl | go_num⟩
  case round =>
    obtain ⟨j, hj, rfl, rfl⟩ := hrel
    by_cases hj0 : j = 0
    · subst hj0
      rw [Nat.add_zero, Nat.sub_zero]
      obtain ⟨N, eN⟩ : ∃ N, numAt l f k = N := ⟨_, rfl⟩
      rw [eN] at b0 ⊢
      have EN := Lib.hid eN
      clear eN
      go_wp2_with fail
      go_ret
      rw [EN.out]
      exact ⟨rfl, rfl⟩
    · obtain ⟨q, rfl⟩ : ∃ q, j = q + 1 := ⟨j - 1, by omega⟩
      have hq : f + q < l.length := by have := HL.out; omega
      obtain ⟨bit, hbit⟩ : ∃ bit, l[f + q]? = some bit := ⟨l[f + q], List.getElem?_eq_getElem hq⟩
      obtain ⟨b, off, cap, ev, hlt, hcell⟩ := listed_cell HR.out (f + q) bit hbit
      have HS := Lib.hid (numAt_down l (f + q) (k - (q + 1)) bit hbit)
      have e1 : k - (q + 1) + 1 = k - q := by omega
      rw [e1, Nat.add_assoc f q 1] at HS
      have bq := numAt_below l (f + q) (k - q)
      have bq2 := pow_le (k - q) (by omega)
      obtain ⟨N, eN⟩ : ∃ N, numAt l (f + (q + 1)) (k - (q + 1)) = N := ⟨_, rfl⟩
      rw [eN] at HS
      rw [eN]
      clear eN
      have HSB := HS.out
      obtain ⟨M, eM⟩ : ∃ M, numAt l (f + q) (k - q) = M := ⟨_, rfl⟩
      rw [eM] at HS HSB bq
      have HM := Lib.hid eM
      clear eM hbit
      subst ev
      obtain ⟨p, ep⟩ : ∃ p, f + q = p := ⟨_, rfl⟩
      rw [ep] at hcell hq
      have hsum : (f : Int) + (q : Int) = (p : Int) := by omega
      obtain ⟨len, el⟩ : ∃ len, l.length = len := ⟨_, rfl⟩
      rw [el] at hq ⊢
      have hN2 : N * 2 ≤ 4294967295 := by cases bit <;> simp at HSB <;> omega
      cases bit with
      | true =>
        have hM : M = N * 2 + 1 := by simpa using HSB
        clear HSB
        go_wp2_with fail
        go_round
        case rel => exact ⟨q, by omega, by rw [HM.out, hM]; go_num, by go_num⟩
        case measure => simp [intOf]
      | false =>
        have hM : M = N * 2 := by simpa using HSB
        clear HSB
        go_wp2_with fail
        go_round
        case rel => exact ⟨q, by omega, by rw [HM.out, hM]; go_num, by go_num⟩
        case measure => simp [intOf]
theorem infoB : (Tryd.prog.info? 4).map (fun i => (i.zero, i.size, i.bytes)) = some (some (.bool false), 1, 1) := by kernel_rfl
theorem alloc_old {w : World} {o o' : Obj} {g : Nat} (h : w.heap[g]? = some o) : (w.alloc o').heap[g]? = some o := by
  exact (Below.heap_alloc w o' g (Array.getElem?_eq_some_iff.1 h).1).trans h
set_option maxHeartbeats 4000000 in
set_option maxRecDepth 100000 in
theorem rput_any (vL : Value) (L : List Bool) (t : Int) (n k : Nat) (W : World) (hr : bools W vL L) (hl : L.length ≤ 1099511627776) (hk : k ≤ 32) (hn : n < 2 ^ k) :
    Calls Tryd.prog 67 #[.agg #[vL, .int .i64 t], .int .u32 (n : Int), .int .i64 (k : Int)] W fun e w' =>
      ∃ u, e = .returned (.tuple #[.agg #[u, .int .i64 t], .int .i64 0]) ∧ bools w' u (L ++ bitsOf n k) ∧ (∀ b, inBlock u b → W.heap.size ≤ b) ∧ Below W.heap.size W w' := by
  have bk := pow_le k hk
  have HR := Lib.hid hr
  clear hr
  have hk2 : decide ((32 : Int) < (k : Int)) = false := decide_eq_false (by omega)
  have hk3 : decide ((k : Int) < 0) = false := decide_eq_false (by omega)
  obtain ⟨K, hK, hnK⟩ : ∃ K : Nat, IntKind.u64.wrap ((2 : Int) ^ k) = (K : Int) ∧ n < K := by
    refine ⟨2 ^ k, ?_, hn⟩
    rw [IntKind.wrap_u64]
    have e : (2 : Int) ^ k = ((2 ^ k : Nat) : Int) := by rw [Int.natCast_pow]; rfl
    rw [e]
    omega
  have hd : decide ((K : Int) ≤ (n : Int)) = false := decide_eq_false (by omega)
  have bn : n ≤ 4294967295 := by omega
  clear hn bk
  go_enter Tryd.func67, Tryd.ntmps67
  go_upto_region 3 with fail
  obtain ⟨w1, e1⟩ : ∃ w1, w1 = (W.alloc (.cells #[vL, .int .i64 t] 36)).alloc (.cells #[.slice none 0 0, .int .i64 0] 36) := ⟨_, rfl⟩
  have hs0 : (W.alloc (.cells #[vL, .int .i64 t] 36)).heap.size = W.heap.size + 1 := by
    show (W.heap.push _).size = _
    simp
  have hs1 : w1.heap.size = W.heap.size + 2 := by
    rw [e1]
    show ((W.alloc _).heap.push _).size = _
    rw [Array.size_push, hs0]
  have hB0 : w1.heap[W.heap.size]? = some (.cells #[vL, .int .i64 t] 36 (0, 0)) := by
    rw [e1]
    exact alloc_old (heap_alloc_new W _)
  have hB1 : w1.heap[W.heap.size + 1]? = some (.cells #[.slice none 0 0, .int .i64 0] 36 (0, 0)) := by
    rw [e1, ← hs0]
    exact heap_alloc_new _ _
  have hbl : Below W.heap.size W w1 := by
    rw [e1]
    exact ((Below.refl _ _).alloc (Nat.le_refl _) _).alloc (by rw [hs0]; omega) _
  rw [← e1]
  clear e1 hs0
  have HS1 := Lib.hid hs1
  clear hs1
  have hc0 : w1.cell? ⟨W.heap.size, 0, none⟩ = some vL := cell_of_block hB0 0
  go_wp2_with (at_builtin; refine wpList_append_listed (c := Value.bool) rfl _ _ 34 rfl w1.heap.size 4 (.bool false) Tryd.underlying34 infoB rfl (fun _ => rfl) (.slice none 0 0) 0 [] rfl (World.ownsRow_nil _ _ _ _) vL L rfl (listed_on HR.out hbl) (by omega) (Nat.le_refl _) ?_)
  intro v0 w2 hown hgrow
  have hown : w2.ownsRow w1.heap.size 4 1 v0 L.length (L.map Value.bool) := by first | exact hown | (rw [Nat.zero_add, List.nil_append] at hown; exact hown)
  have hbg : Below w1.heap.size w1 w2 := (Below.refl _ _).grown hgrow (Nat.le_refl _) (fun q hq => by simp [Value.ownBlock] at hq)
  clear hgrow
  have hst : w2.ownsRow w1.heap.size 4 1 v0 (L.length + 0) ((L ++ bitsOf n 0).map Value.bool) := by
    rw [bitsOf, List.append_nil]
    exact hown
  clear hown hc0
  go_wp2_with fail
  go_loopw [1, 8, 9] (fun m v i wr => ∃ j : Nat, j ≤ k ∧ m = .int .u32 ((n / 2 ^ j : Nat) : Int) ∧ wr.ownsRow w1.heap.size 4 1 v (L.length + j) ((L ++ bitsOf n j).map Value.bool) ∧ i = .int .i64 j ∧ Below w1.heap.size w1 wr) (fun _ _ i _ => k - (intOf i).toNat)
  case atStart => exact ⟨0, Nat.zero_le _, by rw [Nat.pow_zero, Nat.div_one], hst, rfl, hbg⟩
  case round =>
    clear hst hbg
    obtain ⟨j, hj, rfl, hown, rfl, hbg⟩ := hrel
    have hsz := hbg.size
    by_cases hjk : j < k
    · have hdj : decide ((j : Int) < (k : Int)) = true := decide_eq_true (by omega)
      have bm : n / 2 ^ j ≤ 4294967295 := Nat.le_trans (Nat.div_le_self _ _) bn
      have HE : Hid (bitsOf n (j + 1) = bitsOf n j ++ [n / 2 ^ j % 2 == 1]) := bitsOf_next n j
      have HD : Hid (n / 2 ^ (j + 1) = n / 2 ^ j / 2) := by
        show _ = _
        rw [Nat.pow_succ, Nat.div_div_eq_div_mul]
      obtain ⟨M, eM⟩ : ∃ M, n / 2 ^ j = M := ⟨_, rfl⟩
      rw [eM] at bm HE HD ⊢
      clear eM
      have hbit : ((M : Int) % 2 == 1) = (M % 2 == 1) := by
        rw [Bool.eq_iff_iff]
        simp
        omega
      obtain ⟨bit, eb⟩ : ∃ bit, (M % 2 == 1) = bit := ⟨_, rfl⟩
      rw [eb] at hbit HE
      clear eb
      go_wp2_with (at_builtin; refine wpList_append_one (c := Value.bool) rfl _ _ 34 rfl w1.heap.size 4 (.bool false) Tryd.underlying34 infoB rfl (fun _ => rfl) _ (L.length + j) (L ++ bitsOf n j) rfl (hown.alloc _) wr.heap.size bit rfl ?c1 (by omega) (by simp; omega) ?_)
      case c1 => simp
      intro v' w3 hown' hgrow
      have hb1 : Below w1.heap.size w1 w3 := (hbg.alloc hsz _).grown hgrow (by simp; omega) (fun q hq => (hown.lt q hq).1)
      have hown' : w3.ownsRow w1.heap.size 4 1 v' (L.length + (j + 1)) ((L ++ bitsOf n (j + 1)).map Value.bool) := by
        rw [HE.out, ← Nat.add_assoc]
        simpa using hown'
      clear hown hgrow hbg
      go_wp2_with fail
      go_roundw
      case rel => exact ⟨j + 1, by omega, by rw [HD.out, Int.natCast_ediv]; rfl, hown', by go_num, hb1⟩
      case measure => simp [intOf]; omega
    · have hdj : decide ((j : Int) < (k : Int)) = false := decide_eq_false (by omega)
      obtain rfl : j = k := by omega
      have hrow : bools wr _ (L ++ bitsOf n j) := own_listed hown
      have hfresh := fun b hb => own_fresh hown b hb
      obtain ⟨uo, uc, rfl⟩ := listed_length hrow
      obtain ⟨len, el⟩ : ∃ len, (L ++ bitsOf n j).length = len := ⟨_, rfl⟩
      rw [el] at hrow hfresh ⊢
      have HROW := Lib.hid hrow
      have HFR := Lib.hid hfresh
      clear hrow hfresh el
      have hB0r := (hbg.block W.heap.size (by have := HS1.out; omega)).trans hB0
      have hB1r := (hbg.block (W.heap.size + 1) (by have := HS1.out; omega)).trans hB1
      have q0 := cell_of_block hB0r 0
      have q1 := cell_of_block hB0r 1
      have q2 := cell_of_block hB1r 0
      have q3 := cell_of_block hB1r 1
      have f0 := unfrozen_of_block hB0r 0
      have f1 := unfrozen_of_block hB0r 1
      have f2 := unfrozen_of_block hB1r 0
      have f3 := unfrozen_of_block hB1r 1
      have hne : ¬ W.heap.size = W.heap.size + 1 := by omega
      have HW : Hid (Below W.heap.size W wr) := hbl.trans (hbg.mono (by have := HS1.out; omega))
      clear hown hB0r hB1r hB0 hB1
      go_wp2_with fail
      refine bodyPost_ret (v := .tuple #[.agg #[.slice uo len uc, .int .i64 t], .int .i64 0]) ?_ rfl ⟨_, rfl, ?_, fun b hb => Nat.le_trans (by have := HS1.out; omega) (HFR.out b hb), ?_⟩
      · rw [results_cell_tmp rfl]
        simp [asAddr, Result.andThen, go_sem, q2, q3]
      · refine listed_kept HROW.out (Nat.le_of_eq (by simp)) (fun b hb => ?_)
        have hge := HFR.out b hb
        have := HS1.out
        rw [Below.heap_setCell _ _ _ b (by show b ≠ W.heap.size + 1; omega), Below.heap_setCell _ _ _ b (by show b ≠ W.heap.size + 1; omega), Below.heap_setCell _ _ _ b (by show b ≠ W.heap.size; omega)]
      · exact ((HW.out.setCell (p := ⟨W.heap.size, 0, none⟩) (Nat.le_refl _) _).setCell (p := ⟨W.heap.size + 1, 0, none⟩) (Nat.le_succ _) _).setCell (p := ⟨W.heap.size + 1, 1, none⟩) (Nat.le_succ _) _
/-- The two blocks that a call of the document's own lays first: the receiver's and the answer's. -/
theorem two_blocks (W : World) (ty : TypeId) (x y x0 y0 : Value) : ∃ w1, w1 = (W.alloc (.cells #[x, y] ty)).alloc (.cells #[x0, y0] ty) ∧ w1.heap.size = W.heap.size + 2 ∧ w1.heap[W.heap.size]? = some (.cells #[x, y] ty (0, 0)) ∧ w1.heap[W.heap.size + 1]? = some (.cells #[x0, y0] ty (0, 0)) ∧ Below W.heap.size W w1 := by
  have hs0 : (W.alloc (.cells #[x, y] ty)).heap.size = W.heap.size + 1 := by
    show (W.heap.push _).size = _
    simp
  refine ⟨_, rfl, ?_, alloc_old (heap_alloc_new W _), ?_, ((Below.refl _ _).alloc (Nat.le_refl _) _).alloc (by rw [hs0]; omega) _⟩
  · show ((W.alloc _).heap.push _).size = _
    rw [Array.size_push, hs0]
  · rw [← hs0]
    exact heap_alloc_new _ _
set_option maxHeartbeats 4000000 in
set_option maxRecDepth 100000 in
theorem rput_bad (vo : Option Addr) (vn vc : Nat) (t n k : Int) (W : World) (hn : 0 ≤ n ∧ n ≤ 4294967295) (hk : -9223372036854775808 ≤ k ∧ k ≤ 9223372036854775807) (hbad : k < 0 ∨ 32 < k ∨ 2 ^ k.toNat ≤ n) :
    Calls Tryd.prog 67 #[.agg #[.slice vo vn vc, .int .i64 t], .int .u32 n, .int .i64 k] W fun e w' =>
      e = .returned (.tuple #[.agg #[.slice vo vn vc, .int .i64 t], .int .i64 2]) ∧ Below W.heap.size W w' := by
  have hfin : ∀ o o' : Obj, Below W.heap.size W ((W.alloc o).alloc o') := fun o o' => ((Below.refl _ _).alloc (Nat.le_refl _) _).alloc (by show W.heap.size ≤ (W.heap.push _).size; simp) _
  rcases Int.lt_or_le k 0 with h | h
  · have hk2 : decide (k < 0) = true := decide_eq_true h
    go_enter Tryd.func67, Tryd.ntmps67
    go_wp2_with fail
    refine bodyPost_ret (v := .tuple #[.agg #[.slice vo vn vc, .int .i64 t], .int .i64 2]) ?_ rfl ⟨rfl, hfin _ _⟩
    rw [results_cell_tmp rfl]
    simp [asAddr, Result.andThen, go_sem]
  · have hk2 : decide (k < 0) = false := decide_eq_false (by omega)
    rcases Int.lt_or_le 32 k with h32 | h32
    · have hk3 : decide (32 < k) = true := decide_eq_true h32
      go_enter Tryd.func67, Tryd.ntmps67
      go_wp2_with fail
      refine bodyPost_ret (v := .tuple #[.agg #[.slice vo vn vc, .int .i64 t], .int .i64 2]) ?_ rfl ⟨rfl, hfin _ _⟩
      rw [results_cell_tmp rfl]
      simp [asAddr, Result.andThen, go_sem]
    · have hk3 : decide (32 < k) = false := decide_eq_false (by omega)
      obtain ⟨k', rfl⟩ : ∃ q : Nat, k = (q : Int) := ⟨k.toNat, by omega⟩
      rw [Int.toNat_natCast] at hbad
      have bk := pow_le k' (by omega)
      obtain ⟨K, eK⟩ : ∃ K : Nat, 2 ^ k' = K := ⟨_, rfl⟩
      have e : (2 : Int) ^ k' = (K : Int) := by rw [← eK, Int.natCast_pow]; rfl
      rw [eK] at bk
      rw [e] at hbad
      have hK : IntKind.u64.wrap ((2 : Int) ^ k') = (K : Int) := by
        rw [IntKind.wrap_u64, e]
        omega
      have hd : decide ((K : Int) ≤ n) = true := decide_eq_true (by omega)
      clear hbad e bk eK
      go_enter Tryd.func67, Tryd.ntmps67
      go_wp2_with fail
      refine bodyPost_ret (v := .tuple #[.agg #[.slice vo vn vc, .int .i64 t], .int .i64 2]) ?_ rfl ⟨rfl, hfin _ _⟩
      rw [results_cell_tmp rfl]
      simp [asAddr, Result.andThen, go_sem]
end Go.Proofs.YtbfpbmnnlckldaaDoor.Fx
