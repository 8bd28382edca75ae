/-
  The walk of PngOrder. The conditions are that the numbers are of their kinds, and what the document's Pieces does.
-/
import Derived.Test.YtefdlidjdmlnaaaPngA
import Derived.Deep.OwnRows
namespace Go.Proofs.Ytefdlidjdmlnaaa.Fx
open Go Go.RowKit Go.Joins
set_option linter.unusedVariables false
/-- Which numbers were seen, among the first k. -/
def seenAt (l : List Nat) (M k : Nat) : Array Value := (Array.range M).map fun p => .bool (decide (p ∈ l.take k))
theorem seen_get (l : List Nat) {M : Nat} (k p : Nat) (hp : p < M) : (seenAt l M k)[p]? = some (.bool (decide (p ∈ l.take k))) := by
  simp [seenAt, hp]
theorem seen_next {l : List Nat} {M k p : Nat} (hk : l[k]? = some p) : (seenAt l M k).setIfInBounds p (.bool true) = seenAt l M (k + 1) := by
  apply Array.ext
  · simp [seenAt]
  · intro j h1 h2
    have hj : j < M := by simpa [seenAt] using h2
    rw [Array.getElem_setIfInBounds (by simpa [seenAt] using hj)]
    simp only [seenAt, Array.getElem_map, Array.getElem_range]
    rw [List.take_add_one, hk]
    by_cases e : p = j
    · subst e
      rw [if_pos rfl]
      simp
    · rw [if_neg e]
      congr 1
      rw [Bool.eq_iff_iff]
      simp only [decide_eq_true_eq, List.mem_append, Option.toList_some, List.mem_singleton]
      exact ⟨.inl, fun h => h.resolve_right (fun h' => e h'.symm)⟩
theorem seen_zero (l : List Nat) (M : Nat) : madeCells #[.bool false] M = seenAt l M 0 := by
  apply Array.ext
  · rw [size_madeCells]
    simp [seenAt]
  · intro j h1 h2
    simp [madeCells, seenAt, Nat.mod_one]
theorem info_bool : (Try.prog.info? 4).map (fun i => (i.zero, i.size, i.bytes)) = some (some (.bool false), 1, 1) := by kernel_rfl
theorem make_bools (l : List Nat) (n : Nat) (hn : n ≤ 2000000) (w : World) : (Instr.makeSlice 48 (.int .i64 (n : Int)) (.int .i64 (n : Int))).run Try.prog w = .ok (.slice (some ⟨w.heap.size, 0, none⟩) n n) (w.alloc (.cells (seenAt l n 0) 4)) := by
  have h := run_make_row' (P := Try.prog) 48 4 (.bool false) 1 Try.underlying48 info_bool rfl .i64 .i64 n (by omega) (by omega) w
  rw [h, seen_zero l]
theorem order_new {w h k p : Nat} (hk : (orderOf w h)[k]? = some p) : p ∉ (orderOf w h).take k := by
  intro hm
  obtain ⟨i, hi, e⟩ := List.getElem_of_mem hm
  have hik : i < k := by
    have := hi
    rw [List.length_take] at this
    omega
  have hkl := (List.getElem?_eq_some_iff.1 hk).1
  have h1 := List.pairwise_iff_getElem.1 (order_apart w h) i k (by omega) hkl hik
  rw [List.getElem_take] at e
  exact h1 (e.trans (List.getElem?_eq_some_iff.1 hk).2.symm)
theorem coarse_few {w s : Nat} (hw : 1 ≤ w) (hs : s = 8 ∨ s = 4 ∨ s = 2 ∨ s = 1) : (w + s - 1) / s ≤ w := by
  rcases hs with rfl | rfl | rfl | rfl <;> omega
set_option maxHeartbeats 4000000 in
set_option maxRecDepth 100000 in
theorem porder_law (D : PDoes) (W : World) (wa ha : Int) (a1 : -9223372036854775808 ≤ wa) (a2 : wa ≤ 9223372036854775807) (b1 : -9223372036854775808 ≤ ha) (b2 : ha ≤ 9223372036854775807) :
    Calls Try.prog 6 #[.int .i64 wa, .int .i64 ha] W fun e w' => e = .returned (.bool true) ∧ Below W.heap.size W w' := by
  have K1 := pick_any wa 100 ⟨a1, a2⟩ (by decide) (by decide) W
  have K2 := pick_any ha 100 ⟨b1, b2⟩ (by decide) (by decide) W
  clear a1 a2 b1 b2
  go_enter Try.func6, Try.ntmps6
  go_wp2_with fail
  go_at_call 19
  refine K1.mono ?_
  rintro e w' ⟨⟨p, rfl, hp⟩, rfl⟩
  have hp := hp (by decide)
  clear K1
  obtain ⟨w, ew⟩ : ∃ w, p + 1 = w := ⟨_, rfl⟩
  have hw : 1 + (p : Int) = (w : Int) := by omega
  have hw1 : 1 ≤ w := by omega
  have hw2 : w ≤ 100 := by omega
  clear ew
  go_wp2_with fail
  go_at_call 19
  refine K2.mono ?_
  rintro e w' ⟨⟨q, rfl, hq⟩, rfl⟩
  have hq := hq (by decide)
  clear K2
  obtain ⟨h, eh⟩ : ∃ h, q + 1 = h := ⟨_, rfl⟩
  have hh : 1 + (q : Int) = (h : Int) := by omega
  have hh1 : 1 ≤ h := by omega
  have hh2 : h ≤ 100 := by omega
  obtain ⟨M, eM⟩ : ∃ M, w * h = M := ⟨_, rfl⟩
  have hM : M ≤ 10000 := by
    have : w * h ≤ 100 * 100 := Nat.mul_le_mul hw2 hh2
    omega
  have hmul : (w : Int) * (h : Int) = (M : Int) := by rw [← eM]; exact (Int.natCast_mul w h).symm
  have HM := Lib.hid eM
  clear eh eM
  go_wp2_with fail
  go_at_call 11
  refine (order_code w h W hw1 (by omega) hh1 (by omega)).mono ?_
  rintro e w1 ⟨o1, n1, c1, rfl, HN1, HR1, HB1⟩
  have hn1 := HN1.out
  rw [HM.out] at hn1
  subst hn1
  have HL : Hid (numsList w1 (.slice o1 n1 c1) (orderOf w h)) := own_listed HR1.out.1
  have HOL : Hid ((orderOf w h).length = n1) := by show _ = _; rw [order_length, HM.out]
  have hmk := make_bools (orderOf w h) n1 (by omega)
  clear HR1 HN1 hw hh hp hq
  go_upto_region 6 with fail
  obtain ⟨w2, ew2⟩ : ∃ v, v = w1.alloc (.cells (seenAt (orderOf w h) n1 0) 4) := ⟨_, rfl⟩
  have hb2 : Below w1.heap.size w1 w2 := by rw [ew2]; exact below_alloc1 _ _
  have hx2 : w2.heap[w1.heap.size]? = some (.cells (seenAt (orderOf w h) n1 0) 4 (0, 0)) := by rw [ew2]; exact heap_alloc_new _ _
  have HB2 := Lib.hid hb2
  have HX2 := Lib.hid hx2
  rw [← ew2]
  clear ew2 hb2 hx2 hmk
  go_wp2_with fail
  go_loopw [7] (fun s7 wk => ∃ k : Nat, k ≤ n1 ∧ s7 = .int .i64 (k : Int) ∧ Hid (wk.heap[w1.heap.size]? = some (.cells (seenAt (orderOf w h) n1 k) 4 (0, 0))) ∧ Hid (Below w1.heap.size w1 wk)) (fun s7 _ => n1 - (intOf s7).toNat)
  case atStart => exact ⟨0, Nat.zero_le _, rfl, HX2.out, HB2.out⟩
  case round =>
    clear HX2 HB2
    obtain ⟨k, hk, rfl, HX, HB⟩ := hrel
    by_cases hkn : k < n1
    · have d1 : decide ((k : Int) < (n1 : Int)) = true := decide_eq_true (by omega)
      obtain ⟨j, ej⟩ : ∃ j, (orderOf w h)[k]? = some j := ⟨(orderOf w h)[k]'(by rw [HOL.out]; omega), List.getElem?_eq_getElem _⟩
      have hjM : j < n1 := by rw [← HM.out]; exact order_below (List.mem_of_getElem? ej)
      obtain ⟨ob, oof, oc2, eo, olt, ocell⟩ := listed_cell HL.out k j ej
      rw [HOL.out] at eo
      simp only [Value.slice.injEq] at eo
      obtain ⟨rfl, _, rfl⟩ := eo
      unfold nv at ocell
      have oc := (HB.out.cell (p := ⟨ob, oof + k, none⟩) olt).trans ocell
      have hcell := cell_of_block HX.out j
      rw [seen_get _ k j hjM, decide_eq_false (order_new ej)] at hcell
      have hfr := unfrozen_of_block HX.out j
      have HXN : Hid ((wr.setCell ⟨w1.heap.size, j, none⟩ (.bool true)).heap[w1.heap.size]? = some (.cells (seenAt (orderOf w h) n1 (k + 1)) 4 (0, 0))) := by
        show _ = _
        rw [← seen_next ej]
        exact block_setCell HX.out _
      have HBN : Hid (Below w1.heap.size w1 (wr.setCell ⟨w1.heap.size, j, none⟩ (.bool true))) := HB.out.setCell (p := ⟨w1.heap.size, j, none⟩) (Nat.le_refl _) _
      have d2 : decide ((j : Int) < 0) = false := decide_eq_false (by omega)
      have d3 : decide ((n1 : Int) ≤ (j : Int)) = false := decide_eq_false (by omega)
      have j0 : (0 : Int) ≤ (j : Int) := by omega
      have j1 : (j : Int) < (n1 : Int) := by omega
      clear ej olt ocell
      go_wp2_with fail
      go_roundw
      case rel => exact ⟨k + 1, by omega, by first | rfl | go_num, HXN.out, HBN.out⟩
      case measure => simp [intOf]; omega
    · obtain rfl : k = n1 := by omega
      have d1 : decide ((k : Int) < (k : Int)) = false := decide_eq_false (by omega)
      clear HX
      go_wp2_with fail
      go_loopw [8] (fun s8 wy => ∃ S : Nat, S ≤ 8 ∧ s8 = .int .i64 (S : Int) ∧ Hid (S = 0 ∨ S = 8 ∨ S = 4 ∨ S = 2 ∨ S = 1) ∧ Hid (Below w1.heap.size w1 wy)) (fun s8 _ => (intOf s8).toNat)
      case atStart => exact ⟨8, Nat.le_refl _, rfl, .inr (.inl rfl), HB.out⟩
      case round =>
        clear HB
        obtain ⟨S, hS8, rfl, HS, HB⟩ := hrel
        by_cases hS : 1 ≤ S
        · have HS' : Hid (S = 8 ∨ S = 4 ∨ S = 2 ∨ S = 1) := HS.out.resolve_left (by omega)
          have d2 : decide ((1 : Int) ≤ (S : Int)) = true := decide_eq_true (by omega)
          have z1 : ((S : Int) == 0) = false := by simp; omega
          have z2 : ¬ (S : Int) = 0 := by omega
          have z3 : decide ((S : Int) = 0) = false := decide_eq_false z2
          obtain ⟨wS, ewS⟩ : ∃ v, w + S = v := ⟨_, rfl⟩
          obtain ⟨hS', ehS⟩ : ∃ v, h + S = v := ⟨_, rfl⟩
          have p1 : (w : Int) + (S : Int) = (wS : Int) := by omega
          have p2 : (h : Int) + (S : Int) = (hS' : Int) := by omega
          obtain ⟨w3, ew3⟩ : ∃ v, wS - 1 = v := ⟨_, rfl⟩
          obtain ⟨h3, eh3⟩ : ∃ v, hS' - 1 = v := ⟨_, rfl⟩
          have p3 : (wS : Int) - 1 = (w3 : Int) := by omega
          have p4 : (hS' : Int) - 1 = (h3 : Int) := by omega
          have bw3 : w3 ≤ 108 := by omega
          have bh3 : h3 ≤ 108 := by omega
          obtain ⟨a, ea⟩ : ∃ v, w3 / S = v := ⟨_, rfl⟩
          obtain ⟨b, eb⟩ : ∃ v, h3 / S = v := ⟨_, rfl⟩
          have p5 : (w3 : Int).tdiv (S : Int) = (a : Int) := by rw [Int.tdiv_eq_ediv_of_nonneg (by omega), ← ea]; rfl
          have p6 : (h3 : Int).tdiv (S : Int) = (b : Int) := by rw [Int.tdiv_eq_ediv_of_nonneg (by omega), ← eb]; rfl
          have ea2 : (w + S - 1) / S = a := by rw [← ea, ← ew3, ← ewS]
          have eb2 : (h + S - 1) / S = b := by rw [← eb, ← eh3, ← ehS]
          have ha : a ≤ w := by rw [← ea2]; exact coarse_few hw1 HS'.out
          have hb : b ≤ h := by rw [← eb2]; exact coarse_few hh1 HS'.out
          obtain ⟨n, en⟩ : ∃ v, a * b = v := ⟨_, rfl⟩
          have hnk : n ≤ k := by rw [← en, ← HM.out]; exact Nat.mul_le_mul ha hb
          have p7 : (a : Int) * (b : Int) = (n : Int) := by rw [← en]; exact (Int.natCast_mul a b).symm
          have HCO : Hid (∀ i p, i < n → (orderOf w h)[i]? = some p → p % w % S = 0 ∧ p / w % S = 0) := fun i p hi hp => order_coarse w h S i p HS'.out (by rw [ea2, eb2, en]; exact hi) hp
          have ba : a ≤ 100 := by omega
          have bb : b ≤ 100 := by omega
          clear ea eb ea2 eb2 en ew3 eh3 ewS ehS ha hb
          go_wp2_with fail
          go_quiet (fail)
          have HBQ : Hid (Below w1.heap.size w1 (wr.drewN nq)) := HB.out.trans (⟨rfl, rfl, rfl, Nat.le_refl _, fun _ _ => rfl⟩ : Below w1.heap.size wr (wr.drewN nq))
          clear p1 p2 p3 p4 p5 p6 p7
          go_wp2_with fail
          go_loopw [10] (fun s10 wx => ∃ i : Nat, i ≤ n ∧ s10 = .int .i64 (i : Int) ∧ Hid (Below w1.heap.size w1 wx)) (fun s10 _ => n - (intOf s10).toNat)
          case atStart => exact ⟨0, Nat.zero_le _, by first | rfl | trivial, HBQ.out⟩
          case round =>
            clear HBQ HB
            obtain ⟨i, hi, rfl, HB⟩ := hrel
            by_cases hin : i < n
            · have d3 : decide ((i : Int) < (n : Int)) = true := decide_eq_true (by omega)
              obtain ⟨j, ej⟩ : ∃ j, (orderOf w h)[i]? = some j := ⟨(orderOf w h)[i]'(by rw [HOL.out]; omega), List.getElem?_eq_getElem _⟩
              have hjM : j < k := by rw [← HM.out]; exact order_below (List.mem_of_getElem? ej)
              obtain ⟨ob, oof, oc2, eo, olt, ocell⟩ := listed_cell HL.out i j ej
              rw [HOL.out] at eo
              simp only [Value.slice.injEq] at eo
              obtain ⟨rfl, _, rfl⟩ := eo
              unfold nv at ocell
              have oc := (HB.out.cell (p := ⟨ob, oof + i, none⟩) olt).trans ocell
              obtain ⟨c0, c1'⟩ := HCO.out i j hin ej
              obtain ⟨x, ex⟩ : ∃ x, j % w = x := ⟨_, rfl⟩
              obtain ⟨y, ey⟩ : ∃ y, j / w = y := ⟨_, rfl⟩
              have hxb : x ≤ 10000 := by rw [← ex]; exact Nat.le_trans (Nat.mod_le _ _) (by omega)
              have hyb : y ≤ 10000 := by rw [← ey]; exact Nat.le_trans (Nat.div_le_self _ _) (by omega)
              rw [ex] at c0
              rw [ey] at c1'
              have y1 : ((w : Int) == 0) = false := by simp; omega
              have y2 : ¬ (w : Int) = 0 := by omega
              have y3 : decide ((w : Int) = 0) = false := decide_eq_false y2
              have tx : (j : Int).tmod (w : Int) = (x : Int) := by rw [Int.tmod_eq_emod_of_nonneg (by omega), ← ex]; rfl
              have ty : (j : Int).tdiv (w : Int) = (y : Int) := by rw [Int.tdiv_eq_ediv_of_nonneg (by omega), ← ey]; rfl
              have sx : (x : Int).tmod (S : Int) = 0 := by rw [Int.tmod_eq_emod_of_nonneg (by omega), ← Int.natCast_emod, c0]; rfl
              have sy : (y : Int).tmod (S : Int) = 0 := by rw [Int.tmod_eq_emod_of_nonneg (by omega), ← Int.natCast_emod, c1']; rfl
              clear ex ey c0 c1' ej olt ocell
              go_wp2_with fail
              go_roundw
              case rel => exact ⟨i + 1, by omega, by first | rfl | go_num, HB.out⟩
              case measure => simp [intOf]; omega
            · obtain rfl : i = n := by omega
              have d3 : decide ((i : Int) < (i : Int)) = false := decide_eq_false (by omega)
              obtain ⟨S2, eS2⟩ : ∃ v, S / 2 = v := ⟨_, rfl⟩
              have q1 : (S : Int).tdiv 2 = (S2 : Int) := by rw [Int.tdiv_eq_ediv_of_nonneg (by omega)]; omega
              have q2 : (S : Int) / 2 = (S2 : Int) := by omega
              have hS2 : S2 < S := by omega
              have HS2 : Hid (S2 = 0 ∨ S2 = 8 ∨ S2 = 4 ∨ S2 = 2 ∨ S2 = 1) := by
                have h1 := HS'.out
                show _ ∨ _
                omega
              clear eS2
              go_wp2_with fail
              go_roundw
              case rel => exact ⟨S2, by omega, by first | rfl | trivial, HS2.out, HB.out⟩
              case measure => simp [intOf]; omega
        · obtain rfl : S = 0 := by omega
          have d2 : decide ((1 : Int) ≤ ((0 : Nat) : Int)) = false := by decide
          go_wp2_with fail
          go_at_call 15
          refine (pawake_any D wr).mono ?_
          rintro e w5 ⟨rfl, HB5⟩
          go_wp2_with fail
          go_ret
          exact ⟨rfl, HB1.out.trans ((HB.out.trans (HB5.out.mono HB.out.size)).mono HB1.out.size)⟩
end Go.Proofs.Ytefdlidjdmlnaaa.Fx
