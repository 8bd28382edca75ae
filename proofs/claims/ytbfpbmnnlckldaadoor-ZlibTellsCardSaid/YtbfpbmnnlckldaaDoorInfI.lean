/-
  Codes of lengths, made, as landed. The conditions stand in each.
  Whether lengths may be; rows of numbers that grow; the fixed codes, as landed. The conditions stand in each.
  Lengths of codes, got by their own codes, as landed. The conditions stand in each.
  Lengths of codes, got by their own codes: the loop, as landed. The conditions stand in it.
  A pair of codes, put together; the fixed codes, as landed. The conditions stand in each.
  A block's own codes, as landed. The conditions stand in it.
-/
import Derived.Deep.WholeRow
import Derived.Test.YtbfpbmnnlckldaaDoorInfG
import Derived.Test.YtbfpbmnnlckldaaDoorNums
import Derived.Deep.RegionHeld
namespace Go.Proofs.YtbfpbmnnlckldaaDoor.Fx
open Go Go.RowKit Go.Joins
set_option linter.unusedVariables false
/-! ### Cells -/
def cellsN (cs : List Nat) : Array Value := (cs.map natVal).toArray
def cellsC (cs : List Nat) (v : Value) : Array Value := (cs.map natVal ++ [v]).toArray
theorem cellsN_size (cs : List Nat) : (cellsN cs).size = cs.length := by simp [cellsN]
theorem cellsN_get (cs : List Nat) (l : Nat) (h : l < cs.length) : (cellsN cs)[l]? = some (.int .i64 (cs.getD l 0 : Nat)) := by
  simp [cellsN, h, natVal]
theorem cellsN_set (cs : List Nat) (l x : Nat) : (cellsN cs).setIfInBounds l (.int .i64 (x : Int)) = cellsN (cs.set l x) := by
  unfold cellsN
  rw [List.map_set, List.setIfInBounds_toArray]
  rfl
theorem cellsC_size (cs : List Nat) (v : Value) : (cellsC cs v).size = cs.length + 1 := by simp [cellsC]
theorem cellsC_get (cs : List Nat) (v : Value) (l : Nat) (h : l < cs.length) : (cellsC cs v)[l]? = some (.int .i64 (cs.getD l 0 : Nat)) := by
  simp [cellsC, List.getElem?_append, h, natVal]
theorem cellsC_last (cs : List Nat) (v : Value) (l : Nat) (h : l = cs.length) : (cellsC cs v)[l]? = some v := by
  subst h
  simp [cellsC]
theorem cellsC_set (cs : List Nat) (v : Value) (l x : Nat) (h : l < cs.length) : (cellsC cs v).setIfInBounds l (.int .i64 (x : Int)) = cellsC (cs.set l x) v := by
  unfold cellsC
  rw [List.map_set, List.setIfInBounds_toArray, List.set_append_left _ _ (by simpa using h)]
  rfl
theorem cellsC_put (cs : List Nat) (v u : Value) (l : Nat) (h : l = cs.length) : (cellsC cs v).setIfInBounds l u = cellsC cs u := by
  subst h
  unfold cellsC
  rw [List.setIfInBounds_toArray, List.set_append_right _ _ (by simp)]
  simp
theorem cellsC_one (cs : List Nat) (v : Value) (hv : v.oneCell' = true) : (cellsC cs v).all (·.oneCell') = true := by
  rw [Array.all_eq_true_iff_forall_mem]
  intro x hx
  have : x ∈ cs.map natVal ++ [v] := by simpa [cellsC] using hx
  rcases List.mem_append.1 this with h | h
  · obtain ⟨y, _, rfl⟩ := List.mem_map.1 h
    rfl
  · obtain rfl := List.mem_singleton.1 h
    exact hv
/-- The counts of the first i lengths. -/
def partOfI (ls : List Nat) (i : Nat) : List Nat := (ls.take i).foldl (fun c l => c.set l (c.getD l 0 + 1)) (List.replicate 16 0)
theorem partOf_length (ls : List Nat) (i : Nat) : (partOfI ls i).length = 16 := by
  have : ∀ (ls c : List Nat), (ls.foldl (fun c l => c.set l (c.getD l 0 + 1)) c).length = c.length := by
    intro ls
    induction ls with
    | nil => intro c; rfl
    | cons l ls ih =>
      intro c
      rw [List.foldl_cons, ih, List.length_set]
  unfold partOfI
  rw [this, List.length_replicate]
theorem partOf_next (ls : List Nat) (i l : Nat) (h : ls[i]? = some l) : partOfI ls (i + 1) = (partOfI ls i).set l ((partOfI ls i).getD l 0 + 1) := by
  unfold partOfI
  rw [List.take_add_one, h, List.foldl_append]
  rfl
theorem partOf_all (ls : List Nat) (i : Nat) (h : ls.length ≤ i) : (partOfI ls i).set 0 0 = countsOf ls := by
  unfold partOfI countsOf
  rw [List.take_of_length_le h]
theorem partOf_low (ls : List Nat) (i l : Nat) : (partOfI ls i).getD l 0 ≤ i := by
  induction i generalizing l with
  | zero =>
    unfold partOfI
    rw [List.take_zero, List.foldl_nil, List.getD_eq_getElem?_getD, List.getElem?_replicate]
    split <;> simp
  | succ i ih =>
    cases h : ls[i]? with
    | none =>
      have : partOfI ls (i + 1) = partOfI ls i := by
        unfold partOfI
        rw [List.take_add_one, h]
        simp
      rw [this]
      exact Nat.le_succ_of_le (ih l)
    | some x =>
      rw [partOf_next ls i x h, getD_set]
      split
      · rename_i hh
        have := ih x
        omega
      · exact Nat.le_succ_of_le (ih l)
/-- Where the lengths below i begin, the others at nought. -/
def preOf (cs : List Nat) (i : Nat) : List Nat := (List.range 16).map fun l => if l < i then (cs.take l).sum else 0
theorem preOf_length (cs : List Nat) (i : Nat) : (preOf cs i).length = 16 := by simp [preOf]
theorem preOf_zero (cs : List Nat) : preOf cs 0 = List.replicate 16 0 := by simp [preOf]; decide
theorem preOf_all (cs : List Nat) : preOf cs 16 = placesOf cs := by
  unfold preOf placesOf
  refine List.map_congr_left fun l hl => ?_
  rw [if_pos (List.mem_range.1 hl)]
theorem preOf_next (cs : List Nat) (i : Nat) (h : i < 16) : preOf cs (i + 1) = (preOf cs i).set i (cs.take i).sum := by
  apply List.ext_getElem
  · simp [preOf]
  · intro l h1 h2
    rw [List.getElem_set]
    simp only [preOf, List.getElem_map, List.getElem_range]
    by_cases e : i = l
    · subst e
      rw [if_pos rfl, if_pos (by omega)]
    · rw [if_neg e]
      by_cases h3 : l < i
      · rw [if_pos h3, if_pos (by omega)]
      · rw [if_neg h3, if_neg (by omega)]
theorem set_new2 {w : World} {g : Nat} {cs : Array Value} {t : TypeId} (h : w.heap[g]? = some (.cells cs t (0, 0))) (j : Nat) (v : Value) : (w.setCell ⟨g, j, none⟩ v).heap[g]? = some (.cells (cs.setIfInBounds j v) t (0, 0)) := block_setCell h v
/-- The memory of a call at work: the codes so far, its result's place. -/
structure NC (W wr : World) (cs : List Nat) (v : Value) : Prop where
  c : wr.heap[W.heap.size + 1]? = some (.cells (cellsC cs v) 161 (0, 0))
  res : wr.heap[W.heap.size]? = some (.cells (cellsC (List.replicate 16 0) (.slice none 0 0)) 161 (0, 0))
  below : Below W.heap.size W wr
theorem NC.lt {W wr : World} {cs : List Nat} {v : Value} (h : NC W wr cs v) : W.heap.size + 1 < wr.heap.size := (Array.getElem?_eq_some_iff.1 h.c).1
theorem NC.set {W wr : World} {cs : List Nat} {v : Value} (h : NC W wr cs v) (l x : Nat) (hl : l < cs.length) : NC W (wr.setCell ⟨W.heap.size + 1, l, none⟩ (.int .i64 (x : Int))) (cs.set l x) v :=
  ⟨by rw [← cellsC_set cs v l x hl]; exact block_setCell h.c _, (Below.heap_setCell _ _ _ _ (by show W.heap.size ≠ W.heap.size + 1; omega)).trans h.res, h.below.setCell (p := ⟨W.heap.size + 1, l, none⟩) (Nat.le_succ _) _⟩
theorem NC.put {W wr : World} {cs : List Nat} {v : Value} (h : NC W wr cs v) (u : Value) (hl : cs.length = 16) : NC W (wr.setCell ⟨W.heap.size + 1, 16, none⟩ u) cs u :=
  ⟨by rw [← cellsC_put cs v u 16 hl.symm]; exact block_setCell h.c _, (Below.heap_setCell _ _ _ _ (by show W.heap.size ≠ W.heap.size + 1; omega)).trans h.res, h.below.setCell (p := ⟨W.heap.size + 1, 16, none⟩) (Nat.le_succ _) _⟩
theorem NC.other {W wr : World} {cs : List Nat} {v : Value} (h : NC W wr cs v) {g j : Nat} (hg : W.heap.size + 1 < g) (u : Value) : NC W (wr.setCell ⟨g, j, none⟩ u) cs v :=
  ⟨(Below.heap_setCell _ _ _ _ (by show W.heap.size + 1 ≠ g; omega)).trans h.c, (Below.heap_setCell _ _ _ _ (by show W.heap.size ≠ g; omega)).trans h.res, h.below.setCell (p := ⟨g, j, none⟩) (by show W.heap.size ≤ g; omega) _⟩
theorem NC.drew {W wr : World} {cs : List Nat} {v : Value} (h : NC W wr cs v) : NC W wr.drew cs v := ⟨h.c, h.res, h.below.drew⟩
theorem NC.alloc {W wr : World} {cs : List Nat} {v : Value} (h : NC W wr cs v) (o : Obj) : NC W (wr.alloc o) cs v :=
  ⟨alloc_old h.c, alloc_old h.res, h.below.alloc h.below.size o⟩
theorem make_nats (n : Nat) (hn : n ≤ 400) (w : World) : (Instr.makeSlice 144 (.int .i64 (n : Int)) (.int .i64 (n : Int))).run Tryd.prog w = .ok (.slice (some ⟨w.heap.size, 0, none⟩) n n) (w.alloc (.cells (cellsN (List.replicate n 0)) 3)) := by
  have h := run_make_row' (P := Tryd.prog) 144 3 (.int .i64 0) 8 Tryd.underlying144 (by kernel_rfl) rfl .i64 .i64 n (by omega) (by omega) w
  rw [h]
  have e : madeCells #[.int .i64 0] n = cellsN (List.replicate n 0) := by
    apply Array.ext
    · rw [size_madeCells]
      simp [cellsN]
    · intro j h1 h2
      simp [madeCells, cellsN, natVal, Nat.mod_one]
  rw [e]
/-- An array of 16 numbers, read as a value. -/
theorem load16 {w : World} {g : Nat} {cs : List Nat} {v : Value} {t : TypeId} {fr : Nat × Nat} (hg : w.heap[g]? = some (.cells (cellsC cs v) t fr)) (hl : cs.length = 16) : (loadVar 159 ⟨g, 0, none⟩).run Tryd.prog w = .ok (.agg (cellsN cs)) w := by
  have hll : (cs.map natVal).length = 16 := by rw [List.length_map]; exact hl
  have h := run_loadCells_list (P := Tryd.prog) w ⟨g, 0, none⟩ (cs.map natVal) (fun j u hj => by
    have hadd : (⟨g, 0, none⟩ : Addr).add j = ⟨g, j, none⟩ := by unfold Addr.add; split <;> simp_all
    have hj2 : j < cs.length := by
      have := (List.getElem?_eq_some_iff.1 hj).1
      rwa [List.length_map] at this
    rw [hadd, cell_of_block hg j, cellsC_get cs v j hj2]
    rw [List.getElem?_map, List.getElem?_eq_getElem hj2] at hj
    obtain rfl := Option.some.inj hj
    rw [List.getD_eq_getElem?_getD, List.getElem?_eq_getElem hj2]
    rfl)
  rw [hll] at h
  have hs : (Tryd.prog.info? 159).map (·.size) = some 16 := by kernel_rfl
  cases hq : Tryd.prog.info? 159 with
  | none => simp [hq] at hs
  | some i =>
    have hs' : i.size = 16 := by simpa [hq] using hs
    have hagg : (isAgg 159).run Tryd.prog w = .ok true w := by
      unfold isAgg
      rw [Sem.run_bind, run_underlying Tryd.underlying159 w]
      rfl
    simp [loadVar, Sem.run_bind, hagg, sizeOf, typeInfo, hq, hs', h, cellsN]
theorem wpList_store_agg {P : Program} {w w' : World} {ops : Array Oper} {rest : List Oper} {o : Oper} {a : Act} {Q : Exit → Act → World → Prop} (hgd : o.guard = none) (ty : TypeId) (x y : Operand) (ho : o.op = .store ty x y) (ad : Addr) (hx : a.eval x = .pointer (some ad)) (v : Value) (hv : a.eval y = v)
    (hrun : (storeVar ty ad v).run P w = .ok () w') (h : wpList P ops Q rest (a.put o.dst undef) w') : wpList P ops Q (o :: rest) a w := by
  have hw : Region.wanted o (yielded ops a.tmps) = true := by simp [Region.wanted, hgd]
  unfold wpList
  simp only [hw, if_true]
  left
  unfold Oper.wp execOp
  simp only [ho, hx, hv, Instr.storeAt, Instr.sureAddr, Sem.run_bind, Sem.run_pure, Result.andThen_ok, hrun]
  exact h
theorem index16 (cs : List Nat) (k : Nat) (hl : cs.length = 16) (hk : k < 16) (w : World) : (Instr.index 159 (.agg (cellsN cs)) (.int .i64 (k : Int))).run Tryd.prog w = .ok (.int .i64 (cs.getD k 0 : Nat)) w := by
  have h1 : 0 ≤ (k : Int) ∧ (k : Int) < 16 := by omega
  have h2 : (k : Int) < ((16 : Nat) : Int) := by omega
  have hs : ∀ w, (sizeOf 3).run Tryd.prog w = .ok 1 w := fun w => by
    have hi : (Tryd.prog.info? 3).map (·.size) = some 1 := by kernel_rfl
    cases hq : Tryd.prog.info? 3 with
    | none => simp [hq] at hi
    | some i => simp [sizeOf, typeInfo, hq, show i.size = 1 by simpa [hq] using hi]
  have ha : ∀ w, (isAgg 3).run Tryd.prog w = .ok false w := fun w => by
    unfold isAgg
    rw [Sem.run_bind, run_underlying Tryd.underlying3 w]
    rfl
  have hc := cellsN_get cs k (by omega)
  simp [Instr.index, asIntOf, run_underlying Tryd.underlying159, part, hs, ha, h1, hc, go_sem]
  intro h
  omega
theorem wpList_load_agg {P : Program} {w : World} {ops : Array Oper} {rest : List Oper} {o : Oper} {a : Act} {Q : Exit → Act → World → Prop} (hgd : o.guard = none) (ty : TypeId) (x : Operand) (ho : o.op = .load ty x) (ad : Addr) (hx : a.eval x = .pointer (some ad)) (cs : Array Value)
    (hrun : (loadVar ty ad).run P w = .ok (.agg cs) w) (h : wpList P ops Q rest (a.put o.dst (.agg cs)) w) : wpList P ops Q (o :: rest) a w := by
  have hw : Region.wanted o (yielded ops a.tmps) = true := by simp [Region.wanted, hgd]
  unfold wpList
  simp only [hw, if_true]
  left
  unfold Oper.wp execOp
  simp only [ho, hx, Instr.loadAt, Instr.sureAddr, Sem.run_bind, Sem.run_pure, Result.andThen_ok, hrun]
  exact h
theorem setRow_below {B g : Nat} {a w : World} (h : Below B a w) (hg : B ≤ g) (cs : Array Value) : Below B a (w.setRow g cs) := by
  refine ⟨h.os, h.tape, h.output, ?_, fun k hk => ?_⟩
  · show a.heap.size ≤ (w.heap.modify g _).size
    rw [Array.size_modify]
    exact h.size
  · show (w.heap.modify g _)[k]? = _
    rw [Array.getElem?_modify, if_neg (by omega)]
    exact h.block k hk
set_option maxHeartbeats 4000000 in
set_option maxRecDepth 100000 in
theorem newCodes_any (lv : Value) (ls : List Nat) (W : World) (hr : listed natVal W lv ls) (h15 : ∀ l ∈ ls, l ≤ 15) (hl : ls.length ≤ 400) :
    Calls Tryd.prog 98 #[lv] W fun e w' => ∃ v, e = .returned (.agg (cellsC (countsOf ls) v)) ∧ listed natVal w' v (newCds ls).syms ∧ (∀ b, inBlock v b → W.heap.size ≤ b) ∧ v.oneCell' = true ∧ Below W.heap.size W w' := by
  obtain ⟨vo, vc, rfl⟩ := listed_length hr
  have HR := Lib.hid hr
  have H15 := Lib.hid h15
  obtain ⟨n, en⟩ : ∃ n, ls.length = n := ⟨_, rfl⟩
  have EN := Lib.hid en
  rw [en] at HR hl ⊢
  clear hr h15 en
  go_enter Tryd.func98, Tryd.ntmps98
  have HNC0 : Hid (NC W ((W.alloc (.cells (cellsC (List.replicate 16 0) (.slice none 0 0)) 161)).alloc (.cells (cellsC (List.replicate 16 0) (.slice none 0 0)) 161)) (partOfI ls 0) (.slice none 0 0)) := by
    have hs : (W.alloc (.cells (cellsC (List.replicate 16 0) (.slice none 0 0)) 161)).heap.size = W.heap.size + 1 := by
      show (W.heap.push _).size = _
      simp
    refine ⟨?_, alloc_old (heap_alloc_new W _), ((Below.refl _ _).alloc (Nat.le_refl _) _).alloc (by rw [hs]; omega) _⟩
    rw [← hs]
    exact heap_alloc_new _ _
  go_wp2_with fail
  go_loopw [14] (fun u14 wr => ∃ i : Nat, i ≤ n ∧ u14 = .int .i64 i ∧ Hid (NC W wr (partOfI ls i) (.slice none 0 0))) (fun u14 _ => n - (intOf u14).toNat)
  case atStart => exact ⟨0, Nat.zero_le _, rfl, HNC0⟩
  case round =>
    obtain ⟨i, hi, rfl, hN⟩ := hrel
    by_cases hin : i < n
    · have d1 : decide ((i : Int) < (n : Int)) = true := decide_eq_true (by omega)
      have d2 : decide (i < n) = true := decide_eq_true hin
      obtain ⟨l, el⟩ : ∃ x, ls[i]? = some x := ⟨ls[i]'(by rw [EN.out]; exact hin), List.getElem?_eq_getElem _⟩
      obtain ⟨b, off, cap, eb, hblt, hcell⟩ := listed_cell HR.out i l el
      rw [EN.out] at eb
      simp only [Value.slice.injEq] at eb
      obtain ⟨rfl, _, rfl⟩ := eb
      unfold natVal at hcell
      have hc := (hN.out.below.cell (p := ⟨b, off + i, none⟩) hblt).trans hcell
      have hl15 : l ≤ 15 := H15.out l (List.mem_of_getElem? el)
      have hq := (cell_of_block hN.out.c l).trans (cellsC_get _ _ l (by rw [partOf_length]; omega))
      have hfr := unfrozen_of_block hN.out.c l
      have hlow := partOf_low ls i l
      have HNX := Lib.hid (hN.out.set l ((partOfI ls i).getD l 0 + 1) (by rw [partOf_length]; omega))
      rw [← partOf_next ls i l el] at HNX
      generalize (partOfI ls i).getD l 0 = k at *
      clear hcell el
      go_wp2_with fail
      go_roundw
      case rel => exact ⟨i + 1, by omega, by go_num, by first | exact HNX | (have := HNX.out; simpa using this)⟩
      case measure => simp [intOf]; omega
    · obtain rfl : i = n := by omega
      have d1 : decide ((i : Int) < (i : Int)) = false := decide_eq_false (by omega)
      have d2 : decide (i < i) = false := decide_eq_false (by omega)
      have hq := (cell_of_block hN.out.c 0).trans (cellsC_get _ _ 0 (by rw [partOf_length]; omega))
      have hfr := unfrozen_of_block hN.out.c 0
      have HN2 := Lib.hid (hN.out.set 0 0 (by rw [partOf_length]; omega))
      rw [partOf_all ls i (by rw [EN.out]; exact Nat.le_refl _)] at HN2
      clear hN
      go_wp2_with (refine wpList_load_agg rfl 159 _ rfl ⟨W.heap.size + 1, 0, none⟩ rfl (cellsN (countsOf ls)) (load16 (HN2.out.alloc _).c (counts_length ls)) ?_)
      obtain ⟨V, rfl⟩ : ∃ V, V = wr := ⟨_, rfl⟩
      have HCL : Hid ((countsOf ls).length = 16) := counts_length ls
      have HCS : Hid ((countsOf ls).sum ≤ 400) := by
        have := counts_sum ls
        have := EN.out
        show _ ≤ _
        omega
      have HPV : Hid (W.heap.size + 1 < V.heap.size) := by
        have := HN2.out.lt
        show _ < _
        simpa using this
      have HP0 : Hid (((V.setCell ⟨W.heap.size + 1, 0, none⟩ (.int .i64 0)).alloc (.cells (cellsN (List.replicate 16 0)) 159)).heap[V.heap.size]? = some (.cells (cellsN (preOf (countsOf ls) 0)) 159 (0, 0))) := by
        show _ = _
        rw [preOf_zero]
        have := heap_alloc_new (V.setCell ⟨W.heap.size + 1, 0, none⟩ (.int .i64 0)) (.cells (cellsN (List.replicate 16 0)) 159)
        simpa using this
      have HN3 : Hid (NC W ((V.setCell ⟨W.heap.size + 1, 0, none⟩ (.int .i64 0)).alloc (.cells (cellsN (List.replicate 16 0)) 159)) (countsOf ls) (.slice none 0 0)) := HN2.out.alloc _
      have HSUM0 : Hid (0 = ((countsOf ls).take 0).sum) := rfl
      clear hq hfr d1 d2 hin hi HN2
      go_loopw [7, 30] (fun u7 u30 wr => ∃ k a : Nat, k ≤ 16 ∧ u30 = .int .i64 k ∧ u7 = .int .i64 a ∧ Hid (a = ((countsOf ls).take k).sum) ∧ Hid (NC W wr (countsOf ls) (.slice none 0 0)) ∧ Hid (wr.heap[V.heap.size]? = some (.cells (cellsN (preOf (countsOf ls) k)) 159 (0, 0)))) (fun _ u30 _ => 16 - (intOf u30).toNat)
      case atStart => exact ⟨0, 0, by omega, rfl, rfl, HSUM0, HN3, HP0⟩
      case round =>
        obtain ⟨k, a, hk, rfl, rfl, hA, hN, hP⟩ := hrel
        by_cases hk16 : k < 16
        · have d1 : decide ((k : Int) < 16) = true := decide_eq_true (by omega)
          have d2 : decide (k < 16) = true := decide_eq_true hk16
          have hidx := index16 (countsOf ls) k HCL.out hk16
          have hsum : a + (countsOf ls).getD k 0 ≤ 400 := by
            have h1 := sum_take_succ (countsOf ls) k
            have h2 := sum_take_le (countsOf ls) (k + 1)
            have := HCS.out
            have := hA.out
            omega
          have HA2 : Hid (a + (countsOf ls).getD k 0 = ((countsOf ls).take (k + 1)).sum) := by
            have h1 := sum_take_succ (countsOf ls) k
            have := hA.out
            show _ = _
            omega
          have hq := (cell_of_block hP.out k).trans (cellsN_get _ k (by rw [preOf_length]; exact hk16))
          have hfr := unfrozen_of_block hP.out k
          have HP2 := Lib.hid (block_setCell (i := k) hP.out (.int .i64 (a : Int)))
          rw [cellsN_set, hA.out, ← preOf_next _ k hk16, ← hA.out] at HP2
          have HN4 := Lib.hid (hN.out.other (j := k) HPV.out (.int .i64 (a : Int)))
          generalize (countsOf ls).getD k 0 = c at *
          generalize (preOf (countsOf ls) k).getD k 0 = old at *
          go_wp2_with fail
          go_roundw
          case rel => exact ⟨k + 1, a + c, by omega, by go_num, by go_num, HA2, HN4, HP2⟩
          case measure => simp [intOf]; omega
        · have hk2 : k = 16 := by omega
          have d1 : decide ((k : Int) < 16) = false := decide_eq_false (by omega)
          have d2 : decide (k < 16) = false := decide_eq_false (by omega)
          rw [hk2] at hA hP
          clear hk hk16 hk2
          have ha : a = (countsOf ls).sum := by
            have := hA.out
            rwa [List.take_of_length_le (by rw [HCL.out]; exact Nat.le_refl _)] at this
          have HAA := Lib.hid ha
          have ha4 : a ≤ 400 := by have := HCS.out; omega
          have hmake := make_nats a ha4
          have q16 := fun o => (cell_of_block (alloc_old (o' := o) hN.out.c) 16).trans (cellsC_last _ _ 16 HCL.out.symm)
          have f16 := fun o => unfrozen_of_block (alloc_old (o' := o) hN.out.c) 16
          have HPU : Hid (V.heap.size < wr.heap.size) := (Array.getElem?_eq_some_iff.1 hP.out).1
          have HNU := Lib.hid ((hN.out.alloc (.cells (cellsN (List.replicate a 0)) 3)).put (.slice (some ⟨wr.heap.size, 0, none⟩) a a) HCL.out)
          have HPL : Hid (((wr.alloc (.cells (cellsN (List.replicate a 0)) 3)).setCell ⟨W.heap.size + 1, 16, none⟩ (.slice (some ⟨wr.heap.size, 0, none⟩) a a)).heap[V.heap.size]? = some (.cells (cellsN (putSyms ls (countsOf ls) 0).2) 159 (0, 0))) := by
            have h1 := HPV.out
            refine (Below.heap_setCell _ _ _ _ (by show V.heap.size ≠ W.heap.size + 1; omega)).trans ?_
            have := alloc_old (o' := .cells (cellsN (List.replicate a 0)) 3) hP.out
            rw [preOf_all] at this
            exact this
          have HSY : Hid (((wr.alloc (.cells (cellsN (List.replicate a 0)) 3)).setCell ⟨W.heap.size + 1, 16, none⟩ (.slice (some ⟨wr.heap.size, 0, none⟩) a a)).heap[wr.heap.size]? = some (.cells (cellsN (putSyms ls (countsOf ls) 0).1) 3 (0, 0))) := by
            have h1 := HPV.out
            have h2 := HPU.out
            refine (Below.heap_setCell _ _ _ _ (by show wr.heap.size ≠ W.heap.size + 1; omega)).trans ?_
            have := heap_alloc_new wr (.cells (cellsN (List.replicate a 0)) 3)
            have e : a = (countsOf ls).sum := HAA.out
            have e2 : (putSyms ls (countsOf ls) 0).1 = List.replicate a 0 := by rw [e]; rfl
            rw [e2]
            exact this
          clear ha hA
          obtain ⟨U, rfl⟩ : ∃ U, U = wr := ⟨_, rfl⟩
          go_wp2_with fail
          clear q16 f16 hmake hN hP
          go_loopw [46] (fun u46 wr => ∃ x : Nat, x ≤ i ∧ u46 = .int .i64 x ∧ Hid (NC W wr (countsOf ls) (.slice (some ⟨U.heap.size, 0, none⟩) a a)) ∧ Hid (wr.heap[V.heap.size]? = some (.cells (cellsN (putSyms ls (countsOf ls) x).2) 159 (0, 0))) ∧ Hid (wr.heap[U.heap.size]? = some (.cells (cellsN (putSyms ls (countsOf ls) x).1) 3 (0, 0)))) (fun u46 _ => i - (intOf u46).toNat)
          case atStart => exact ⟨0, Nat.zero_le _, rfl, HNU, HPL, HSY⟩
          case round =>
            obtain ⟨x, hx, rfl, hN, hP, hY⟩ := hrel
            by_cases hxn : x < i
            · have d1 : decide ((x : Int) < (i : Int)) = true := decide_eq_true (by omega)
              have d2 : decide (x < i) = true := decide_eq_true hxn
              obtain ⟨l, el⟩ : ∃ l, ls[x]? = some l := ⟨ls[x]'(by rw [EN.out]; exact hxn), List.getElem?_eq_getElem _⟩
              obtain ⟨b, off, cap, eb, hblt, hcell⟩ := listed_cell HR.out x l el
              rw [EN.out] at eb
              simp only [Value.slice.injEq] at eb
              obtain ⟨rfl, _, rfl⟩ := eb
              unfold natVal at hcell
              have hc := (hN.out.below.cell (p := ⟨b, off + x, none⟩) hblt).trans hcell
              have hl15 : l ≤ 15 := H15.out l (List.mem_of_getElem? el)
              have hgd : ls.getD x 0 = l := by
                rw [List.getD_eq_getElem?_getD, el]
                rfl
              obtain ⟨hs1, hs2⟩ := putSyms_fits ls (countsOf ls) x
              have hnext : putSyms ls (countsOf ls) (x + 1) = putSym x l (putSyms ls (countsOf ls) x) := by
                rw [putSyms, hgd]
              by_cases hl0 : 0 < l
              · have d3 : decide ((0 : Int) < (l : Int)) = true := decide_eq_true (by omega)
                have d4 : decide (0 < l) = true := decide_eq_true hl0
                have hroom := putSyms_room ls x (by rw [EN.out]; exact hxn) (by rw [hgd]; exact hl0) (by rw [hgd]; exact hl15)
                rw [hgd, ← HAA.out] at hroom
                rw [putSym, if_pos hl0] at hnext
                have HNEXT := Lib.hid hnext
                have q16 := (cell_of_block hN.out.c 16).trans (cellsC_last _ _ 16 HCL.out.symm)
                have qpl := (cell_of_block hP.out l).trans (cellsN_get _ l (by rw [hs2]; omega))
                have fpl := unfrozen_of_block hP.out l
                generalize hQ : (putSyms ls (countsOf ls) x).2.getD l 0 = q at *
                have qy := (cell_of_block hY.out q).trans (cellsN_get _ q (by rw [hs1, ← HAA.out]; exact hroom))
                have fy := unfrozen_of_block hY.out q
                have HNE1 : Hid (U.heap.size ≠ V.heap.size) := by have := HPU.out; show _ ≠ _; omega
                have h3 := HPV.out
                have h4 := HPU.out
                have HN1 := Lib.hid ((hN.out.drew.other (g := U.heap.size) (j := q) (by omega) (.int .i64 (x : Int))).other (g := V.heap.size) (j := l) (by omega) (.int .i64 ((q + 1 : Nat) : Int)))
                have hPd : wr.drew.heap[V.heap.size]? = some (.cells (cellsN (putSyms ls (countsOf ls) x).2) 159 (0, 0)) := hP.out
                have hYd : wr.drew.heap[U.heap.size]? = some (.cells (cellsN (putSyms ls (countsOf ls) x).1) 3 (0, 0)) := hY.out
                have HP1 : Hid (((wr.drew.setCell ⟨U.heap.size, q, none⟩ (.int .i64 (x : Int))).setCell ⟨V.heap.size, l, none⟩ (.int .i64 ((q + 1 : Nat) : Int))).heap[V.heap.size]? = some (.cells (cellsN (putSyms ls (countsOf ls) (x + 1)).2) 159 (0, 0))) := by
                  have e1 := block_setCell (i := l) (((Below.heap_setCell wr.drew ⟨U.heap.size, q, none⟩ (.int .i64 (x : Int)) V.heap.size (fun h => HNE1.out h.symm)).trans hPd)) (.int .i64 ((q + 1 : Nat) : Int))
                  rw [cellsN_set] at e1
                  show _ = _
                  rw [e1, HNEXT.out]
                have HY1 : Hid (((wr.drew.setCell ⟨U.heap.size, q, none⟩ (.int .i64 (x : Int))).setCell ⟨V.heap.size, l, none⟩ (.int .i64 ((q + 1 : Nat) : Int))).heap[U.heap.size]? = some (.cells (cellsN (putSyms ls (countsOf ls) (x + 1)).1) 3 (0, 0))) := by
                  refine (Below.heap_setCell _ _ _ _ HNE1.out).trans ?_
                  have e1 := block_setCell (i := q) hYd (.int .i64 (x : Int))
                  rw [cellsN_set] at e1
                  show _ = _
                  rw [e1, HNEXT.out]
                have hI1 : (0 : Int) ≤ (l : Int) := by omega
                have hI2 : (l : Int) < 16 := by omega
                have hI3 : (0 : Int) ≤ (q : Int) := by omega
                have hI4 : (q : Int) < (a : Int) := by omega
                have hne2 : ¬ U.heap.size = V.heap.size := HNE1.out
                clear hnext hPd hYd hQ hs1 hs2 hgd el hcell hN hP hY
                generalize (putSyms ls (countsOf ls) x).1.getD q 0 = old at *
                go_wp2_with fail
                refine wp_region_still_tail 7 (by kernel_rfl) (by kernel_rfl) ?_
                simp only [List.take_succ_cons, List.take_zero, List.drop_succ_cons, List.drop_zero]
                repeat still_step
                refine wpStill_nil ?_
                change wpList _ _ _ _ _ wr.drew
                go_wp2_with fail
                go_roundw
                case rel => exact ⟨x + 1, by omega, by go_num, HN1, HP1, HY1⟩
                case measure => simp [intOf]; omega
              · have d3 : decide ((0 : Int) < (l : Int)) = false := decide_eq_false (by omega)
                have d4 : decide (0 < l) = false := decide_eq_false hl0
                rw [putSym, if_neg hl0] at hnext
                have HNEXT := Lib.hid hnext
                clear hnext hs1 hs2 hgd el hcell
                go_wp2_with fail
                go_roundw
                case rel => exact ⟨x + 1, by omega, by go_num, hN, by rw [HNEXT.out]; exact hP, by rw [HNEXT.out]; exact hY⟩
                case measure => simp [intOf]; omega
            · obtain rfl : x = i := by omega
              have d1 : decide ((x : Int) < (x : Int)) = false := decide_eq_false (by omega)
              have d2 : decide (x < x) = false := decide_eq_false hxn
              have hi108 : (Tryd.prog.info? 161).map (·.size) = some 17 := by kernel_rfl
              have hcs : (cellsC (countsOf ls) (.slice (some ⟨U.heap.size, 0, none⟩) a a)).size = 17 := by rw [cellsC_size, HCL.out]
              have hld : (loadVar 161 ⟨W.heap.size + 1, 0, none⟩).run Tryd.prog wr = .ok (.agg (cellsC (countsOf ls) (.slice (some ⟨U.heap.size, 0, none⟩) a a))) wr := run_loadVar_row wr (W.heap.size + 1) 161 161 _ (0, 0) _ hN.out.c Tryd.underlying161 rfl (by rw [hcs]; exact hi108)
              have hst : (storeVar 161 ⟨W.heap.size, 0, none⟩ (.agg (cellsC (countsOf ls) (.slice (some ⟨U.heap.size, 0, none⟩) a a)))).run Tryd.prog wr = .ok () (wr.setRow W.heap.size (cellsC (countsOf ls) (.slice (some ⟨U.heap.size, 0, none⟩) a a))) := run_storeVar_row wr W.heap.size 161 161 _ _ hN.out.res (by rw [hcs]; exact hi108) (by rw [hcs, cellsC_size, List.length_replicate]) (cellsC_one _ _ rfl)
              have hfin := setRow_heap wr W.heap.size _ (cellsC (countsOf ls) (.slice (some ⟨U.heap.size, 0, none⟩) a a)) 161 (0, 0) hN.out.res
              have HLD := Lib.hid hld
              have HST := Lib.hid hst
              have HFIN := Lib.hid hfin
              have HCSZ := Lib.hid hcs
              have HI := Lib.hid hi108
              clear hld hst hfin hcs hi108
              go_wp2_with (first | (refine wpList_load_agg rfl 161 _ rfl ⟨W.heap.size + 1, 0, none⟩ rfl _ HLD.out ?_) | (refine wpList_store_agg rfl 161 _ _ rfl ⟨W.heap.size, 0, none⟩ rfl _ rfl HST.out ?_))
              have hw : Below W.heap.size W (wr.setRow W.heap.size (cellsC (countsOf ls) (.slice (some ⟨U.heap.size, 0, none⟩) a a))) := setRow_below hN.out.below (Nat.le_refl _) _
              have hUW : U.heap.size ≠ W.heap.size := by
                have h1 := HPV.out
                have h2 := HPU.out
                omega
              have hYe : (wr.setRow W.heap.size (cellsC (countsOf ls) (.slice (some ⟨U.heap.size, 0, none⟩) a a))).heap[U.heap.size]? = some (.cells (cellsN (putSyms ls (countsOf ls) x).1) 3 (0, 0)) := (setRow_other wr W.heap.size U.heap.size _ hUW).trans hY.out
              have hsy : (newCds ls).syms = (putSyms ls (countsOf ls) x).1 := by
                unfold newCds
                rw [EN.out]
              have hsl : (putSyms ls (countsOf ls) x).1.length = a := by rw [(putSyms_fits ls _ x).1, HAA.out]
              refine bodyPost_ret (v := .agg (cellsC (countsOf ls) (.slice (some ⟨U.heap.size, 0, none⟩) a a))) ?_ rfl ⟨_, rfl, ?_, ?_, rfl, hw⟩
              · exact results_cell_row (P := Tryd.prog) (p := 2) (ty := 161) (d := _) rfl _ _ W.heap.size 161 _ (0, 0) rfl HFIN.out Tryd.underlying161 rfl (by rw [HCSZ.out]; exact HI.out)
              · rw [hsy]
                exact .inr ⟨U.heap.size, 0, a, by rw [hsl], (Array.getElem?_eq_some_iff.1 hYe).1, by rw [hsl]; exact Nat.le_refl _, fun j z hz => by
                  have hj := (List.getElem?_eq_some_iff.1 hz).1
                  rw [Nat.zero_add, cell_of_block hYe j, cellsN_get _ j hj, List.getD_eq_getElem?_getD, hz]
                  rfl⟩
              · intro b hb
                obtain ⟨off, m, cap, e, _⟩ := hb
                simp only [Value.slice.injEq, Option.some.injEq, Addr.mk.injEq] at e
                obtain ⟨⟨rfl, _⟩, _⟩ := e
                have h1 := HPV.out
                have h2 := HPU.out
                omega
end Go.Proofs.YtbfpbmnnlckldaaDoor.Fx
namespace Go.Proofs.YtbfpbmnnlckldaaDoor.Fx
open Go Go.RowKit Go.Joins
set_option linter.unusedVariables false
theorem load16_at {w : World} {b off : Nat} {cs : List Nat} (hg : ∀ l, l < 16 → w.cell? ⟨b, off + l, none⟩ = some (.int .i64 (cs.getD l 0 : Nat))) (hl : cs.length = 16) : (loadVar 159 ⟨b, off, none⟩).run Tryd.prog w = .ok (.agg (cellsN cs)) w := by
  have hll : (cs.map natVal).length = 16 := by rw [List.length_map]; exact hl
  have h := run_loadCells_list (P := Tryd.prog) w ⟨b, off, none⟩ (cs.map natVal) (fun j u hj => by
    have hadd : (⟨b, off, none⟩ : Addr).add j = ⟨b, off + j, none⟩ := by unfold Addr.add; split <;> simp_all
    have hj2 : j < cs.length := by
      have := (List.getElem?_eq_some_iff.1 hj).1
      rwa [List.length_map] at this
    rw [hadd, hg j (by omega)]
    rw [List.getElem?_map, List.getElem?_eq_getElem hj2] at hj
    obtain rfl := Option.some.inj hj
    rw [List.getD_eq_getElem?_getD, List.getElem?_eq_getElem hj2]
    rfl)
  rw [hll] at h
  have hs : (Tryd.prog.info? 159).map (·.size) = some 16 := by kernel_rfl
  cases hq : Tryd.prog.info? 159 with
  | none => simp [hq] at hs
  | some i =>
    have hs' : i.size = 16 := by simpa [hq] using hs
    have hagg : (isAgg 159).run Tryd.prog w = .ok true w := by
      unfold isAgg
      rw [Sem.run_bind, run_underlying Tryd.underlying159 w]
      rfl
    simp [loadVar, Sem.run_bind, hagg, sizeOf, typeInfo, hq, hs', h, cellsN]
theorem wrap64_nat (n : Nat) (h : n ≤ 9223372036854775807) : wrap64 (n : Int) = (n : Int) := by
  unfold wrap64
  omega
theorem kraft_le (cs : List Nat) (h : ∀ l, cs.getD l 0 ≤ 400) (i : Nat) : kraft cs i ≤ i * 13107200 := by
  induction i with
  | zero => exact Nat.le_refl _
  | succ i ih =>
    unfold kraft
    have h1 : (2 : Nat) ^ (15 - i) ≤ 2 ^ 15 := Nat.pow_le_pow_right (by decide) (by omega)
    have h2 : cs.getD i 0 * 2 ^ (15 - i) ≤ 400 * 2 ^ 15 := Nat.mul_le_mul (h i) h1
    omega
theorem Fit.each {c : Cds} (h : Fit c) (l : Nat) : c.counts.getD l 0 ≤ 400 := by
  have h1 := h.count_le l
  have h2 := h.few
  omega
set_option maxHeartbeats 1000000 in
set_option maxRecDepth 100000 in
theorem mayBe_code (w : World) (b off : Nat) (c : Cds) (K : Nat → Prop) (h : isCd w b off c K) (hf : Fit c) :
    Calls Tryd.prog 103 #[.pointer (some ⟨b, off, none⟩)] w fun e w' => e = .returned (.bool (decide c.mayBe)) ∧ w = w' := by
  have HC := Lib.hid h
  have HA := alone_code w b off c K h
  obtain ⟨v, h⟩ := h
  have HLD := Lib.hid (load16_at h.counts hf.len)
  have HF := Lib.hid hf
  have HK0 : Hid (0 = kraft c.counts 0) := rfl
  clear h hf
  go_enter Tryd.func103, Tryd.ntmps103
  go_wp2_with (refine wpList_load_agg rfl 159 _ rfl ⟨b, off, none⟩ rfl _ HLD.out ?_)
  go_loopw [3, 10] (fun u3 u10 wr => ∃ i a : Nat, i ≤ 16 ∧ u10 = .int .i64 i ∧ u3 = .int .i64 a ∧ Hid (a = kraft c.counts i) ∧ wr = w) (fun _ u10 _ => 16 - (intOf u10).toNat)
  case atStart => exact ⟨0, 0, by omega, rfl, rfl, HK0, rfl⟩
  case round =>
    obtain ⟨i, a, hi, rfl, rfl, hA, rfl⟩ := hrel
    by_cases hi16 : i < 16
    · have d1 : decide ((i : Int) < 16) = true := decide_eq_true (by omega)
      have d2 : decide (i < 16) = true := decide_eq_true hi16
      have hidx := index16 c.counts i HF.out.len hi16
      have hca := HF.out.each i
      have hkr := kraft_le c.counts HF.out.each i
      rw [← hA.out] at hkr
      have hpow : (2 : Nat) ^ (15 - i) ≤ 2 ^ 15 := Nat.pow_le_pow_right (by decide) (by omega)
      have hkk : kraft c.counts (i + 1) = kraft c.counts i + c.counts.getD i 0 * 2 ^ (15 - i) := rfl
      rw [← hA.out] at hkk
      have HKK : Hid (a + c.counts.getD i 0 * 2 ^ (15 - i) = kraft c.counts (i + 1)) := hkk.symm
      generalize c.counts.getD i 0 = k at *
      have hprod : k * 2 ^ (15 - i) ≤ 400 * 2 ^ 15 := Nat.mul_le_mul hca hpow
      have hw1 : wrap64 ((k : Int) * 2 ^ (15 - i)) = ((k * 2 ^ (15 - i) : Nat) : Int) := by
        have : ((k : Int) * 2 ^ (15 - i)) = ((k * 2 ^ (15 - i) : Nat) : Int) := by simp
        rw [this]
        exact wrap64_nat _ (by omega)
      have hw2 : IntKind.i64.wrap ((k : Int) * 2 ^ (15 - i)) = ((k * 2 ^ (15 - i) : Nat) : Int) := by
        have : ((k : Int) * 2 ^ (15 - i)) = ((k * 2 ^ (15 - i) : Nat) : Int) := by simp
        rw [this, IntKind.wrap_i64]
        omega
      generalize k * 2 ^ (15 - i) = Y at *
      have ha2 : a ≤ 209715200 := by omega
      clear hkk hA hpow
      go_wp2_with fail
      go_roundw
      case rel => exact ⟨i + 1, a + Y, by omega, by go_num, by go_num, HKK, trivial⟩
      case measure => simp [intOf]; omega
    · have hi2 : i = 16 := by omega
      have d1 : decide ((i : Int) < 16) = false := decide_eq_false (by omega)
      have d2 : decide (i < 16) = false := decide_eq_false (by omega)
      rw [hi2] at hA
      have hm : c.mayBe ↔ (a = 32768 ∨ c.alone) := by
        unfold Cds.mayBe
        rw [← hA.out]
      clear hi2 hi hi16 hA
      by_cases ha : a = 32768
      · have e1 : ((a : Int) == 32768) = true := by simp; omega
        have e2 : decide ((a : Int) = 32768) = true := decide_eq_true (by omega)
        have HM : Hid (decide c.mayBe = true) := decide_eq_true (hm.2 (.inl ha))
        clear ha hm
        go_wp2_with fail
        go_ret
        exact ⟨by rw [HM.out]; rfl, rfl⟩
      · have e1 : ((a : Int) == 32768) = false := by simp; omega
        have e2 : decide ((a : Int) = 32768) = false := decide_eq_false (by omega)
        have HM : Hid (decide c.mayBe = decide c.alone) := decide_eq_decide.2 ⟨fun h => (hm.1 h).resolve_left ha, fun h => hm.2 (.inr h)⟩
        clear ha hm
        generalize decide c.alone = B at *
        go_wp2_with (go_at_call 108; refine HA.mono ?_; rintro e w1 ⟨rfl, rfl⟩)
        go_ret
        exact ⟨by rw [HM.out]; rfl, rfl⟩
/-! ### Rows of numbers that grow -/
/-- A box that holds a row of numbers of its own; R: its blocks. -/
structure GrowAt (w : World) (B : Nat) (ls : List Nat) (R : Nat → Prop) (v : Value) : Prop where
  box : w.heap[B]? = some (.cells #[v] 144 (0, 0))
  row : w.ownsRow 0 3 1 v ls.length (ls.map natVal)
  ne : v.ownBlock ≠ some B
  own : R = fun k => k = B ∨ v.ownBlock = some k
def isG (w : World) (B : Nat) (ls : List Nat) (R : Nat → Prop) : Prop := ∃ v, GrowAt w B ls R v
theorem isG_lt {w : World} {B : Nat} {ls : List Nat} {R : Nat → Prop} (h : isG w B ls R) : ∀ k, R k → k < w.heap.size := by
  obtain ⟨v, h⟩ := h
  intro k hk
  rw [h.own] at hk
  rcases hk with rfl | hk
  · exact (Array.getElem?_eq_some_iff.1 h.box).1
  · exact (h.row.lt k hk).2
theorem numRow_same {w w' : World} {base : Nat} {v : Value} {n : Nat} {xs : List Value} (h : w.ownsRow base 3 1 v n xs) (hk : ∀ k, v.ownBlock = some k → w'.heap[k]? = w.heap[k]?) : w'.ownsRow base 3 1 v n xs := by
  refine ⟨h.1, ?_⟩
  rcases h.2 with hn | ⟨g, cap, cur, rfl, hb, hg, rest⟩
  · exact .inl hn
  · exact .inr ⟨g, cap, cur, rfl, hb, (hk g rfl).trans hg, rest⟩
theorem isG_keep {w w' : World} {B : Nat} {ls : List Nat} {R : Nat → Prop} (h : isG w B ls R) (hk : ∀ k, R k → w'.heap[k]? = w.heap[k]?) : isG w' B ls R := by
  obtain ⟨v, h⟩ := h
  have ho := h.own
  subst ho
  exact ⟨v, (hk B (.inl rfl)).trans h.box, numRow_same h.row (fun k hh => hk k (.inr hh)), h.ne, rfl⟩
theorem isG_went {w w' : World} {B : Nat} {ls : List Nat} {R O : Nat → Prop} (h : isG w B ls R) (hp : Past O w w') (hR : ∀ k, R k → ¬ O k) : isG w' B ls R := isG_keep h (fun k hk => hp.block k (isG_lt h k hk) (hR k hk))
theorem GrowAt.grown {w w1 w2 : World} {B : Nat} {ls : List Nat} {R : Nat → Prop} {v : Value} (h : GrowAt w B ls R v) (hb : Below w.heap.size w w1) (hgr : w1.grownBy w2 v.ownBlock) : w2.heap[B]? = some (.cells #[v] 144 (0, 0)) := by
  have hg := (Array.getElem?_eq_some_iff.1 h.box).1
  exact (hgr.block B (Nat.lt_of_lt_of_le hg hb.size) (fun e => h.ne e.symm)).trans ((hb.block B hg).trans h.box)
theorem GrowAt.push {w w1 w2 : World} {B : Nat} {ls : List Nat} {R : Nat → Prop} {v v' : Value} {x : Nat} (h : GrowAt w B ls R v) (hb : Below w.heap.size w w1) (hgr : w1.grownBy w2 v.ownBlock)
    (hown : w2.ownsRow 0 3 1 v' (ls.length + 1) ((ls ++ [x]).map natVal)) (hwh : ∀ k, v'.ownBlock = some k → v.ownBlock = some k ∨ w1.heap.size ≤ k) :
    ∃ R', isG (w2.setCell ⟨B, 0, none⟩ v') B (ls ++ [x]) R' ∧ WentOn R R' w (w2.setCell ⟨B, 0, none⟩ v') := by
  have hg := (Array.getElem?_eq_some_iff.1 h.box).1
  have hobj := h.grown hb hgr
  have hsz : (w2.setCell ⟨B, 0, none⟩ v').heap.size = w2.heap.size := by simp
  have hlt2 : w.heap.size ≤ w2.heap.size := Nat.le_trans hb.size hgr.size
  have hne' : v'.ownBlock ≠ some B := fun e => by
    rcases hwh B e with e2 | e2
    · exact h.ne e2
    · have := hb.size; omega
  have ho := h.own
  subst ho
  refine ⟨_, ⟨v', by simpa using block_setCell (i := 0) hobj v', ?_, hne', rfl⟩, fun b hbo => ?_, ?_⟩
  · rw [List.length_append]
    exact numRow_same hown (fun k hk => Below.heap_setCell _ _ _ k (fun e => hne' (by have e : k = B := e; rw [e] at hk; exact hk)))
  · rcases hbo with hbo | hbo
    · exact .inl (.inl hbo)
    · rcases hwh b hbo with e2 | e2
      · exact .inl (.inr e2)
      · exact .inr (Nat.le_trans hb.size e2)
  · exact ⟨hgr.os.trans hb.os, hgr.tape.trans hb.tape, hgr.output.trans hb.output, by rw [hsz]; exact hlt2, fun k hk hn =>
      (Below.heap_setCell _ _ _ k (fun e => hn (.inl e))).trans ((hgr.block k (Nat.lt_of_lt_of_le hk hb.size) (fun e => hn (.inr e.symm))).trans (hb.block k hk))⟩
theorem infoInt : (Tryd.prog.info? 3).map (fun i => (i.zero, i.size, i.bytes)) = some (some (.int .i64 0), 1, 8) := by kernel_rfl
theorem info_parts8 {P : Program} {e : TypeId} {z : Value} {n m : Nat} (h : (P.info? e).map (fun i => (i.zero, i.size, i.bytes)) = some (some z, n, m)) : ∃ i, P.info? e = some i ∧ i.zero = some z ∧ i.size = n ∧ i.bytes = m := by
  obtain ⟨i, hi, hzz⟩ := Option.map_eq_some_iff.1 h
  simp only [Prod.mk.injEq] at hzz
  exact ⟨i, hi, hzz.1, hzz.2.1, hzz.2.2⟩
/-- 'append(own, x)' of one number, and where the new row lies. -/
theorem wpList_append_num {w : World} {ops : Array Oper} {rest : List Oper} {o : Oper} {a : Act} {Q : Exit → Act → World → Prop} (hgd : o.guard = none) (s x : Operand)
    (ho : o.op = .call { callee := .builtin .append, args := #[s, x], argTypes := #[144, 144] })
    (v : Value) (n : Nat) (xs : List Value) (hs : a.eval s = v) (hown : w.ownsRow 0 3 1 v n xs) (g : Nat) (y : Value) (hx : a.eval x = .slice (some ⟨g, 0, none⟩) 1 1) (hy : w.cell? ⟨g, 0, none⟩ = some y) (hy1 : y.oneCell' = true)
    (hlen : n + 1 ≤ 17592186044416)
    (h : ∀ v' w', w'.ownsRow 0 3 1 v' (n + 1) (xs ++ [y]) → w.grownBy w' v.ownBlock → (∀ k, v'.ownBlock = some k → v.ownBlock = some k ∨ w.heap.size ≤ k) → wpList Tryd.prog ops Q rest (a.put o.dst v') w') : wpList Tryd.prog ops Q (o :: rest) a w := by
  obtain ⟨i0, hi, hz0, hz1, hz2⟩ := info_parts8 infoInt
  obtain ⟨v', w', hrun, r1, r2, r3⟩ := run_append_where (P := Tryd.prog) w 0 144 o.type 3 i0 (.int .i64 0) 1 8 Tryd.underlying144 hi hz0 hz1 hz2 rfl (by decide) v n xs hown ⟨g, 0, none⟩ 1 1 [y] rfl (fun j u hj => by
    match j, hj with
    | 0, hj =>
      obtain rfl := Option.some.inj hj
      simpa [Addr.add] using hy
    | j + 1, hj => simp at hj) (fun u hu => by
      obtain rfl := List.mem_singleton.1 hu
      exact hy1) (by unfold maxLen; omega) (by omega) (Nat.zero_le _)
  have hw : Region.wanted o (yielded ops a.tmps) = true := by simp [Region.wanted, hgd]
  unfold wpList
  simp only [hw, if_true]
  left
  unfold Oper.wp
  simp [execOp, ho, resolve, invoke, builtin, hs, hx, hrun, Result.andThen]
  exact h v' w' r1 r2 r3
theorem numForm {w : World} {v : Value} {c : Nat} {xs : List Value} (h : w.ownsRow 0 3 1 v (c + 1) xs) : ∃ b cap, v = .slice (some ⟨b, 0, none⟩) (c + 1) cap ∧ c + 1 ≤ cap := by
  rcases h.2 with ⟨_, h⟩ | ⟨b, cap, cur, rfl, _, _, hc, _⟩
  · omega
  · exact ⟨b, cap, rfl, hc⟩
set_option maxHeartbeats 1000000 in
set_option maxRecDepth 100000 in
/-- A length again and again, of the fixed codes. -/
theorem again_code (w : World) (B : Nat) (ls : List Nat) (R : Nat → Prop) (l n : Nat) (h : isG w B ls R) (hn : ls.length + n ≤ 1000000) :
    Calls Tryd.prog 97 #[.int .i64 (l : Int), .int .i64 (n : Int), .pointer (some ⟨B, 0, none⟩)] w fun e w' => ∃ R', e = .returned (.tuple #[]) ∧ isG w' B (ls ++ List.replicate n l) R' ∧ WentOn R R' w w' := by
  have HG0 : Hid (isG w B (ls ++ List.replicate 0 l) R) := by
    show isG _ _ _ _
    rw [List.replicate_zero, List.append_nil]
    exact h
  clear h
  go_enter Tryd.func97, Tryd.ntmps97
  go_wp2_with fail
  go_loopw [6] (fun u6 wr => ∃ (i : Nat) (R' : Nat → Prop), i ≤ n ∧ u6 = .int .i64 i ∧ Hid (isG wr B (ls ++ List.replicate i l) R') ∧ Hid (WentOn R R' w wr)) (fun u6 _ => n - (intOf u6).toNat)
  case atStart => exact ⟨0, R, Nat.zero_le _, rfl, HG0, WentOn.refl _ _⟩
  case round =>
    obtain ⟨i, R', hi, rfl, hG, hW⟩ := hrel
    by_cases hin : i < n
    · have d1 : decide ((i : Int) < (n : Int)) = true := decide_eq_true (by omega)
      have d2 : decide (i < n) = true := decide_eq_true hin
      obtain ⟨v, hg⟩ := hG.out
      have HGA := Lib.hid hg
      have hlen : (ls ++ List.replicate i l).length = ls.length + i := by rw [List.length_append, List.length_replicate]
      have HREP : Hid ((ls ++ List.replicate i l) ++ [l] = ls ++ List.replicate (i + 1) l) := by
        show _ = _
        rw [List.append_assoc, ← List.replicate_succ']
      have hrow := hg.row
      obtain ⟨X, eX⟩ : ∃ X, ls ++ List.replicate i l = X := ⟨_, rfl⟩
      rw [eX] at HGA HREP hrow hlen
      obtain ⟨m, em⟩ : ∃ m, X.length = m := ⟨_, rfl⟩
      have EM := Lib.hid em
      rw [em] at hrow hlen
      obtain ⟨vo, vc, rfl⟩ := row_shape hrow
      have hROW := Lib.hid hrow
      have q0 := cell_of_block hg.box 0
      have a0 := fun o => cell_of_block (alloc_old (o' := o) hg.box) 0
      have hm : m + 1 ≤ 2000000 := by omega
      clear hg hrow eX em hG hlen
      go_wp2_with (at_builtin; refine wpList_append_num rfl _ _ rfl (.slice vo m vc) m (X.map natVal) rfl (hROW.out.alloc _) wr.heap.size (.int .i64 (l : Int)) rfl (cell_of_block (heap_alloc_new wr _) 0) rfl (by omega) ?_)
      intro v' w6 hown hgrow hwhere
      obtain ⟨b2, cap2, rfl, hcc⟩ := numForm hown
      have hx0 := HGA.out.grown ((Below.refl _ _).alloc (Nat.le_refl _) _) hgrow
      have r1 := cell_of_block hx0 0
      have r2 := unfrozen_of_block hx0 0
      obtain ⟨R6, j1, j2⟩ := GrowAt.push (x := l) HGA.out ((Below.refl _ _).alloc (Nat.le_refl _) _) hgrow (by rw [EM.out, List.map_append]; exact hown) (fun k hk => (hwhere k hk).imp id (fun h => by simpa using h))
      rw [HREP.out] at j1
      have J1 := Lib.hid j1
      have J2 := Lib.hid (hW.out.trans j2)
      clear hown hgrow hwhere hx0 hcc j1 j2
      go_wp2_with fail
      go_roundw
      case rel => exact ⟨i + 1, R6, by omega, by go_num, J1, J2⟩
      case measure => simp [intOf]; omega
    · obtain rfl : i = n := by omega
      have d1 : decide ((i : Int) < (i : Int)) = false := decide_eq_false (by omega)
      have d2 : decide (i < i) = false := decide_eq_false (by omega)
      go_wp2_with fail
      go_end0
      exact ⟨R', rfl, hG.out, hW.out⟩
end Go.Proofs.YtbfpbmnnlckldaaDoor.Fx
namespace Go.Proofs.YtbfpbmnnlckldaaDoor.Fx
open Go Go.RowKit Go.Joins
set_option linter.unusedVariables false
theorem apart_next {w w' : World} {O O' R : Nat → Prop} (h : WentOn O O' w w') (hR : ∀ k, R k → ¬ O k) (hlt : ∀ k, R k → k < w.heap.size) : ∀ k, R k → ¬ O' k := fun k hk h1 =>
  (h.own k h1).elim (hR k hk) (fun h2 => by have := hlt k hk; omega)
theorem sym_in {c : Cds} {N n l code first place : Nat} {L : List Bool} {m : Nat} {s u : St} {a : Nat} (hN : 0 < N) (hf : ∀ x ∈ c.syms, x < N) (h : Says (symFrom c n l code first place) L m s (.ok a u)) : a < N := by
  induction n generalizing l code first place s with
  | zero =>
    obtain ⟨f, h⟩ := h
    cases h
  | succ n ih =>
    obtain ⟨f, h⟩ := h
    obtain ⟨b, t, h1, h2⟩ := Way.bind_ok h
    split at h2
    · cases h2
      rw [List.getD_eq_getElem?_getD]
      cases hx : c.syms[place + (2 * code + b) - 2 * first]? with
      | none => exact hN
      | some x => exact hf x (List.mem_of_getElem? hx)
    · exact ih ⟨f, h2⟩
theorem symW_in {c : Cds} {N : Nat} {L : List Bool} {m : Nat} {s u : St} {a : Nat} (hN : 0 < N) (hf : ∀ x ∈ c.syms, x < N) (h : Says (symW c) L m s (.ok a u)) : a < N := sym_in hN hf h
theorem make_zero (n : Nat) (hn : n ≤ 400) (w : World) : (Instr.makeSlice 144 (.int .i64 0) (.int .i64 (n : Int))).run Tryd.prog w = .ok (.slice (some ⟨w.heap.size, 0, none⟩) 0 n) (w.alloc (.cells (cellsN (List.replicate n 0)) 3)) := by
  obtain ⟨i0, hi, hz0, hz1, hz2⟩ := info_parts8 infoInt
  have h := run_make (P := Tryd.prog) w 144 3 i0 (.int .i64 0) Tryd.underlying144 hi hz0 .i64 .i64 0 n (Int.le_refl _) (by omega) (by rw [hz2]; omega) (by omega)
  rw [hz1, Int.toNat_natCast, Nat.mul_one] at h
  have e : madeCells (Value.int .i64 0).cells n = cellsN (List.replicate n 0) := by
    apply Array.ext
    · rw [size_madeCells]
      simp [cellsN]
    · intro j h1 h2
      have e : (Value.int .i64 0).cells = #[.int .i64 0] := rfl
      simp [madeCells, cellsN, natVal, e, Nat.mod_one]
  rw [e] at h
  exact h
set_option maxHeartbeats 1000000 in
set_option maxRecDepth 100000 in
/-- A length again and again, unless there would be more than are wanted. -/
theorem addTo_code (w : World) (A B want : Nat) (ls : List Nat) (R : Nat → Prop) (l n : Nat) (hA : w.cell? ⟨A, 0, none⟩ = some (.int .i64 (want : Int))) (h : isG w B ls R) (hw : want ≤ 400) (hn : n ≤ 1000) (hl : ls.length ≤ want) :
    Calls Tryd.prog 109 #[.int .i64 (l : Int), .int .i64 (n : Int), .pointer (some ⟨A, 0, none⟩), .pointer (some ⟨B, 0, none⟩)] w fun e w' =>
      (∃ R', ls.length + n ≤ want ∧ e = .returned (.tuple #[]) ∧ isG w' B (ls ++ List.replicate n l) R' ∧ WentOn R R' w w') ∨ (want < ls.length + n ∧ e = .panicked (fault 10) ∧ Past R w w') := by
  have HG0 : Hid (isG w B (ls ++ List.replicate 0 l) R) := by
    show isG _ _ _ _
    rw [List.replicate_zero, List.append_nil]
    exact h
  obtain ⟨v, hv⟩ := h
  have qb := cell_of_block hv.box 0
  obtain ⟨vo, vc, rfl⟩ := row_shape hv.row
  clear hv
  obtain ⟨k, ek⟩ : ∃ k, ls.length = k := ⟨_, rfl⟩
  have EK := Lib.hid ek
  rw [ek] at qb hl
  have hsub : (want : Int) - (k : Int) = ((want - k : Nat) : Int) := by omega
  obtain ⟨d, ed⟩ : ∃ d, want - k = d := ⟨_, rfl⟩
  rw [ed] at hsub
  have hd : d ≤ 400 := by omega
  by_cases hnd : n ≤ d
  · have d1 : decide ((d : Int) < (n : Int)) = false := decide_eq_false (by omega)
    have d2 : decide (d < n) = false := decide_eq_false (by omega)
    have HFIT : Hid (ls.length + n ≤ want) := by rw [ek]; show _ ≤ _; omega
    clear ek ed
    go_enter Tryd.func109, Tryd.ntmps109
    go_wp2_with fail
    go_at_call 87
    refine (refuse_no _ _).mono ?_
    rintro e w1 ⟨rfl, rfl⟩
    clear qb hA hsub
    go_wp2_with fail
    go_loopw [14] (fun u6 wr => ∃ (i : Nat) (R' : Nat → Prop), i ≤ n ∧ u6 = .int .i64 i ∧ Hid (isG wr B (ls ++ List.replicate i l) R') ∧ Hid (WentOn R R' w wr)) (fun u6 _ => n - (intOf u6).toNat)
    case atStart => exact ⟨0, R, Nat.zero_le _, rfl, HG0, WentOn.refl _ _⟩
    case round =>
      obtain ⟨i, R', hi, rfl, hG, hW⟩ := hrel
      by_cases hin : i < n
      · have d1 : decide ((i : Int) < (n : Int)) = true := decide_eq_true (by omega)
        have d2 : decide (i < n) = true := decide_eq_true hin
        obtain ⟨v, hg⟩ := hG.out
        have HGA := Lib.hid hg
        have hlen : (ls ++ List.replicate i l).length = ls.length + i := by rw [List.length_append, List.length_replicate]
        have HREP : Hid ((ls ++ List.replicate i l) ++ [l] = ls ++ List.replicate (i + 1) l) := by
          show _ = _
          rw [List.append_assoc, ← List.replicate_succ']
        have hrow := hg.row
        obtain ⟨X, eX⟩ : ∃ X, ls ++ List.replicate i l = X := ⟨_, rfl⟩
        rw [eX] at HGA HREP hrow hlen
        obtain ⟨m, em⟩ : ∃ m, X.length = m := ⟨_, rfl⟩
        have EM := Lib.hid em
        rw [em] at hrow hlen
        obtain ⟨vo, vc, rfl⟩ := row_shape hrow
        have hROW := Lib.hid hrow
        have q0 := cell_of_block hg.box 0
        have a0 := fun o => cell_of_block (alloc_old (o' := o) hg.box) 0
        have hm : m + 1 ≤ 2000000 := by have := EK.out; omega
        clear hg hrow eX em hG hlen
        go_wp2_with (at_builtin; refine wpList_append_num rfl _ _ rfl (.slice vo m vc) m (X.map natVal) rfl (hROW.out.alloc _) wr.heap.size (.int .i64 (l : Int)) rfl (cell_of_block (heap_alloc_new wr _) 0) rfl (by omega) ?_)
        intro v' w6 hown hgrow hwhere
        obtain ⟨b2, cap2, rfl, hcc⟩ := numForm hown
        have hx0 := HGA.out.grown ((Below.refl _ _).alloc (Nat.le_refl _) _) hgrow
        have r1 := cell_of_block hx0 0
        have r2 := unfrozen_of_block hx0 0
        obtain ⟨R6, j1, j2⟩ := GrowAt.push (x := l) HGA.out ((Below.refl _ _).alloc (Nat.le_refl _) _) hgrow (by rw [EM.out, List.map_append]; exact hown) (fun k hk => (hwhere k hk).imp id (fun h => by simpa using h))
        rw [HREP.out] at j1
        have J1 := Lib.hid j1
        have J2 := Lib.hid (hW.out.trans j2)
        clear hown hgrow hwhere hx0 hcc j1 j2
        go_wp2_with fail
        go_roundw
        case rel => exact ⟨i + 1, R6, by omega, by go_num, J1, J2⟩
        case measure => simp [intOf]; omega
      · obtain rfl : i = n := by omega
        have d1 : decide ((i : Int) < (i : Int)) = false := decide_eq_false (by omega)
        have d2 : decide (i < i) = false := decide_eq_false (by omega)
        go_wp2_with fail
        go_end0
        exact .inl ⟨R', HFIT.out, rfl, hG.out, hW.out⟩
  · have d1 : decide ((d : Int) < (n : Int)) = true := decide_eq_true (by omega)
    have d2 : decide (d < n) = true := decide_eq_true (by omega)
    have HFIT : Hid (want < ls.length + n) := by rw [ek]; show _ < _; omega
    clear ek ed
    go_enter Tryd.func109, Tryd.ntmps109
    go_wp2_with fail
    go_at_call 87
    refine (refuse_yes 10 _).mono ?_
    rintro e w1 ⟨rfl, rfl⟩
    go_wp2_with fail
    exact ⟨rfl, .inr ⟨HFIT.out, rfl, Past.refl _ _⟩⟩
end Go.Proofs.YtbfpbmnnlckldaaDoor.Fx
namespace Go.Proofs.YtbfpbmnnlckldaaDoor.Fx
open Go Go.RowKit Go.Joins
set_option linter.unusedVariables false
/-- What holds between the rounds: the stream, the lengths so far, how many are wanted. -/
structure LenAt (W wr : World) (g : Nat) (L : List Bool) (m : Nat) (t : St) (fx : Value) (O O' : Nat → Prop) (A B want : Nat) (ls : List Nat) (R : Nat → Prop) (b off : Nat) (c : Cds) (K : Nat → Prop) : Prop where
  st : isS wr g L m t fx O'
  row : isG wr B ls R
  box : wr.cell? ⟨A, 0, none⟩ = some (.int .i64 (want : Int))
  cds : isCd wr b off c K
  went : WentOn O O' W wr
  ro : ∀ k, R k → ¬ O' k
  rn : ∀ k, R k → W.heap.size ≤ k
  ao : ¬ O' A
  ar : ¬ R A
  ko : ∀ k, K k → ¬ O' k
  kr : ∀ k, K k → ¬ R k
theorem LenAt.alt {W wr : World} {g : Nat} {L : List Bool} {m : Nat} {t : St} {fx : Value} {O O' : Nat → Prop} {A B want : Nat} {ls : List Nat} {R : Nat → Prop} {b off : Nat} {c : Cds} {K : Nat → Prop} (h : LenAt W wr g L m t fx O O' A B want ls R b off c K) : A < wr.heap.size := World.block_lt_of_cell? wr _ h.box
/-- Behind a call on the stream. -/
theorem LenAt.next {W wr w' : World} {g : Nat} {L : List Bool} {m : Nat} {t u : St} {fx : Value} {O O' O'' : Nat → Prop} {A B want : Nat} {ls : List Nat} {R : Nat → Prop} {b off : Nat} {c : Cds} {K : Nat → Prop} (h : LenAt W wr g L m t fx O O' A B want ls R b off c K)
    (h1 : isS w' g L m u fx O'') (h2 : WentOn O' O'' wr w') : LenAt W w' g L m u fx O O'' A B want ls R b off c K where
  st := h1
  row := isG_went h.row h2.past h.ro
  box := (World.cell?_of_block (a := ⟨A, 0, none⟩) (h2.past.block A h.alt h.ao)).trans h.box
  cds := isC_went h.cds h2.past h.ko
  went := h.went.trans h2
  ro := apart_next h2 h.ro (isG_lt h.row)
  rn := h.rn
  ao := fun h3 => (h2.own A h3).elim h.ao (fun h4 => by have := h.alt; omega)
  ar := h.ar
  ko := apart_next h2 h.ko (isC_lt h.cds)
  kr := h.kr
/-- Behind a call on the row. -/
theorem LenAt.more {W wr w' : World} {g : Nat} {L : List Bool} {m : Nat} {t : St} {fx : Value} {O O' : Nat → Prop} {A B want : Nat} {ls ls' : List Nat} {R R' : Nat → Prop} {b off : Nat} {c : Cds} {K : Nat → Prop} (h : LenAt W wr g L m t fx O O' A B want ls R b off c K)
    (h1 : isG w' B ls' R') (h2 : WentOn R R' wr w') : LenAt W w' g L m t fx O O' A B want ls' R' b off c K where
  st := isS_keep h.st h2.past.size (fun k hk => h2.past.block k (isS_lt h.st k hk) (fun hr => h.ro k hr hk))
  row := h1
  box := (World.cell?_of_block (a := ⟨A, 0, none⟩) (h2.past.block A h.alt h.ar)).trans h.box
  cds := isC_went h.cds h2.past h.kr
  went := ⟨h.went.own, h.went.past.trans h2.past (fun k hk => .inr (h.rn k hk))⟩
  ro := fun k hk ho => (h2.own k hk).elim (fun hr => h.ro k hr ho) (fun hs => by have := isS_lt h.st k ho; omega)
  rn := fun k hk => (h2.own k hk).elim (h.rn k) (fun hs => Nat.le_trans h.went.past.size hs)
  ao := h.ao
  ar := fun hk => (h2.own A hk).elim h.ar (fun hs => by have := h.alt; omega)
  ko := h.ko
  kr := fun k hk hr => (h2.own k hr).elim (h.kr k hk) (fun hs => by have := isC_lt h.cds k hk; omega)
/-- A fault while the row is written. -/
theorem LenAt.dies {W wr w' : World} {g : Nat} {L : List Bool} {m : Nat} {t : St} {fx : Value} {O O' : Nat → Prop} {A B want : Nat} {ls : List Nat} {R : Nat → Prop} {b off : Nat} {c : Cds} {K : Nat → Prop} (h : LenAt W wr g L m t fx O O' A B want ls R b off c K)
    (h2 : Past R wr w') : Past O W w' := h.went.past.trans h2 (fun k hk => .inr (h.rn k hk))
theorem lens_start (W : World) (g : Nat) (L : List Bool) (m : Nat) (s : St) (fx : Value) (O : Nat → Prop) (b off : Nat) (c : Cds) (K : Nat → Prop) (want : Nat) (h : isS W g L m s fx O) (hc : isCd W b off c K) (hK : ∀ k, K k → ¬ O k) (hw : want ≤ 400) :
    ∃ R, LenAt W (((W.alloc (.cells #[.int .i64 (want : Int)] 3)).alloc (.cells (cellsN (List.replicate want 0)) 3)).alloc (.cells #[.slice (some ⟨W.heap.size + 1, 0, none⟩) 0 want] 144)) g L m s fx O O W.heap.size (W.heap.size + 1 + 1) want [] R b off c K := by
  obtain ⟨w1, e1⟩ : ∃ w1, W.alloc (.cells #[.int .i64 (want : Int)] 3) = w1 := ⟨_, rfl⟩
  have s1 : w1.heap.size = W.heap.size + 1 := by
    rw [← e1]
    show (W.heap.push _).size = _
    simp
  obtain ⟨w2, e2⟩ : ∃ w2, w1.alloc (.cells (cellsN (List.replicate want 0)) 3) = w2 := ⟨_, rfl⟩
  have s2 : w2.heap.size = W.heap.size + 1 + 1 := by
    rw [← e2, ← s1]
    show (w1.heap.push _).size = _
    simp
  have hb1 : Below W.heap.size W w1 := by
    rw [← e1]
    exact (Below.refl _ _).alloc (Nat.le_refl _) _
  have hb2 : Below W.heap.size W w2 := by
    rw [← e2]
    exact hb1.alloc (by rw [s1]; omega) _
  have hb3 := hb2.alloc (by rw [s2]; omega) (.cells #[.slice (some ⟨W.heap.size + 1, 0, none⟩) 0 want] 144)
  have hA : w1.heap[W.heap.size]? = some (.cells #[.int .i64 (want : Int)] 3 (0, 0)) := by
    rw [← e1]
    exact heap_alloc_new W _
  have hA2 : w2.heap[W.heap.size]? = some (.cells #[.int .i64 (want : Int)] 3 (0, 0)) := by
    rw [← e2]
    exact alloc_old hA
  have hrow : w2.ownsRow 0 3 1 (.slice (some ⟨W.heap.size + 1, 0, none⟩) 0 want) 0 [] := by
    rw [← e2, ← s1]
    exact World.ownsRow_made w1 (cellsN (List.replicate want 0)) want (Nat.zero_le _) (by unfold maxLen; omega) (by rw [cellsN_size, List.length_replicate, Nat.mul_one])
  rw [e1, e2]
  have hlt := isS_lt h
  have hltc := isC_lt hc
  have hbox : (w2.alloc (.cells #[.slice (some ⟨W.heap.size + 1, 0, none⟩) 0 want] 144)).heap[W.heap.size + 1 + 1]? = some (.cells #[.slice (some ⟨W.heap.size + 1, 0, none⟩) 0 want] 144 (0, 0)) := by
    rw [← s2]
    exact heap_alloc_new w2 _
  refine ⟨fun k => k = W.heap.size + 1 + 1 ∨ (Value.slice (some ⟨W.heap.size + 1, 0, none⟩) 0 want).ownBlock = some k, isS_keep h hb3.size (fun k hk => hb3.block k (hlt k hk)), ⟨_, hbox, hrow.alloc _, ?_, rfl⟩, (cell_of_block (alloc_old hA2) 0), isC_keep hc hb3.size (fun k hk => hb3.block k (hltc k hk)), ⟨fun k hk => .inl hk, Past.of_below hb3⟩, ?_, ?_, ?_, ?_, hK, ?_⟩
  · simp [Value.ownBlock]
  · rintro k (rfl | hk) ho
    · have := hlt _ ho
      omega
    · simp only [Value.ownBlock, Option.some.injEq] at hk
      have := hlt _ ho
      omega
  · rintro k (rfl | hk)
    · omega
    · simp only [Value.ownBlock, Option.some.injEq] at hk
      omega
  · intro ho
    have := hlt _ ho
    omega
  · rintro (h1 | hk)
    · omega
    · simp only [Value.ownBlock, Option.some.injEq] at hk
      omega
  · rintro k hk (rfl | h1)
    · have := hltc _ hk
      omega
    · simp only [Value.ownBlock, Option.some.injEq] at h1
      have := hltc _ hk
      omega
/-- What lengths come to. -/
def LensTo (c : Cds) (want : Nat) (L : List Bool) (m : Nat) (s : St) (g : Nat) (fx : Value) (O : Nat → Prop) (w : World) (e : Ending) (w' : World) : Prop :=
  (∃ ls t O' lv, Says (lengthsW c want) L m s (.ok ls t) ∧ e = .returned lv ∧ listed natVal w' lv ls ∧ (∀ k, inBlock lv k → w.heap.size ≤ k ∧ ¬ O' k) ∧ ls.length = want ∧ (∀ l ∈ ls, l ≤ 15) ∧ isS w' g L m t fx O' ∧ WentOn O O' w w') ∨ (∃ k, Says (lengthsW c want) L m s (.err k) ∧ e = .panicked (fault k) ∧ Past O w w')
theorem add_said {want : Nat} {ls : List Nat} {l n : Nat} {L : List Bool} {m : Nat} {s : St} (h : ls.length + n ≤ want) : Says (addW want ls l n) L m s (.ok (ls ++ List.replicate n l) s) := Way.says_bind (refuse_said (by omega)) (Way.says_pure _)
theorem add_fails {want : Nat} {ls : List Nat} {l n : Nat} {L : List Bool} {m : Nat} {s : St} (h : want < ls.length + n) : Says (addW want ls l n) L m s (.err 10) := Way.says_bind_err (refuse_fails h)
theorem all15 {ls : List Nat} {n l : Nat} (h : ∀ x ∈ ls, x ≤ 15) (hl : l ≤ 15) : ∀ x ∈ ls ++ List.replicate n l, x ≤ 15 := by
  intro x hx
  rcases List.mem_append.1 hx with hx | hx
  · exact h x hx
  · obtain rfl := List.eq_of_mem_replicate hx
    exact hl
set_option maxHeartbeats 4000000 in
set_option maxRecDepth 100000 in
theorem lengths_go (W : World) (g : Nat) (L : List Bool) (m : Nat) (s : St) (fx : Value) (O : Nat → Prop) (b off : Nat) (c : Cds) (K : Nat → Prop) (want : Nat) (h : isS W g L m s fx O) (hc : isCd W b off c K) (hK : ∀ k, K k → ¬ O k) (hf : Fit c) (h19 : ∀ x ∈ c.syms, x < 19) (hw : want ≤ 400) (hL : L.length ≤ 1099511627776) :
    Calls Tryd.prog 104 #[.pointer (some ⟨g, 0, none⟩), .pointer (some ⟨b, off, none⟩), .int .i64 (want : Int)] W (LensTo c want L m s g fx O W) := by
  have hmf : ∀ (fn : Fn) (first cap : Array Value) (w : World), (Instr.makeFunc fn first cap).run Tryd.prog w = .ok (.func fn first cap) w := fun _ _ _ _ => rfl
  have hmake := make_zero want hw
  have HS0 := Lib.hid h
  have HC0 := Lib.hid hc
  have HK0 := Lib.hid hK
  have HF := Lib.hid hf
  have H19 := Lib.hid h19
  have HL := Lib.hid hL
  have HWN : Hid (want ≤ 400) := hw
  have HR0 : Hid (∀ r, Says (Way.loop (lenStep c want) []) L m s r → Says (lengthsW c want) L m s r) := fun r h => h
  obtain ⟨R0, hstart⟩ := lens_start W g L m s fx O b off c K want h hc hK hw
  have HLA0 := Lib.hid hstart
  clear h hc hK hf h19 hL hstart
  go_enter Tryd.func104, Tryd.ntmps104
  go_wp2_with fail
  go_loopw [9] (fun u9 wr => ∃ (ls : List Nat) (t : St) (O' R' : Nat → Prop), Hid (LenAt W wr g L m t fx O O' W.heap.size (W.heap.size + 1 + 1) want ls R' b off c K) ∧ Hid (∀ r, Says (Way.loop (lenStep c want) ls) L m t r → Says (lengthsW c want) L m s r) ∧ Hid (ls.length ≤ want) ∧ Hid (∀ x ∈ ls, x ≤ 15)) (fun _ wr => L.length - posOf wr g)
  case atStart => exact ⟨[], s, O, R0, HLA0, HR0, Nat.zero_le _, fun x hx => by cases hx⟩
  case round =>
    obtain ⟨ls, t, O', R', hA, hR, hLW, h15⟩ := hrel
    obtain ⟨v, hv⟩ := hA.out.row
    have qb := cell_of_block hv.box 0
    have HV := Lib.hid hv
    obtain ⟨vo, vc, rfl⟩ := row_shape hv.row
    obtain ⟨k, ek⟩ : ∃ k, ls.length = k := ⟨_, rfl⟩
    have EK := Lib.hid ek
    rw [ek] at qb
    have hkw : k ≤ want := by have := hLW.out; omega
    have qa := hA.out.box
    have HPOS := Lib.hid (posOf_is hA.out.st)
    clear hv ek
    by_cases hlt : k < want
    · have d1 : decide ((k : Int) < (want : Int)) = true := decide_eq_true (by omega)
      have d2 : decide (k < want) = true := decide_eq_true hlt
      have HSY := symbol_go wr g L m t fx O' b off c K hA.out.st hA.out.cds hA.out.ko HF.out HL.out
      have HR1 : Hid (∀ r, Says ((symW c).bind fun x =>
    if x = 16 then (Way.get 2).bind fun t => (refuseW (ls.length = 0) 10).bind fun _ => (addW want ls (ls.getD (ls.length - 1) 0) (3 + t)).bind fun ls' => Way.pure (.inl ls')
    else if x = 17 then (Way.get 3).bind fun t => (addW want ls 0 (3 + t)).bind fun ls' => Way.pure (.inl ls')
    else if x = 18 then (Way.get 7).bind fun t => (addW want ls 0 (11 + t)).bind fun ls' => Way.pure (.inl ls')
    else (addW want ls x 1).bind fun ls' => Way.pure (.inl ls')) L m t r → Says (lenStep c want ls) L m t r) := fun r h => by
        unfold lenStep
        rw [if_pos (by rw [EK.out]; exact hlt)]
        exact h
      go_wp2_with fail
      go_at_call 99
      refine HSY.mono ?_
      clear HSY
      rintro e w1 (⟨x, u, O1, hs, rfl, h1, h2⟩ | ⟨k, hs, rfl, hp⟩)
      · have hx := symW_in (by decide) H19.out hs
        obtain ⟨hmv, huo⟩ := symW_moves hs
        have hA1 := Lib.hid (hA.out.next h1 h2)
        have HSA := Lib.hid hs
        have HMV := Lib.hid hmv
        clear hs h1 h2 hmv huo qa qb hlt d1 d2 hA
        by_cases hx16 : x = 16
        · have f16 : ((x : Int) == 16) = true := by simp; omega
          have g16 : decide ((x : Int) = 16) = true := decide_eq_true (by omega)
          have HG := get_go w1 g L m u fx O1 2 hA1.out.st (by decide) HL.out
          go_wp2_with fail
          go_at_call 69
          refine HG.mono ?_
          clear HG
          rintro e w2 (⟨n, u2, O2, hs, rfl, h1, h2⟩ | ⟨k, hs, rfl, hp⟩)
          · obtain ⟨hn, rfl, _⟩ := get_said hs
            have hn : n ≤ 3 := by omega
            have HSB := Lib.hid hs
            have hA2 := Lib.hid (hA1.out.next h1 h2)
            clear hs h1 h2 HV
            obtain ⟨v2, hv2⟩ := hA2.out.row
            have qb := cell_of_block hv2.box 0
            have HLI := Lib.hid (own_listed hv2.row)
            obtain ⟨vo2, vc2, rfl⟩ := row_shape hv2.row
            rw [EK.out] at qb
            clear hv2
            by_cases hk0 : k = 0
            · have f0 : ((k : Int) == 0) = true := by simp; omega
              have g0 : decide ((k : Int) = 0) = true := decide_eq_true (by omega)
              have HE : Hid (Says (lengthsW c want) L m s (.err 10)) := hR.out _ (Way.says_loop_err (HR1.out _ (Way.says_bind HSA.out (by rw [if_pos hx16]; exact Way.says_bind HSB.out (Way.says_bind_err (refuse_fails (by rw [EK.out]; exact hk0)))))))
              clear hk0
              go_wp2_with fail
              go_at_call 87
              refine (refuse_yes 10 _).mono ?_
              rintro e w3 ⟨rfl, rfl⟩
              go_wp2_with fail
              exact ⟨rfl, .inr ⟨10, HE.out, rfl, hA2.out.went.past⟩⟩
            · have f0 : ((k : Int) == 0) = false := by simp; omega
              have g0 : decide ((k : Int) = 0) = false := decide_eq_false (by omega)
              obtain ⟨y, ey⟩ : ∃ y, ls[k - 1]? = some y := ⟨ls[k - 1]'(by rw [EK.out]; omega), List.getElem?_eq_getElem _⟩
              obtain ⟨vb, vof, vcap, ev, hvlt, hcell⟩ := listed_cell HLI.out (k - 1) y ey
              rw [EK.out] at ev
              simp only [Value.slice.injEq] at ev
              obtain ⟨rfl, _, rfl⟩ := ev
              unfold natVal at hcell
              have HGD : Hid (ls.getD (ls.length - 1) 0 = y) := by
                show _ = _
                rw [EK.out, List.getD_eq_getElem?_getD, ey]
                rfl
              have HY15 : Hid (y ≤ 15) := h15.out y (List.mem_of_getElem? ey)
              have HADD := addTo_code w2 W.heap.size (W.heap.size + 1 + 1) want ls R' y (3 + n) hA2.out.box hA2.out.row HWN.out (by omega) hLW.out
              have hk1 : (k : Int) - 1 = ((k - 1 : Nat) : Int) := by omega
              obtain ⟨J, eJ⟩ : ∃ J, k - 1 = J := ⟨_, rfl⟩
              rw [eJ] at hk1 hcell
              have hJk : J < k := by omega
              have hJw : IntKind.i64.wrap (J : Int) = (J : Int) := by
                rw [IntKind.wrap_i64]
                omega
              have HK0 : Hid (¬ ls.length = 0) := by rw [EK.out]; exact hk0
              clear eJ ey hk0
              go_wp2_with fail
              go_at_call 87
              refine (refuse_no _ _).mono ?_
              rintro e w3 ⟨rfl, rfl⟩
              go_wp2_with fail
              go_at_call 109
              refine HADD.mono ?_
              clear HADD
              rintro e w3 (⟨R3, hfit, rfl, h1, h2⟩ | ⟨hfit, rfl, hp⟩)
              · have hA3 := Lib.hid (hA2.out.more h1 h2)
                have HFIT := Lib.hid hfit
                have HST : Hid (Says (lenStep c want ls) L m t (.ok (.inl (ls ++ List.replicate (3 + n) y)) ⟨u.pos + 2, u.out⟩)) := HR1.out _ (Way.says_bind HSA.out (by rw [if_pos hx16, HGD.out]; exact Way.says_bind HSB.out (Way.says_bind (refuse_said HK0.out) (Way.says_bind (add_said hfit) (Way.says_pure _)))))
                clear h1 h2 hfit
                go_wp2_with fail
                go_roundw
                case rel => exact ⟨_, _, O2, R3, hA3, fun r h => hR.out r (Way.says_loop_next HST.out h), by show _ ≤ _; rw [List.length_append, List.length_replicate]; exact HFIT.out, all15 h15.out HY15.out⟩
                case measure =>
                  have e1 := posOf_is hA3.out.st
                  have e2 := isS_pos hA3.out.st
                  simp only at e1 e2
                  rw [e1, HPOS.out]
                  have := HMV.out
                  omega
              · have HE := hR.out _ (Way.says_loop_err (HR1.out _ (Way.says_bind HSA.out (by rw [if_pos hx16, HGD.out]; exact Way.says_bind HSB.out (Way.says_bind (refuse_said HK0.out) (Way.says_bind_err (add_fails hfit)))))))
                go_wp2_with fail
                exact ⟨rfl, .inr ⟨10, HE, rfl, hA2.out.dies hp⟩⟩
          · have HE := hR.out _ (Way.says_loop_err (HR1.out _ (Way.says_bind HSA.out (by rw [if_pos hx16]; exact Way.says_bind_err hs))))
            go_wp2_with fail
            exact ⟨rfl, .inr ⟨k, HE, rfl, hA1.out.went.on hp⟩⟩
        · have f16 : ((x : Int) == 16) = false := by simp; omega
          have g16 : decide ((x : Int) = 16) = false := decide_eq_false (by omega)
          by_cases hx17 : x = 17
          · have f17 : ((x : Int) == 17) = true := by simp; omega
            have g17 : decide ((x : Int) = 17) = true := decide_eq_true (by omega)
            have HG := get_go w1 g L m u fx O1 3 hA1.out.st (by decide) HL.out
            go_wp2_with fail
            go_at_call 69
            refine HG.mono ?_
            clear HG
            rintro e w2 (⟨n, u2, O2, hs, rfl, h1, h2⟩ | ⟨k, hs, rfl, hp⟩)
            · obtain ⟨hn, rfl, _⟩ := get_said hs
              have hn : n ≤ 127 := by omega
              have HSB := Lib.hid hs
              have hA2 := Lib.hid (hA1.out.next h1 h2)
              have HADD := addTo_code w2 W.heap.size (W.heap.size + 1 + 1) want ls R' 0 (3 + n) hA2.out.box hA2.out.row HWN.out (by omega) hLW.out
              have HNN : Hid (n ≤ 127) := hn
              clear hs h1 h2
              go_wp2_with fail
              go_at_call 109
              refine HADD.mono ?_
              clear HADD
              rintro e w3 (⟨R3, hfit, rfl, h1, h2⟩ | ⟨hfit, rfl, hp⟩)
              · have hA3 := Lib.hid (hA2.out.more h1 h2)
                have HFIT := Lib.hid hfit
                have HST : Hid (Says (lenStep c want ls) L m t (.ok (.inl (ls ++ List.replicate (3 + n) 0)) ⟨u.pos + 3, u.out⟩)) := HR1.out _ (Way.says_bind HSA.out (by rw [if_neg hx16, if_pos hx17]; exact Way.says_bind HSB.out (Way.says_bind (add_said hfit) (Way.says_pure _))))
                clear h1 h2 hfit
                go_wp2_with fail
                go_roundw
                case rel => exact ⟨_, _, O2, R3, hA3, fun r h => hR.out r (Way.says_loop_next HST.out h), by show _ ≤ _; rw [List.length_append, List.length_replicate]; exact HFIT.out, all15 h15.out (by decide)⟩
                case measure =>
                  have e1 := posOf_is hA3.out.st
                  have e2 := isS_pos hA3.out.st
                  simp only at e1 e2
                  rw [e1, HPOS.out]
                  have := HMV.out
                  omega
              · have HE := hR.out _ (Way.says_loop_err (HR1.out _ (Way.says_bind HSA.out (by rw [if_neg hx16, if_pos hx17]; exact Way.says_bind HSB.out (Way.says_bind_err (add_fails hfit))))))
                go_wp2_with fail
                exact ⟨rfl, .inr ⟨10, HE, rfl, hA2.out.dies hp⟩⟩
            · have HE := hR.out _ (Way.says_loop_err (HR1.out _ (Way.says_bind HSA.out (by rw [if_neg hx16, if_pos hx17]; exact Way.says_bind_err hs))))
              go_wp2_with fail
              exact ⟨rfl, .inr ⟨k, HE, rfl, hA1.out.went.on hp⟩⟩
          · have f17 : ((x : Int) == 17) = false := by simp; omega
            have g17 : decide ((x : Int) = 17) = false := decide_eq_false (by omega)
            by_cases hx18 : x = 18
            · have f18 : ((x : Int) == 18) = true := by simp; omega
              have g18 : decide ((x : Int) = 18) = true := decide_eq_true (by omega)
              have HG := get_go w1 g L m u fx O1 7 hA1.out.st (by decide) HL.out
              go_wp2_with fail
              go_at_call 69
              refine HG.mono ?_
              clear HG
              rintro e w2 (⟨n, u2, O2, hs, rfl, h1, h2⟩ | ⟨k, hs, rfl, hp⟩)
              · obtain ⟨hn, rfl, _⟩ := get_said hs
                have hn : n ≤ 127 := by omega
                have HSB := Lib.hid hs
                have hA2 := Lib.hid (hA1.out.next h1 h2)
                have HADD := addTo_code w2 W.heap.size (W.heap.size + 1 + 1) want ls R' 0 (11 + n) hA2.out.box hA2.out.row HWN.out (by omega) hLW.out
                have HNN : Hid (n ≤ 127) := hn
                clear hs h1 h2
                go_wp2_with fail
                go_at_call 109
                refine HADD.mono ?_
                clear HADD
                rintro e w3 (⟨R3, hfit, rfl, h1, h2⟩ | ⟨hfit, rfl, hp⟩)
                · have hA3 := Lib.hid (hA2.out.more h1 h2)
                  have HFIT := Lib.hid hfit
                  have HST : Hid (Says (lenStep c want ls) L m t (.ok (.inl (ls ++ List.replicate (11 + n) 0)) ⟨u.pos + 7, u.out⟩)) := HR1.out _ (Way.says_bind HSA.out (by rw [if_neg hx16, if_neg hx17, if_pos hx18]; exact Way.says_bind HSB.out (Way.says_bind (add_said hfit) (Way.says_pure _))))
                  clear h1 h2 hfit
                  go_wp2_with fail
                  go_roundw
                  case rel => exact ⟨_, _, O2, R3, hA3, fun r h => hR.out r (Way.says_loop_next HST.out h), by show _ ≤ _; rw [List.length_append, List.length_replicate]; exact HFIT.out, all15 h15.out (by decide)⟩
                  case measure =>
                    have e1 := posOf_is hA3.out.st
                    have e2 := isS_pos hA3.out.st
                    simp only at e1 e2
                    rw [e1, HPOS.out]
                    have := HMV.out
                    omega
                · have HE := hR.out _ (Way.says_loop_err (HR1.out _ (Way.says_bind HSA.out (by rw [if_neg hx16, if_neg hx17, if_pos hx18]; exact Way.says_bind HSB.out (Way.says_bind_err (add_fails hfit))))))
                  go_wp2_with fail
                  exact ⟨rfl, .inr ⟨10, HE, rfl, hA2.out.dies hp⟩⟩
              · have HE := hR.out _ (Way.says_loop_err (HR1.out _ (Way.says_bind HSA.out (by rw [if_neg hx16, if_neg hx17, if_pos hx18]; exact Way.says_bind_err hs))))
                go_wp2_with fail
                exact ⟨rfl, .inr ⟨k, HE, rfl, hA1.out.went.on hp⟩⟩
            · have f18 : ((x : Int) == 18) = false := by simp; omega
              have g18 : decide ((x : Int) = 18) = false := decide_eq_false (by omega)
              have HADD := addTo_code w1 W.heap.size (W.heap.size + 1 + 1) want ls R' x 1 hA1.out.box hA1.out.row HWN.out (by omega) hLW.out
              have HX15 : Hid (x ≤ 15) := by show _ ≤ _; omega
              have HN3 : Hid (¬ x = 16 ∧ ¬ x = 17 ∧ ¬ x = 18) := ⟨hx16, hx17, hx18⟩
              go_wp2_with fail
              go_at_call 109
              refine HADD.mono ?_
              clear HADD
              rintro e w3 (⟨R3, hfit, rfl, h1, h2⟩ | ⟨hfit, rfl, hp⟩)
              · have hA3 := Lib.hid (hA1.out.more h1 h2)
                have HFIT := Lib.hid hfit
                have HST : Hid (Says (lenStep c want ls) L m t (.ok (.inl (ls ++ List.replicate 1 x)) u)) := HR1.out _ (Way.says_bind HSA.out (by rw [if_neg HN3.out.1, if_neg HN3.out.2.1, if_neg HN3.out.2.2]; exact Way.says_bind (add_said hfit) (Way.says_pure _)))
                clear h1 h2 hfit
                go_wp2_with fail
                go_roundw
                case rel => exact ⟨_, _, O1, R3, hA3, fun r h => hR.out r (Way.says_loop_next HST.out h), by show _ ≤ _; rw [List.length_append, List.length_replicate]; exact HFIT.out, all15 h15.out HX15.out⟩
                case measure =>
                  have e1 := posOf_is hA3.out.st
                  have e2 := isS_pos hA3.out.st
                  rw [e1, HPOS.out]
                  have := HMV.out
                  omega
              · have HE := hR.out _ (Way.says_loop_err (HR1.out _ (Way.says_bind HSA.out (by rw [if_neg HN3.out.1, if_neg HN3.out.2.1, if_neg HN3.out.2.2]; exact Way.says_bind_err (add_fails hfit)))))
                go_wp2_with fail
                exact ⟨rfl, .inr ⟨10, HE, rfl, hA1.out.dies hp⟩⟩
      · go_wp2_with fail
        exact ⟨rfl, .inr ⟨k, hR.out _ (Way.says_loop_err (HR1.out _ (Way.says_bind_err hs))), rfl, hA.out.went.on hp⟩⟩
    · have d1 : decide ((k : Int) < (want : Int)) = false := decide_eq_false (by omega)
      have d2 : decide (k < want) = false := decide_eq_false hlt
      have HKW : Hid (k = want) := by show _ = _; omega
      have HE : Hid (Says (lengthsW c want) L m s (.ok ls t)) := hR.out _ (Way.says_loop_stop (by
        unfold lenStep
        rw [if_neg (by rw [EK.out]; exact hlt)]
        exact Way.says_pure _))
      go_wp2_with fail
      go_ret
      refine .inl ⟨ls, t, O', .slice vo k vc, HE.out, rfl, ?_, ?_, by rw [EK.out]; exact HKW.out, h15.out, hA.out.st, hA.out.went⟩
      · have h9 := own_listed HV.out.row
        rw [EK.out] at h9
        exact h9
      · intro j hj
        have h9 := HV.out.row
        rw [EK.out] at h9
        have h8 := own_in h9 j hj
        have hR' : R' j := by
          rw [HV.out.own, EK.out]
          exact .inr h8
        exact ⟨hA.out.rn j hR', hA.out.ro j hR'⟩
end Go.Proofs.YtbfpbmnnlckldaaDoor.Fx
namespace Go.Proofs.YtbfpbmnnlckldaaDoor.Fx
open Go Go.RowKit Go.Joins
set_option linter.unusedVariables false
set_option maxRecDepth 100000 in
theorem pair_built' (a0 a1 a2 a3 a4 a5 a6 a7 a8 a9 a10 a11 a12 a13 a14 a15 b0 b1 b2 b3 b4 b5 b6 b7 b8 b9 b10 b11 b12 b13 b14 b15 v1 v2 : Value) : Tryd.prog.built 164 [(0, .agg #[a0, a1, a2, a3, a4, a5, a6, a7, a8, a9, a10, a11, a12, a13, a14, a15, v1]), (1, .agg #[b0, b1, b2, b3, b4, b5, b6, b7, b8, b9, b10, b11, b12, b13, b14, b15, v2])] = some #[a0, a1, a2, a3, a4, a5, a6, a7, a8, a9, a10, a11, a12, a13, a14, a15, v1, b0, b1, b2, b3, b4, b5, b6, b7, b8, b9, b10, b11, b12, b13, b14, b15, v2] := by kernel_rfl
theorem pair_built (cs1 cs2 : List Nat) (v1 v2 : Value) (h1 : cs1.length = 16) (h2 : cs2.length = 16) : Tryd.prog.built 164 [(0, .agg (cellsC cs1 v1)), (1, .agg (cellsC cs2 v2))] = some (cellsC cs1 v1 ++ cellsC cs2 v2) := by
  match cs1, h1 with
  | [a0, a1, a2, a3, a4, a5, a6, a7, a8, a9, a10, a11, a12, a13, a14, a15], _ =>
    match cs2, h2 with
    | [b0, b1, b2, b3, b4, b5, b6, b7, b8, b9, b10, b11, b12, b13, b14, b15], _ =>
      have e1 : cellsC [a0, a1, a2, a3, a4, a5, a6, a7, a8, a9, a10, a11, a12, a13, a14, a15] v1 = #[natVal a0, natVal a1, natVal a2, natVal a3, natVal a4, natVal a5, natVal a6, natVal a7, natVal a8, natVal a9, natVal a10, natVal a11, natVal a12, natVal a13, natVal a14, natVal a15, v1] := rfl
      have e2 : cellsC [b0, b1, b2, b3, b4, b5, b6, b7, b8, b9, b10, b11, b12, b13, b14, b15] v2 = #[natVal b0, natVal b1, natVal b2, natVal b3, natVal b4, natVal b5, natVal b6, natVal b7, natVal b8, natVal b9, natVal b10, natVal b11, natVal b12, natVal b13, natVal b14, natVal b15, v2] := rfl
      have e3 : cellsC [a0, a1, a2, a3, a4, a5, a6, a7, a8, a9, a10, a11, a12, a13, a14, a15] v1 ++ cellsC [b0, b1, b2, b3, b4, b5, b6, b7, b8, b9, b10, b11, b12, b13, b14, b15] v2 = #[natVal a0, natVal a1, natVal a2, natVal a3, natVal a4, natVal a5, natVal a6, natVal a7, natVal a8, natVal a9, natVal a10, natVal a11, natVal a12, natVal a13, natVal a14, natVal a15, v1, natVal b0, natVal b1, natVal b2, natVal b3, natVal b4, natVal b5, natVal b6, natVal b7, natVal b8, natVal b9, natVal b10, natVal b11, natVal b12, natVal b13, natVal b14, natVal b15, v2] := by
        rw [e1, e2]
        simp
      rw [e3, e1, e2]
      exact pair_built' (natVal a0) (natVal a1) (natVal a2) (natVal a3) (natVal a4) (natVal a5) (natVal a6) (natVal a7) (natVal a8) (natVal a9) (natVal a10) (natVal a11) (natVal a12) (natVal a13) (natVal a14) (natVal a15) (natVal b0) (natVal b1) (natVal b2) (natVal b3) (natVal b4) (natVal b5) (natVal b6) (natVal b7) (natVal b8) (natVal b9) (natVal b10) (natVal b11) (natVal b12) (natVal b13) (natVal b14) (natVal b15) v1 v2
theorem pair_is {w : World} {b : Nat} {c1 c2 : Cds} {v1 v2 : Value} {t : TypeId} {fr : Nat × Nat} (hb : w.heap[b]? = some (.cells (cellsC c1.counts v1 ++ cellsC c2.counts v2) t fr)) (h1 : c1.counts.length = 16) (h2 : c2.counts.length = 16) (hl1 : listed natVal w v1 c1.syms) (hl2 : listed natVal w v2 c2.syms) (K : Nat → Prop) (hKb : K b) (hK1 : ∀ k, inBlock v1 k → K k) (hK2 : ∀ k, inBlock v2 k → K k) : isPair w b (c1, c2) K := by
  have s1 : (cellsC c1.counts v1).size = 17 := by rw [cellsC_size, h1]
  refine ⟨⟨_, ⟨v1, ⟨fun l hl => ?_, ?_, hl1, rfl⟩⟩, ?_⟩, ⟨_, ⟨v2, ⟨fun l hl => ?_, ?_, hl2, rfl⟩⟩, ?_⟩⟩
  · rw [Nat.zero_add, cell_of_block hb l, Array.getElem?_append_left (by omega)]
    exact cellsC_get _ _ l (by omega)
  · rw [Nat.zero_add, cell_of_block hb 16, Array.getElem?_append_left (by omega)]
    exact cellsC_last _ _ 16 h1.symm
  · rintro k (rfl | hk)
    · exact hKb
    · exact hK1 k hk
  · rw [cell_of_block hb (17 + l), Array.getElem?_append_right (by omega), s1, Nat.add_sub_cancel_left]
    exact cellsC_get _ _ l (by omega)
  · rw [cell_of_block hb (17 + 16), Array.getElem?_append_right (by omega), s1, Nat.add_sub_cancel_left]
    exact cellsC_last _ _ 16 h2.symm
  · rintro k (rfl | hk)
    · exact hKb
    · exact hK2 k hk
/-- All new: what lies behind a world, and what a row's blocks are. -/
theorem grow_start (W : World) (Z : Array Value) (n : Nat) (hZ : Z.size = n) (hn : n ≤ 400) :
    ∃ R, (isG ((W.alloc (.cells Z 3)).alloc (.cells #[.slice (some ⟨W.heap.size, 0, none⟩) 0 n] 144)) (W.heap.size + 1) [] R ∧ Below W.heap.size W ((W.alloc (.cells Z 3)).alloc (.cells #[.slice (some ⟨W.heap.size, 0, none⟩) 0 n] 144))) ∧ ∀ k, R k → W.heap.size ≤ k := by
  have s1 : (W.alloc (.cells Z 3)).heap.size = W.heap.size + 1 := by
    show (W.heap.push _).size = _
    simp
  have hrow : (W.alloc (.cells Z 3)).ownsRow 0 3 1 (.slice (some ⟨W.heap.size, 0, none⟩) 0 n) 0 [] := World.ownsRow_made W Z n (Nat.zero_le _) (by unfold maxLen; omega) (by omega)
  have hbox : ((W.alloc (.cells Z 3)).alloc (.cells #[.slice (some ⟨W.heap.size, 0, none⟩) 0 n] 144)).heap[W.heap.size + 1]? = some (.cells #[.slice (some ⟨W.heap.size, 0, none⟩) 0 n] 144 (0, 0)) := by
    rw [← s1]
    exact heap_alloc_new _ _
  refine ⟨_, ⟨⟨_, hbox, hrow.alloc _, by simp [Value.ownBlock], rfl⟩, ((Below.refl _ _).alloc (Nat.le_refl _) _).alloc (by rw [s1]; omega) _⟩, ?_⟩
  rintro k (rfl | hk)
  · omega
  · simp only [Value.ownBlock, Option.some.injEq] at hk
    omega
theorem below_went {W w w' : World} {R R' : Nat → Prop} (h : Below W.heap.size W w) (hR : ∀ k, R k → W.heap.size ≤ k) (h2 : WentOn R R' w w') : Below W.heap.size W w' ∧ ∀ k, R' k → W.heap.size ≤ k :=
  ⟨h.trans (h2.past.below hR h.size), fun k hk => (h2.own k hk).elim (hR k) (fun h3 => Nat.le_trans h.size h3)⟩
/-- 'lengths = lengths[:0]' behind a box of the call's own. -/
theorem cut_start {w4 w5 : World} {B b4 c4 n : Nat} {ls : List Nat} {R4 : Nat → Prop} {A1 : Array Value} (hv : GrowAt w4 B ls R4 (.slice (some ⟨b4, 0, none⟩) n c4)) (hb : Below w4.heap.size w4 w5)
    (hB : (w5.alloc (.cells A1 161)).heap[B]? = some (.cells #[.slice (some ⟨b4, 0, none⟩) n c4] 144 (0, 0))) :
    ∃ R5, isG ((w5.alloc (.cells A1 161)).setCell ⟨B, 0, none⟩ (.slice (some ⟨b4, 0, none⟩) 0 c4)) B [] R5 ∧ (∀ k, R5 k → R4 k ∧ k < w4.heap.size) ∧
      (∀ (v : Value) (zs : List Nat), listed natVal w5 v zs → (∀ b, inBlock v b → w4.heap.size ≤ b) → listed natVal ((w5.alloc (.cells A1 161)).setCell ⟨B, 0, none⟩ (.slice (some ⟨b4, 0, none⟩) 0 c4)) v zs) ∧
      w5.heap.size < ((w5.alloc (.cells A1 161)).setCell ⟨B, 0, none⟩ (.slice (some ⟨b4, 0, none⟩) 0 c4)).heap.size ∧
      ((w5.alloc (.cells A1 161)).setCell ⟨B, 0, none⟩ (.slice (some ⟨b4, 0, none⟩) 0 c4)).heap[w5.heap.size]? = some (.cells A1 161 (0, 0)) := by
  have hBlt := (Array.getElem?_eq_some_iff.1 hv.box).1
  have hblt := (hv.row.lt b4 rfl).2
  have hne : b4 ≠ B := fun e => hv.ne (by rw [e]; rfl)
  have hs := hb.size
  have hsz : ((w5.alloc (.cells A1 161)).setCell ⟨B, 0, none⟩ (.slice (some ⟨b4, 0, none⟩) 0 c4)).heap.size = w5.heap.size + 1 := by
    simp
  refine ⟨fun k => k = B ∨ k = b4, ⟨_, by simpa using block_setCell (i := 0) hB _, ?_, by simpa [Value.ownBlock] using hne, by simp [Value.ownBlock, eq_comm]⟩, ?_, fun v zs hl hn => ?_, by rw [hsz]; omega, ?_⟩
  · refine ⟨rfl, .inr ?_⟩
    rcases hv.row.2 with ⟨h, _⟩ | ⟨g, cap, cur, h, _, hg, _, hm, hsize, _⟩
    · cases h
    · simp only [Value.slice.injEq, Option.some.injEq, Addr.mk.injEq] at h
      obtain ⟨⟨rfl, _⟩, _, rfl⟩ := h
      exact ⟨b4, c4, cur, rfl, Nat.zero_le _, (Below.heap_setCell _ _ _ _ hne).trans (alloc_old ((hb.block b4 hblt).trans hg)), Nat.zero_le _, hm, hsize, by simp⟩
  · rintro k (rfl | rfl)
    · exact ⟨by rw [hv.own]; exact .inl rfl, hBlt⟩
    · exact ⟨by rw [hv.own]; exact .inr rfl, hblt⟩
  · refine listed_kept hl (by rw [hsz]; omega) (fun b hbk => ?_)
    have h1 := hn b hbk
    have h2 := inBlock_low hl hbk
    refine (Below.heap_setCell _ _ _ _ (by show b ≠ B; omega)).trans ?_
    exact ((Below.refl _ _).alloc (Nat.le_refl _) _ : Below w5.heap.size w5 _).block b h2
  · refine (Below.heap_setCell _ _ _ _ (by show w5.heap.size ≠ B; omega)).trans ?_
    exact heap_alloc_new w5 _
theorem wp_build_run {P : Program} {o : Oper} {a : Act} {w : World} {K : Act → World → Prop} {Q : Exit → Act → World → Prop} (t : TypeId) (parts : Array (Nat × Operand)) (ho : o.op = .build t parts) (cells : Array Value) (vals : Array (Nat × Value)) (hv : (parts.map fun (i, x) => (i, a.eval x)) = vals)
    (hrun : (Instr.build t vals).run P w = .ok (.agg cells) w) (h : K (a.put o.dst (.agg cells)) w) : o.wp P a w K Q := by
  subst hv
  unfold Oper.wp execOp
  simp only [ho, Sem.run_bind, hrun, Result.andThen_ok]
  exact h
theorem fixedLens_fit : fixedLens.length = 288 := by decide +kernel
set_option maxHeartbeats 4000000 in
set_option maxRecDepth 100000 in
theorem fixedPair_any (W : World) : Calls Tryd.prog 89 #[] W fun e w' => ∃ b, e = .returned (.pointer (some ⟨b, 0, none⟩)) ∧ isPair w' b fixedP (fun k => W.heap.size ≤ k ∧ k < w'.heap.size) ∧ Below W.heap.size W w' := by
  have hmf : ∀ (fn : Fn) (first cap : Array Value) (w : World), (Instr.makeFunc fn first cap).run Tryd.prog w = .ok (.func fn first cap) w := fun _ _ _ _ => rfl
  obtain ⟨Z, eZ⟩ : ∃ Z, cellsN (List.replicate 288 0) = Z := ⟨_, rfl⟩
  have hZ : Z.size = 288 := by rw [← eZ, cellsN_size, List.length_replicate]
  have HZ := Lib.hid hZ
  have hmake : ∀ w : World, (Instr.makeSlice 144 (.int .i64 0) (.int .i64 288)).run Tryd.prog w = .ok (.slice (some ⟨w.heap.size, 0, none⟩) 0 288) (w.alloc (.cells Z 3)) := fun w => by
    rw [← eZ]
    exact make_zero 288 (by decide) w
  obtain ⟨R0, hg0, hr0⟩ := grow_start W Z 288 hZ (by decide)
  have HG0 := Lib.hid hg0
  have HR0 := Lib.hid hr0
  clear eZ hZ hg0 hr0
  go_enter Tryd.func89, Tryd.ntmps89
  go_wp2_with fail
  go_at_call 97
  refine (again_code _ _ _ _ 8 144 HG0.out.1 (by decide)).mono ?_
  rintro e w1 ⟨R1, rfl, h1, h2⟩
  have HG1 := Lib.hid h1
  have HW1 := Lib.hid (below_went HG0.out.2 HR0.out h2)
  clear h1 h2
  go_wp2_with fail
  go_at_call 97
  refine (again_code _ _ _ _ 9 112 HG1.out (by simp)).mono ?_
  rintro e w2 ⟨R2, rfl, h1, h2⟩
  have HG2 := Lib.hid h1
  have HW2 := Lib.hid (below_went HW1.out.1 HW1.out.2 h2)
  clear h1 h2
  go_wp2_with fail
  go_at_call 97
  refine (again_code _ _ _ _ 7 24 HG2.out (by simp)).mono ?_
  rintro e w3 ⟨R3, rfl, h1, h2⟩
  have HG3 := Lib.hid h1
  have HW3 := Lib.hid (below_went HW2.out.1 HW2.out.2 h2)
  clear h1 h2
  go_wp2_with fail
  go_at_call 97
  refine (again_code _ _ _ _ 8 8 HG3.out (by simp)).mono ?_
  rintro e w4 ⟨R4, rfl, h1, h2⟩
  have HW4 := Lib.hid (below_went HW3.out.1 HW3.out.2 h2)
  have HG4 : Hid (isG w4 (W.heap.size + 1) fixedLens R4) := by
    have e : ((([] ++ List.replicate 144 8) ++ List.replicate 112 9) ++ List.replicate 24 7) ++ List.replicate 8 8 = fixedLens := rfl
    rw [← e]
    exact h1
  clear h1 h2 HG1 HG2 HG3
  obtain ⟨v4, hv4⟩ := HG4.out
  have q0 := cell_of_block hv4.box 0
  have HV4 := Lib.hid hv4
  have HLI := Lib.hid (own_listed hv4.row)
  obtain ⟨b4, c4, rfl, hc4⟩ := numForm (c := 287) (by have := hv4.row; rw [fixedLens_fit] at this; exact this)
  have f0 := unfrozen_of_block hv4.box 0
  clear hv4
  have KN := newCodes_any (.slice (some ⟨b4, 0, none⟩) (287 + 1) c4) fixedLens w4 HLI.out (by decide +kernel) (by rw [fixedLens_fit]; decide)
  go_wp2_with fail
  go_at_call 98
  refine KN.mono ?_
  rintro e w5 ⟨v5, rfl, h1, h2, h3, h4⟩
  have HS5 := Lib.hid h1
  have HN5 := Lib.hid h2
  have hone := h3
  have HB5 := Lib.hid h4
  have hi108 : (Tryd.prog.info? 161).map (·.size) = some 17 := by kernel_rfl
  have hA1s : (cellsC (countsOf fixedLens) v5).size = 17 := by rw [cellsC_size, counts_length]
  have hA1o := cellsC_one (countsOf fixedLens) v5 hone
  obtain ⟨A1, eA1⟩ : ∃ A1, cellsC (countsOf fixedLens) v5 = A1 := ⟨_, rfl⟩
  have EA1 := Lib.hid eA1
  rw [eA1] at hA1s hA1o ⊢
  have HI := Lib.hid hi108
  have HA1S := Lib.hid hA1s
  have HA1O := Lib.hid hA1o
  have hB5 : (w5.alloc (.cells A1 161)).heap[W.heap.size + 1]? = some (.cells #[.slice (some ⟨b4, 0, none⟩) (287 + 1) c4] 144 (0, 0)) :=
    alloc_old ((h4.block _ (Array.getElem?_eq_some_iff.1 HV4.out.box).1).trans HV4.out.box)
  have r0 := cell_of_block hB5 0
  have r1 := unfrozen_of_block hB5 0
  have HB5B := Lib.hid hB5
  have HT5 : Hid ((w5.alloc (.cells A1 161)).heap[w5.heap.size]? = some (.cells A1 161 (0, 0))) := heap_alloc_new w5 _
  clear h1 h2 h3 h4 hone hi108 hA1s hA1o eA1 q0 f0 KN hB5
  go_wp2_with (refine wpList_store_agg rfl 161 _ _ rfl ⟨w5.heap.size, 0, none⟩ rfl (.agg A1) rfl (run_storeVar_new w5 161 _ A1 (by rw [HA1S.out]; exact HI.out) (by rw [HA1S.out]; rfl) HA1O.out) ?_)
  obtain ⟨R5, hg6, hr6, hp6⟩ := cut_start HV4.out HB5.out HB5B.out
  obtain ⟨hp6, hp5⟩ := hp6
  have HG6 := Lib.hid hg6
  have hb6 : Below W.heap.size W ((w5.alloc (.cells A1 161)).setCell ⟨W.heap.size + 1, 0, none⟩ (.slice (some ⟨b4, 0, none⟩) 0 c4)) :=
    (((HW4.out.1.trans (HB5.out.mono HW4.out.1.size)).alloc (by have := HW4.out.1.size; have := HB5.out.size; omega) _).setCell (p := ⟨W.heap.size + 1, 0, none⟩) (Nat.le_succ _) _)
  have HB6 := Lib.hid hb6
  have hr6W : ∀ k, R5 k → W.heap.size ≤ k := fun k hk => HW4.out.2 k (hr6 k hk).1
  have HR6 := Lib.hid hr6
  have HR6W := Lib.hid hr6W
  have HP6 := Lib.hid hp6
  have HP5 := Lib.hid hp5
  clear hg6 hr6 hp6 hp5 hb6 hr6W r0 r1
  go_at_call 97
  refine (again_code _ _ _ _ 5 32 HG6.out (by decide)).mono ?_
  rintro e w7 ⟨R7, rfl, h1, h2⟩
  have HW7 := Lib.hid (below_went HB6.out HR6W.out h2)
  have HG7 : Hid (isG w7 (W.heap.size + 1) (List.replicate 32 5) R7) := h1
  have HT7 : Hid (w7.heap[w5.heap.size]? = some (.cells A1 161 (0, 0))) := (h2.past.block _ HP5.out.1 (fun hr => by have := (HR6.out _ hr).2; have := HB5.out.size; omega)).trans HP5.out.2
  have HS7 : Hid (listed natVal w7 v5 (newCds fixedLens).syms) := listed_past (HP6.out _ _ HS5.out HN5.out) h2.past (fun b hb hr => by have := HN5.out b hb; have := (HR6.out _ hr).2; omega)
  clear h1 h2
  obtain ⟨v7, hv7⟩ := HG7.out
  have q0 := cell_of_block hv7.box 0
  have HLI7 := Lib.hid (own_listed hv7.row)
  obtain ⟨b7, c7, rfl, hc7⟩ := numForm (c := 31) hv7.row
  have HV7 := Lib.hid hv7
  clear hv7
  go_wp2_with fail
  have HLD : Hid (∀ w', Below w7.heap.size w7 w' → (loadVar 161 ⟨w5.heap.size, 0, none⟩).run Tryd.prog w' = .ok (.agg A1) w') := fun w' hb =>
    run_loadVar_row w' w5.heap.size 161 161 _ (0, 0) _ ((hb.block _ (Array.getElem?_eq_some_iff.1 HT7.out).1).trans HT7.out) Tryd.underlying161 rfl (by rw [HA1S.out]; exact HI.out)
  have HQ : Hid (∀ w', Below w7.heap.size w7 w' → w'.cell? ⟨W.heap.size + 1, 0, none⟩ = some (.slice (some ⟨b7, 0, none⟩) (31 + 1) c7)) := fun w' hb =>
    (World.cell?_of_block (a := ⟨W.heap.size + 1, 0, none⟩) (hb.block _ (Array.getElem?_eq_some_iff.1 HV7.out.box).1)).trans (cell_of_block HV7.out.box 0)
  have KN : Hid (∀ w', Below w7.heap.size w7 w' → Calls Tryd.prog 98 #[.slice (some ⟨b7, 0, none⟩) (31 + 1) c7] w' fun e w'' => ∃ v, e = .returned (.agg (cellsC (countsOf (List.replicate 32 5)) v)) ∧ listed natVal w'' v (newCds (List.replicate 32 5)).syms ∧ (∀ b, inBlock v b → w'.heap.size ≤ b) ∧ v.oneCell' = true ∧ Below w'.heap.size w' w'') := fun w' hb =>
    newCodes_any _ (List.replicate 32 5) w' (listed_on HLI7.out hb) (by decide) (by decide)
  refine wp_region_held_drew (S := fun w' => Below w7.heap.size w7 w') (by kernel_rfl) (Below.refl _ _).drew (fun hS => ?_)
  refine wpAnyH_take (i := 0) (v := .agg A1) rfl (by kernel_rfl) (by kernel_rfl) (by kernel_rfl) (fun _ _ _ h => h) (.inl ⟨rfl, fun w' hS' => ?_⟩) hS ?_
  · have h := HLD.out w' hS'
    simp only [execOp, Act.eval, Instr.loadAt, Instr.sureAddr]
    simp [h, Result.andThen]
  refine wpAnyH_take (i := 1) (v := .slice (some ⟨b7, 0, none⟩) (31 + 1) c7) rfl (by kernel_rfl) (by kernel_rfl) (by kernel_rfl) (fun _ _ _ h => h) (.inl ⟨rfl, fun w' hS' => ?_⟩) hS ?_
  · have h := HQ.out w' hS'
    go_simp
  refine wpAnyH_ready (rs := [2]) (by kernel_rfl) (by simp) (AllReadyH.cons rfl (fun K' hK => ?_) AllReadyH.nil)
  go_simp
  go_at_call 98
  refine (KN.out _ hS).mono ?_
  rintro e w8 ⟨v8, rfl, h1, h2, h3, h4⟩
  have hS8 : Below w7.heap.size w7 w8 := hS.trans (h4.mono hS.size)
  have HS8 := Lib.hid h1
  have HN8 := Lib.hid h2
  have HB8 := Lib.hid hS8
  have hbuild : ∀ w, (Instr.build 164 #[(0, .agg A1), (1, .agg (cellsC (countsOf (List.replicate 32 5)) v8))]).run Tryd.prog w = .ok (.agg (A1 ++ cellsC (countsOf (List.replicate 32 5)) v8)) w := fun w => by
    rw [← EA1.out]
    exact run_build w 164 _ _ (pair_built (countsOf fixedLens) (countsOf (List.replicate 32 5)) v5 v8 (counts_length _) (counts_length _))
  obtain ⟨A2, eA2⟩ : ∃ A2, cellsC (countsOf (List.replicate 32 5)) v8 = A2 := ⟨_, rfl⟩
  have EA2 := Lib.hid eA2
  rw [eA2] at hbuild ⊢
  obtain ⟨A3, eA3⟩ : ∃ A3, A1 ++ A2 = A3 := ⟨_, rfl⟩
  have EA3 := Lib.hid eA3
  rw [eA3] at hbuild
  clear h1 h2 h3 h4 eA2 eA3
  refine hK.out _ _ hS8 (fun _ => ?_)
  refine wpAnyH_ready (rs := [3]) (by kernel_rfl) (by simp) (AllReadyH.cons rfl (fun K' hK => ?_) AllReadyH.nil)
  rw [if_pos (by rfl)]
  refine wp_build_run 164 _ rfl A3 #[(0, .agg A1), (1, .agg A2)] (by simp [Act.eval]) (hbuild w8) ?_
  refine hK.out _ _ hS8 (fun _ => ?_)
  refine wpAnyH_ready (rs := [4]) (by kernel_rfl) (by simp) (AllReadyH.cons rfl (fun K' hK => ?_) AllReadyH.nil)
  go_simp
  refine hK.out _ _ (hS8.alloc hS8.size _) (fun hS9 => ?_)
  refine wpAnyH_ready (rs := [5]) (by kernel_rfl) (by simp) (AllReadyH.cons rfl (fun K' hK => ?_) AllReadyH.nil)
  go_simp
  refine hK.out _ _ hS9 (fun _ => ?_)
  refine wpAnyH_done (by kernel_rfl) ?_ _
  go_wp2_with fail
  go_simp
  go_ret
  have hall := HW7.out.1.trans (hS9.mono HW7.out.1.size)
  have hnew : (w8.alloc (.cells A3 164)).heap[w8.heap.size]? = some (.cells A3 164 (0, 0)) := heap_alloc_new w8 _
  have hA3 : A3 = cellsC (newCds fixedLens).counts v5 ++ cellsC (newCds (List.replicate 32 5)).counts v8 := by
    rw [← EA3.out, ← EA1.out, ← EA2.out]
    rfl
  have hW8 : W.heap.size ≤ w8.heap.size := Nat.le_trans HW7.out.1.size HB8.out.size
  have hsz : (w8.alloc (.cells A3 164)).heap.size = w8.heap.size + 1 := by
    show (w8.heap.push _).size = _
    simp
  have hin1 := HS7.out
  refine ⟨w8.heap.size, rfl, ?_, hall⟩
  have hb8 : Below w8.heap.size w8 (w8.alloc (.cells A3 164)) := (Below.refl _ _).alloc (Nat.le_refl _) _
  have hl1 := listed_on HS7.out hS9
  have hl2 := listed_on HS8.out hb8
  have h45 : W.heap.size ≤ w4.heap.size := HW4.out.1.size
  refine pair_is (c1 := newCds fixedLens) (c2 := newCds (List.replicate 32 5)) (v1 := v5) (v2 := v8) (t := 164) (fr := (0, 0)) (by rw [← hA3]; exact hnew) (counts_length _) (counts_length _) hl1 hl2 _ ⟨hW8, by rw [hsz]; omega⟩ (fun k hk => ⟨Nat.le_trans h45 (HN5.out k hk), ?_⟩) (fun k hk => ⟨Nat.le_trans HW7.out.1.size (HN8.out k hk), ?_⟩)
  · exact inBlock_low hl1 hk
  · exact inBlock_low hl2 hk
end Go.Proofs.YtbfpbmnnlckldaaDoor.Fx
namespace Go.Proofs.YtbfpbmnnlckldaaDoor.Fx
open Go Go.RowKit Go.Joins
set_option linter.unusedVariables false
/-- The order of the lengths of lengths, where it is laid. -/
def LaidOrder (w : World) : Prop := ∀ i, i < 19 → w.cell? ⟨0, i, none⟩ = some (.int .i64 (order.getD i 0 : Nat))
theorem LaidOrder.went {w w' : World} {O : Nat → Prop} (h : LaidOrder w) (hp : Past O w w') (ho : ¬ O 0) : LaidOrder w' := fun i hi =>
  (World.cell?_of_block (a := ⟨0, i, none⟩) (hp.block _ (World.block_lt_of_cell? w _ (h i hi)) ho)).trans (h i hi)
theorem order_low (i : Nat) (hi : i < 19) : order.getD i 0 < 19 := by
  have : ∀ i, i < 19 → order.getD i 0 < 19 := by decide
  exact this i hi
/-- What holds between the rounds: the stream, the lengths of lengths so far. -/
structure OwnAt (W wr : World) (g : Nat) (L : List Bool) (m : Nat) (t : St) (fx : Value) (O O' : Nat → Prop) (Y : Nat) (own : List Nat) : Prop where
  st : isS wr g L m t fx O'
  row : wr.heap[Y]? = some (.cells (cellsN own) 3 (0, 0))
  went : WentOn O O' W wr
  yo : ¬ O' Y
  yn : W.heap.size ≤ Y
  laid : LaidOrder wr
  lo : ¬ O' 0
theorem OwnAt.next {W wr w' : World} {g : Nat} {L : List Bool} {m : Nat} {t u : St} {fx : Value} {O O' O'' : Nat → Prop} {Y : Nat} {own : List Nat} (h : OwnAt W wr g L m t fx O O' Y own)
    (h1 : isS w' g L m u fx O'') (h2 : WentOn O' O'' wr w') : OwnAt W w' g L m u fx O O'' Y own where
  st := h1
  row := (h2.past.block Y (Array.getElem?_eq_some_iff.1 h.row).1 h.yo).trans h.row
  went := h.went.trans h2
  yo := fun h3 => (h2.own Y h3).elim h.yo (fun h4 => by have := (Array.getElem?_eq_some_iff.1 h.row).1; omega)
  yn := h.yn
  laid := h.laid.went h2.past h.lo
  lo := fun h3 => (h2.own _ h3).elim h.lo (fun h4 => by have := World.block_lt_of_cell? wr _ (h.laid 0 (by decide)); simp only at this; omega)
theorem listed_cells {w : World} {Y n : Nat} {ls : List Nat} (h : w.heap[Y]? = some (.cells (cellsN ls) 3 (0, 0))) (hn : ls.length = n) : listed natVal w (.slice (some ⟨Y, 0, none⟩) n n) ls := by
  subst hn
  refine .inr ⟨Y, 0, ls.length, rfl, (Array.getElem?_eq_some_iff.1 h).1, Nat.le_refl _, fun j z hz => ?_⟩
  have hj := (List.getElem?_eq_some_iff.1 hz).1
  rw [Nat.zero_add, cell_of_block h j, cellsN_get _ j hj, List.getD_eq_getElem?_getD, hz]
  rfl
set_option maxRecDepth 100000 in
/-- A row of numbers, in two parts. -/
theorem cuts {W : World} {lv : Value} {ls : List Nat} (h : listed natVal W lv ls) (n : Nat) (hn : 0 < n) (hn2 : n < ls.length) :
    ∃ b off cap, lv = .slice (some ⟨b, off, none⟩) ls.length cap ∧ ls.length ≤ cap ∧ (∀ w, (Instr.slice 144 (.slice (some ⟨b, off, none⟩) ls.length cap) none (some (.int .i64 (n : Int))) none).run Tryd.prog w = .ok (.slice (some ⟨b, off, none⟩) n cap) w) ∧ listed natVal W (.slice (some ⟨b, off, none⟩) n cap) (ls.take n) ∧
      (∀ w, (Instr.slice 144 (.slice (some ⟨b, off, none⟩) ls.length cap) (some (.int .i64 (n : Int))) none none).run Tryd.prog w = .ok (.slice (some ⟨b, off + n, none⟩) (ls.length - n) (cap - n)) w) ∧ listed natVal W (.slice (some ⟨b, off + n, none⟩) (ls.length - n) (cap - n)) (ls.drop n) := by
  have hs : ∀ w, (sizeOf (Tryd.prog.elem 144)).run Tryd.prog w = .ok 1 w := fun w => by
    have he : Tryd.prog.elem 144 = 3 := by kernel_rfl
    rw [he]
    have hi : (Tryd.prog.info? 3).map (·.size) = some 1 := by kernel_rfl
    cases hq : Tryd.prog.info? 3 with
    | none => simp [hq] at hi
    | some i => simp [sizeOf, typeInfo, hq, show i.size = 1 by simpa [hq] using hi]
  rcases h with ⟨_, rfl⟩ | ⟨b, off, cap, rfl, hlt, hle, hc⟩
  · simp at hn2
  · refine ⟨b, off, cap, rfl, hle, fun w => ?_, .inr ⟨b, off, cap, by rw [List.length_take, Nat.min_eq_left (by omega)], hlt, by rw [List.length_take]; omega, fun j z hz => ?_⟩, fun w => ?_, .inr ⟨b, off + n, cap - n, by rw [List.length_drop], hlt, by rw [List.length_drop]; omega, fun j z hz => ?_⟩⟩
    · rw [run_slice_h w 144 (some ⟨b, off, none⟩) ls.length cap Tryd.underlying144 .i64 n (by omega) (by omega), hs]
      have hadd : (⟨b, off, none⟩ : Addr).add 0 = ⟨b, off, none⟩ := by simp [Addr.add]
      simp [sliced, Result.andThen, hadd]
    · have hj : j < n := by
        have := (List.getElem?_eq_some_iff.1 hz).1
        rw [List.length_take] at this
        omega
      rw [List.getElem?_take, if_pos hj] at hz
      exact hc j z hz
    · rw [run_slice_l w 144 (some ⟨b, off, none⟩) ls.length cap Tryd.underlying144 .i64 n (by omega) (by omega), hs]
      have hadd : (⟨b, off, none⟩ : Addr).add n = ⟨b, off + n, none⟩ := by unfold Addr.add; split <;> simp_all
      have hne : ¬ cap = n := by omega
      simp [sliced, Result.andThen, hadd, hne]
    · rw [List.getElem?_drop] at hz
      rw [Nat.add_assoc]
      exact hc (n + j) z hz
theorem yield_slice {P : Program} {o : Oper} {a : Act} {w : World} (t : TypeId) (hu : P.underlying t = some (.slice (P.elem t))) (x : Operand) (lo hi : Option Operand) (ho : o.op = .slice t x lo hi none) (v u : Value) (l h : Option Value) (hx : a.eval x = v) (hl : lo.map a.eval = l) (hh : hi.map a.eval = h) (hrun : (Instr.slice t v l h none).run P w = .ok u w) : (execOp a.eval o).run P w = .ok (.value u) w := by
  subst hx; subst hl; subst hh
  unfold execOp
  simp [ho, run_sliceAt_slice, hu, hrun, Result.andThen]
/-- Codes in a box of their own. -/
theorem box_codes {w : World} {cs : List Nat} {v : Value} {c : Cds} (hcs : cs = c.counts) (hl : cs.length = 16) (hv : listed natVal w v c.syms) :
    isCd (w.alloc (.cells (cellsC cs v) 161)) w.heap.size 0 c (fun k => k = w.heap.size ∨ inBlock v k) := by
  subst hcs
  have hn := heap_alloc_new w (.cells (cellsC c.counts v) 161)
  refine ⟨v, fun l hlt => ?_, ?_, listed_on hv (((Below.refl _ _).alloc (Nat.le_refl _) _) : Below w.heap.size w _), rfl⟩
  · rw [Nat.zero_add, cell_of_block hn l]
    exact cellsC_get _ _ l (by omega)
  · rw [Nat.zero_add, cell_of_block hn 16]
    exact cellsC_last _ _ 16 hl.symm
theorem set_past (wr : World) (Y j : Nat) (v : Value) : Past (fun k => k = Y) wr (wr.setCell ⟨Y, j, none⟩ v) := ⟨rfl, rfl, rfl, by simp, fun k hk hn => Below.heap_setCell wr ⟨Y, j, none⟩ v k hn⟩
theorem own_start {W w3 : World} {g : Nat} {L : List Bool} {m : Nat} {t : St} {fx : Value} {O O' : Nat → Prop} (h1 : isS w3 g L m t fx O') (h2 : WentOn O O' W w3) (hl : LaidOrder W) (hlo : ¬ O 0) (Z : Array Value) (hZ : cellsN (List.replicate 19 0) = Z) :
    OwnAt W (w3.alloc (.cells Z 3)) g L m t fx O O' w3.heap.size (List.replicate 19 0) := by
  have hb : Below w3.heap.size w3 (w3.alloc (.cells Z 3)) := (Below.refl _ _).alloc (Nat.le_refl _) _
  have hlt := isS_lt h1
  have hl0 := World.block_lt_of_cell? W _ (hl 0 (by decide))
  refine ⟨isS_keep h1 hb.size (fun k hk => hb.block k (hlt k hk)), by rw [hZ]; exact heap_alloc_new w3 _, h2.trans ⟨fun b hb => .inl hb, Past.of_below hb⟩, fun ho => by have := hlt _ ho; omega, h2.past.size, ?_, fun ho => (h2.own _ ho).elim hlo (fun h3 => by simp only at hl0; omega)⟩
  exact (hl.went h2.past hlo).went (Past.of_below hb : Past (fun _ => False) _ _) (fun h => h)
theorem OwnAt.set {W wr : World} {g : Nat} {L : List Bool} {m : Nat} {t : St} {fx : Value} {O O' : Nat → Prop} {Y : Nat} {own : List Nat} (h : OwnAt W wr g L m t fx O O' Y own) (hY : 0 < W.heap.size) (j x : Nat) :
    OwnAt W (wr.setCell ⟨Y, j, none⟩ (.int .i64 (x : Int))) g L m t fx O O' Y (own.set j x) where
  st := isS_keep h.st (by simp) (fun k hk => Below.heap_setCell _ _ _ k (fun e => h.yo (by have e : k = Y := e; rw [← e]; exact hk)))
  row := by rw [← cellsN_set]; exact block_setCell h.row _
  went := ⟨h.went.own, h.went.past.trans (set_past wr Y j (.int .i64 (x : Int))) (fun k hk => .inr (by have e : k = Y := hk; rw [e]; exact h.yn))⟩
  yo := h.yo
  yn := h.yn
  laid := fun i hi => (World.cell?_of_block (a := ⟨0, i, none⟩) (Below.heap_setCell _ _ _ _ (by have := h.yn; show 0 ≠ Y; omega))).trans (h.laid i hi)
  lo := h.lo
theorem OwnAt.drew {W wr : World} {g : Nat} {L : List Bool} {m : Nat} {t : St} {fx : Value} {O O' : Nat → Prop} {Y : Nat} {own : List Nat} (h : OwnAt W wr g L m t fx O O' Y own) : OwnAt W wr.drew g L m t fx O O' Y own :=
  ⟨isS_drew h.st, h.row, ⟨h.went.own, h.went.past.trans (drew_past O wr) (fun b h => .inl h)⟩, h.yo, h.yn, h.laid, h.lo⟩
theorem says_bind2 {α β γ : Type} {x : Way α} {k : α → Way β} {F : β → Way γ} {L : List Bool} {m : Nat} {s u : St} {a : α} {r : Res γ} (h : Says x L m s (.ok a u)) (h' : Says ((k a).bind F) L m u r) : Says ((x.bind k).bind F) L m s r := by
  obtain ⟨f, h⟩ := h
  obtain ⟨g, h'⟩ := h'
  refine ⟨max f g, ?_⟩
  have h1 := Way.run_le x h (Nat.le_max_left f g)
  have h2 := Way.run_le ((k a).bind F) h' (Nat.le_max_right f g)
  have h3 : (x.bind k).run (max f g) L m s = (k a).run (max f g) L m u := Way.bindRun_ok h1
  show Way.bindRun (x.bind k) F _ L m s = _
  have h4 : Way.bindRun (k a) F (max f g) L m u = some r := h2
  unfold Way.bindRun at h4 ⊢
  rw [h3]
  exact h4
/-- What a block's own codes come to. -/
def OwnTo (L : List Bool) (m : Nat) (s : St) (g : Nat) (fx : Value) (O : Nat → Prop) (w : World) (e : Ending) (w' : World) : Prop :=
  (∃ p t O' b K, Says ownPairW L m s (.ok p t) ∧ e = .returned (.pointer (some ⟨b, 0, none⟩)) ∧ isPair w' b p K ∧ (∀ k, K k → ¬ O' k ∧ k < w'.heap.size) ∧ Fit p.1 ∧ Fit p.2 ∧ isS w' g L m t fx O' ∧ WentOn O O' w w') ∨ (∃ k, Says ownPairW L m s (.err k) ∧ e = .panicked (fault k) ∧ Past O w w')
set_option maxHeartbeats 4000000 in
set_option maxRecDepth 100000 in
theorem ownPair_go (W : World) (g : Nat) (L : List Bool) (m : Nat) (s : St) (fx : Value) (O : Nat → Prop) (h : isS W g L m s fx O) (hl : LaidOrder W) (hlo : ¬ O 0) (hL : L.length ≤ 1099511627776) :
    Calls Tryd.prog 91 #[.pointer (some ⟨g, 0, none⟩)] W (OwnTo L m s g fx O W) := by
  obtain ⟨Z, eZ⟩ : ∃ Z, cellsN (List.replicate 19 0) = Z := ⟨_, rfl⟩
  have EZ := Lib.hid eZ
  have hmake : ∀ w : World, (Instr.makeSlice 144 (.int .i64 19) (.int .i64 19)).run Tryd.prog w = .ok (.slice (some ⟨w.heap.size, 0, none⟩) 19 19) (w.alloc (.cells Z 3)) := fun w => by
    rw [← eZ]
    exact make_nats 19 (by decide) w
  clear eZ
  have HLI := Lib.hid hl
  have HLO := Lib.hid hlo
  have HL := Lib.hid hL
  have HGW : Hid (0 < W.heap.size) := World.block_lt_of_cell? W _ (hl 0 (by decide))
  have HG := get_go W g L m s fx O 5 h (by decide) hL
  clear h hl hlo hL
  go_enter Tryd.func91, Tryd.ntmps91
  go_wp2_with fail
  go_at_call 69
  refine HG.mono ?_
  clear HG
  rintro e w1 (⟨a, u, O1, hs, rfl, h1, h2⟩ | ⟨k, hs, rfl, hp⟩)
  · obtain ⟨ha, rfl, _⟩ := get_said hs
    have ha : a ≤ 31 := by omega
    obtain ⟨N, eN⟩ : ∃ N, a + 257 = N := ⟨_, rfl⟩
    have EN := Lib.hid eN
    have iN : (a : Int) + 257 = (N : Int) := by omega
    have bN : N ≤ 288 := by omega
    clear eN
    have HS1 := Lib.hid hs
    have HW1 := Lib.hid h2
    have HG := get_go w1 g L m _ fx O1 5 h1 (by decide) HL.out
    clear hs h1 h2
    go_wp2_with fail
    go_at_call 69
    refine HG.mono ?_
    clear HG
    rintro e w2 (⟨b, u, O2, hs, rfl, h1, h2⟩ | ⟨k, hs, rfl, hp⟩)
    · obtain ⟨hb, rfl, _⟩ := get_said hs
      have hb : b ≤ 31 := by omega
      obtain ⟨M, eM⟩ : ∃ M, b + 1 = M := ⟨_, rfl⟩
      have EM := Lib.hid eM
      have iM : (b : Int) + 1 = (M : Int) := by omega
      have bM : M ≤ 32 := by omega
      clear eM
      have HS2 := Lib.hid hs
      have HW2 := Lib.hid (HW1.out.trans h2)
      have HG := get_go w2 g L m _ fx O2 4 h1 (by decide) HL.out
      clear hs h1 h2
      go_wp2_with fail
      go_at_call 69
      refine HG.mono ?_
      clear HG
      rintro e w3 (⟨k, u, O3, hs, rfl, h1, h2⟩ | ⟨k, hs, rfl, hp⟩)
      · obtain ⟨hk, rfl, _⟩ := get_said hs
        have hk : k ≤ 15 := by omega
        have HS3 := Lib.hid hs
        have HW3 := Lib.hid (HW2.out.trans h2)
        have HT3 := Lib.hid h1
        obtain ⟨J, eJ⟩ : ∃ J, k + 4 = J := ⟨_, rfl⟩
        have EJ := Lib.hid eJ
        have iJ : (k : Int) + 4 = (J : Int) := by omega
        have bJ : J ≤ 19 := by omega
        have HST := Lib.hid (own_start h1 HW3.out HLI.out HLO.out Z EZ.out)
        have HR0 : Hid (∀ r, Says ((ownFrom (J - 0) 0 (List.replicate 19 0)).bind fun own => (refuseW (286 < N ∨ 30 < M ∨ ¬ (newCds own).mayBe) 10).bind fun _ => (lengthsW (newCds own) (N + M)).bind fun ls =>
          (refuseW (ls.getD 256 0 = 0) 10).bind fun _ => (refuseW (¬ (newCds (ls.take N)).mayBe) 10).bind fun _ =>
          (refuseW (¬ (newCds (ls.drop N)).mayBe ∧ 0 < (newCds (ls.drop N)).syms.length) 10).bind fun _ => Way.pure (newCds (ls.take N), newCds (ls.drop N))) L m ⟨s.pos + 5 + 5 + 4, s.out⟩ r → Says ownPairW L m s r) := fun r h => by
          subst eJ
          rw [← EN.out, ← EM.out] at h
          exact Way.says_bind HS1.out (Way.says_bind HS2.out (Way.says_bind HS3.out h))
        obtain ⟨F, eF⟩ : ∃ F : List Nat → Way (Cds × Cds), (fun own => (refuseW (286 < N ∨ 30 < M ∨ ¬ (newCds own).mayBe) 10).bind fun _ => (lengthsW (newCds own) (N + M)).bind fun ls =>
          (refuseW (ls.getD 256 0 = 0) 10).bind fun _ => (refuseW (¬ (newCds (ls.take N)).mayBe) 10).bind fun _ =>
          (refuseW (¬ (newCds (ls.drop N)).mayBe ∧ 0 < (newCds (ls.drop N)).syms.length) 10).bind fun _ => Way.pure (newCds (ls.take N), newCds (ls.drop N))) = F := ⟨_, rfl⟩
        rw [eF] at HR0
        have EF := Lib.hid eF
        have H70 : Hid (∀ x ∈ (List.replicate 19 0 : List Nat), x ≤ 7) := by
          intro x hx
          have := List.eq_of_mem_replicate hx
          omega
        clear hs h1 h2 eJ eF
        go_wp2_with fail
        go_loopw [22] (fun u22 wr => ∃ (i : Nat) (t : St) (O' : Nat → Prop) (own : List Nat), i ≤ J ∧ u22 = .int .i64 i ∧ Hid (OwnAt W wr g L m t fx O O' w3.heap.size own) ∧ Hid (∀ r, Says ((ownFrom (J - i) i own).bind F) L m t r → Says ownPairW L m s r) ∧ Hid (own.length = 19) ∧ Hid (∀ x ∈ own, x ≤ 7)) (fun u22 _ => J - (intOf u22).toNat)
        case atStart => exact ⟨0, _, O3, List.replicate 19 0, Nat.zero_le _, rfl, HST, HR0, rfl, H70⟩
        case round =>
          obtain ⟨i, t, O', own, hi, rfl, hA, hR, h19, h7⟩ := hrel
          by_cases hij : i < J
          · have d1 : decide ((i : Int) < (J : Int)) = true := decide_eq_true (by omega)
            have d2 : decide (i < J) = true := decide_eq_true hij
            have hol := order_low i (by omega)
            have hg0 := hA.out.laid i (by omega)
            have HRB : Hid (∀ r, Says (((Way.get 3).bind fun x => ownFrom (J - (i + 1)) (i + 1) (own.set (order.getD i 0) x)).bind F) L m t r → Says ownPairW L m s r) := fun r h => hR.out r (by
              rw [show J - i = (J - (i + 1)) + 1 by omega]
              exact h)
            obtain ⟨q, eq⟩ : ∃ q, order.getD i 0 = q := ⟨_, rfl⟩
            have EQ := Lib.hid eq
            rw [eq] at hol hg0 HRB
            have HG := Lib.hid (get_go wr.drew g L m t fx O' 3 hA.out.drew.st (by decide) HL.out)
            have hi1 : (0 : Int) ≤ (i : Int) := by omega
            have hi2 : (i : Int) < 19 := by omega
            have hq1 : (0 : Int) ≤ (q : Int) := by omega
            have hq2 : (q : Int) < 19 := by omega
            clear eq
            go_wp2_with fail
            go_region_with (go_at_call 69; refine HG.out.mono ?_; rintro e w5 (⟨x, u, O5, hs, rfl, h1, h2⟩ | ⟨k, hs, rfl, hp⟩); rotate_left; (exact ⟨rfl, .inr ⟨k, HRB.out _ (Way.says_bind_err (Way.says_bind_err hs)), rfl, hA.out.went.on (past_drew hp)⟩⟩); obtain ⟨hx8, rfl, _⟩ := get_said hs; have hx8 : x ≤ 7 := (by omega); have HS5 := Lib.hid hs; have HA5 := Lib.hid (hA.out.drew.next h1 h2); have hg5 := HA5.out.laid i (by omega); rw [EQ.out] at hg5; have qy := (cell_of_block HA5.out.row q).trans (cellsN_get _ q (by rw [h19.out]; exact hol)); have fy := unfrozen_of_block HA5.out.row q; clear hs h1 h2)
            all_goals go_wp2_with fail
            all_goals (refine ⟨⟨i + 1, _, O5, own.set q x, by omega, by go_num, HA5.out.set HGW.out q x, fun r h => HRB.out r (says_bind2 HS5.out h), ?_, ?_⟩, by simp [intOf]; omega⟩)
            all_goals first
              | (show _ = _
                 rw [List.length_set]
                 exact h19.out)
              | (intro y hy
                 rcases List.mem_or_eq_of_mem_set hy with h | h
                 · exact h7.out y h
                 · omega)
          · have hij2 : i = J := by omega
            have d1 : decide ((i : Int) < (J : Int)) = false := decide_eq_false (by omega)
            have d2 : decide (i < J) = false := decide_eq_false hij
            have HR1 : Hid (∀ r, Says (F own) L m t r → Says ownPairW L m s r) := fun r h => hR.out r (by
              rw [hij2, Nat.sub_self]
              exact Way.says_bind (Way.says_pure own) h)
            have HLO' : Hid (listed natVal wr (.slice (some ⟨w3.heap.size, 0, none⟩) 19 19) own) := by
              have h9 := listed_cells hA.out.row (n := 19) h19.out
              exact h9
            have KN := newCodes_any (.slice (some ⟨w3.heap.size, 0, none⟩) 19 19) own wr HLO'.out (fun x hx => by have := h7.out x hx; omega) (by rw [h19.out]; decide)
            clear hR hij2 hij hi
            go_wp2_with fail
            go_at_call 98
            refine KN.mono ?_
            clear KN
            rintro e w5 ⟨v5, rfl, h1, h2, h3, h4⟩
            have hi108 : (Tryd.prog.info? 161).map (·.size) = some 17 := by kernel_rfl
            have hA1s : (cellsC (countsOf own) v5).size = 17 := by rw [cellsC_size, counts_length]
            have hA1o := cellsC_one (countsOf own) v5 h3
            have hbw : Below wr.heap.size wr (w5.alloc (.cells (cellsC (countsOf own) v5) 161)) := h4.alloc h4.size _
            have HB6 := Lib.hid hbw
            have HC6 := Lib.hid (box_codes (cs := countsOf own) (c := newCds own) rfl (counts_length own) h1)
            have HN5 := Lib.hid h2
            have HSW := Lib.hid h4.size
            have hS6 := Lib.hid (isS_keep hA.out.st hbw.size (fun k hk => hbw.block k (isS_lt hA.out.st k hk)))
            have hW6 : Hid (WentOn O O' W (w5.alloc (.cells (cellsC (countsOf own) v5) 161))) := hA.out.went.trans ⟨fun b hb => .inl hb, Past.of_below hbw⟩
            have HKO : Hid (∀ k, (k = w5.heap.size ∨ inBlock v5 k) → ¬ O' k) := fun k hk ho => by
              have h9 := isS_lt hA.out.st k ho
              rcases hk with rfl | hk
              · have := HSW.out; omega
              · have := HN5.out k hk; omega
            obtain ⟨A1, eA1⟩ : ∃ A1, cellsC (countsOf own) v5 = A1 := ⟨_, rfl⟩
            rw [eA1] at hA1s hA1o HB6 HC6 hS6 hW6 ⊢
            have HI := Lib.hid hi108
            have HA1S := Lib.hid hA1s
            have HA1O := Lib.hid hA1o
            have HFI := Lib.hid (newCds_fit own (by rw [h19.out]; decide))
            have HSYM : Hid (∀ x ∈ (newCds own).syms, x < 19) := fun x hx => by have := newCds_below own x hx; rw [h19.out] at this; exact this
            have hR2 : Hid (∀ r, Says ((refuseW (286 < N ∨ 30 < M ∨ ¬ (newCds own).mayBe) 10).bind fun _ => (lengthsW (newCds own) (N + M)).bind fun ls =>
              (refuseW (ls.getD 256 0 = 0) 10).bind fun _ => (refuseW (¬ (newCds (ls.take N)).mayBe) 10).bind fun _ =>
              (refuseW (¬ (newCds (ls.drop N)).mayBe ∧ 0 < (newCds (ls.drop N)).syms.length) 10).bind fun _ => Way.pure (newCds (ls.take N), newCds (ls.drop N))) L m t r → Says ownPairW L m s r) := fun r h => HR1.out r (by
                rw [← EF.out]
                exact h)
            have KM := Lib.hid (mayBe_code (w5.alloc (.cells A1 161)) w5.heap.size 0 (newCds own) _ HC6.out HFI.out)
            clear h1 h2 h3 h4 hi108 hA1s hA1o hbw eA1 hmake
            by_cases hN : 286 < N
            · have e1 : decide ((286 : Int) < (N : Int)) = true := decide_eq_true (by omega)
              have e2 : decide (286 < N) = true := decide_eq_true hN
              have HE := hR2.out _ (Way.says_bind_err (refuse_fails (.inl hN)))
              go_wp2_with (refine wpList_store_agg rfl 161 _ _ rfl ⟨w5.heap.size, 0, none⟩ rfl (.agg A1) rfl (run_storeVar_new w5 161 _ A1 (by rw [HA1S.out]; exact HI.out) (by rw [HA1S.out]; rfl) HA1O.out) ?_)
              go_at_call 87
              refine (refuse_yes 10 _).mono ?_
              rintro e w7 ⟨rfl, rfl⟩
              go_wp2_with fail
              exact ⟨rfl, .inr ⟨10, HE, rfl, hW6.out.past⟩⟩
            · have e1 : decide ((286 : Int) < (N : Int)) = false := decide_eq_false (by omega)
              have e2 : decide (286 < N) = false := decide_eq_false hN
              by_cases hM : 30 < M
              · have e3 : decide ((30 : Int) < (M : Int)) = true := decide_eq_true (by omega)
                have e4 : decide (30 < M) = true := decide_eq_true hM
                have HE := hR2.out _ (Way.says_bind_err (refuse_fails (.inr (.inl hM))))
                go_wp2_with (refine wpList_store_agg rfl 161 _ _ rfl ⟨w5.heap.size, 0, none⟩ rfl (.agg A1) rfl (run_storeVar_new w5 161 _ A1 (by rw [HA1S.out]; exact HI.out) (by rw [HA1S.out]; rfl) HA1O.out) ?_)
                go_at_call 87
                refine (refuse_yes 10 _).mono ?_
                rintro e w7 ⟨rfl, rfl⟩
                go_wp2_with fail
                exact ⟨rfl, .inr ⟨10, HE, rfl, hW6.out.past⟩⟩
              · have e3 : decide ((30 : Int) < (M : Int)) = false := decide_eq_false (by omega)
                have e4 : decide (30 < M) = false := decide_eq_false hM
                by_cases hmb : (newCds own).mayBe
                · have KM1 := KM.out
                  rw [decide_eq_true hmb] at KM1
                  have HRF := Lib.hid (refuse_said (c := 286 < N ∨ 30 < M ∨ ¬ (newCds own).mayBe) (e := 10) (L := L) (m := m) (s := t) (fun h => h.elim hN (fun h => h.elim hM (fun h => h hmb))))
                  have KL := lengths_go (w5.alloc (.cells A1 161)) g L m t fx O' w5.heap.size 0 (newCds own) _ (N + M) hS6.out HC6.out HKO.out HFI.out HSYM.out (by omega) HL.out
                  have iNM : (N : Int) + (M : Int) = ((N + M : Nat) : Int) := by omega
                  obtain ⟨X, eX⟩ : ∃ X, N + M = X := ⟨_, rfl⟩
                  have EX := Lib.hid eX
                  rw [eX] at iNM KL
                  have bX : X ≤ 400 := by omega
                  clear KM hmb eX
                  go_wp2_with (first | (refine wpList_store_agg rfl 161 _ _ rfl ⟨w5.heap.size, 0, none⟩ rfl (.agg A1) rfl (run_storeVar_new w5 161 _ A1 (by rw [HA1S.out]; exact HI.out) (by rw [HA1S.out]; rfl) HA1O.out) ?_) | (go_at_call 103; refine KM1.mono ?_; rintro e w7 ⟨rfl, rfl⟩))
                  go_at_call 87
                  refine (refuse_no _ _).mono ?_
                  rintro e w7 ⟨rfl, rfl⟩
                  go_wp2_with fail
                  go_at_call 104
                  refine KL.mono ?_
                  clear KL
                  rintro e w7 (⟨ls, t2, O2', lv, hs, rfl, h1, h2, h3, h4, h5, h6⟩ | ⟨k, hs, rfl, hp⟩)
                  · have hW7 := Lib.hid (hW6.out.trans h6)
                    have hbM : 0 < M := by have := EM.out; omega
                    have hN0 : 0 < N := by have := EN.out; omega
                    have hN2 : N < ls.length := by have := EX.out; omega
                    obtain ⟨lb, lo, lc, rfl, hlc, c1, d1, c2, d2⟩ := cuts h1 N hN0 hN2
                    obtain ⟨y, ey⟩ : ∃ y, ls[256]? = some y := ⟨ls[256]'(by have := EN.out; omega), List.getElem?_eq_getElem _⟩
                    obtain ⟨vb, vof, vcap, ev, hvlt, hcell⟩ := listed_cell h1 256 y ey
                    simp only [Value.slice.injEq, Option.some.injEq, Addr.mk.injEq] at ev
                    obtain ⟨⟨rfl, rfl, _⟩, _, rfl⟩ := ev
                    unfold natVal at hcell
                    have HGD : Hid (ls.getD 256 0 = y) := by
                      show _ = _
                      rw [List.getD_eq_getElem?_getD, ey]
                      rfl
                    rw [h3] at c1 c2 d2 ⊢
                    have C1 := Lib.hid c1
                    have C2 := Lib.hid c2
                    have D1 := Lib.hid d1
                    have D2 := Lib.hid d2
                    have HSL := Lib.hid hs
                    have H15 := Lib.hid h4
                    have HS7 := Lib.hid h5
                    have HX257 : 257 ≤ X := by omega
                    have hR3 : Hid (∀ r, Says ((refuseW (ls.getD 256 0 = 0) 10).bind fun _ => (refuseW (¬ (newCds (ls.take N)).mayBe) 10).bind fun _ =>
                      (refuseW (¬ (newCds (ls.drop N)).mayBe ∧ 0 < (newCds (ls.drop N)).syms.length) 10).bind fun _ => Way.pure (newCds (ls.take N), newCds (ls.drop N))) L m t2 r → Says ownPairW L m s r) := fun r h => hR2.out r (Way.says_bind HRF.out (Way.says_bind (by rw [EX.out]; exact hs) h))
                    have HLX : Hid (ls.length = X) := h3
                    clear h1 h2 h3 h4 h5 h6 hs c1 c2 d1 d2 ey hN2 hlc
                    by_cases hy0 : y = 0
                    · have f0 : ((y : Int) == 0) = true := by simp; omega
                      have g0 : decide ((y : Int) = 0) = true := decide_eq_true (by omega)
                      have HE := hR3.out _ (Way.says_bind_err (refuse_fails (by rw [HGD.out]; exact hy0)))
                      clear hy0
                      go_wp2_with fail
                      go_at_call 87
                      refine (refuse_yes 10 _).mono ?_
                      rintro e w8 ⟨rfl, rfl⟩
                      go_wp2_with fail
                      exact ⟨rfl, .inr ⟨10, HE, rfl, hW7.out.past⟩⟩
                    · have f0 : ((y : Int) == 0) = false := by simp; omega
                      have g0 : decide ((y : Int) = 0) = false := decide_eq_false (by omega)
                      have HY0 : Hid (¬ ls.getD 256 0 = 0) := by rw [HGD.out]; exact hy0
                      clear hy0
                      go_wp2_with fail
                      go_at_call 87
                      refine (refuse_no _ _).mono ?_
                      rintro e w8 ⟨rfl, rfl⟩
                      go_wp2_with fail
                      have hl400 : ls.length ≤ 400 := by rw [HLX.out]; exact bX
                      have KN1 : Hid (∀ w', Below w7.heap.size w7 w' → Calls Tryd.prog 98 #[.slice (some ⟨lb, lo, none⟩) N lc] w' fun e w'' => ∃ v, e = .returned (.agg (cellsC (countsOf (ls.take N)) v)) ∧ listed natVal w'' v (newCds (ls.take N)).syms ∧ (∀ b, inBlock v b → w'.heap.size ≤ b) ∧ v.oneCell' = true ∧ Below w'.heap.size w' w'') := fun w' hb =>
                        newCodes_any _ (ls.take N) w' (listed_on D1.out hb) (fun l hl => H15.out l (List.mem_of_mem_take hl)) (by rw [List.length_take]; omega)
                      have KN2 : Hid (∀ w', Below w7.heap.size w7 w' → Calls Tryd.prog 98 #[.slice (some ⟨lb, lo + N, none⟩) (X - N) (lc - N)] w' fun e w'' => ∃ v, e = .returned (.agg (cellsC (countsOf (ls.drop N)) v)) ∧ listed natVal w'' v (newCds (ls.drop N)).syms ∧ (∀ b, inBlock v b → w'.heap.size ≤ b) ∧ v.oneCell' = true ∧ Below w'.heap.size w' w'') := fun w' hb =>
                        newCodes_any _ (ls.drop N) w' (listed_on D2.out hb) (fun l hl => H15.out l (List.mem_of_mem_drop hl)) (by rw [List.length_drop]; omega)
                      refine wp_region_held_drew (S := fun w' => Below w7.heap.size w7 w') (by kernel_rfl) (Below.refl _ _).drew (fun hS => ?_)
                      refine wpAnyH_take (i := 0) (v := .slice (some ⟨lb, lo, none⟩) X lc) rfl (by kernel_rfl) (by kernel_rfl) (by kernel_rfl) (fun _ _ _ h => h) (.inl ⟨rfl, fun w' hS' => ?_⟩) hS ?_
                      · go_simp
                      refine wpAnyH_take (i := 1) (v := .int .i64 (N : Int)) rfl (by kernel_rfl) (by kernel_rfl) (by kernel_rfl) (fun _ _ _ h => h) (.inl ⟨rfl, fun w' hS' => ?_⟩) hS ?_
                      · go_simp
                      refine wpAnyH_take (i := 2) (v := .slice (some ⟨lb, lo, none⟩) N lc) rfl (by kernel_rfl) (by kernel_rfl) (by kernel_rfl) (fun _ _ _ h => h) (.inl ⟨rfl, fun w' hS' => ?_⟩) hS ?_
                      · exact yield_slice 144 Tryd.underlying144 _ _ _ rfl _ _ _ _ (by simp [Act.eval, Act.put]) rfl (by simp [Act.eval, Act.put]) (C1.out w')
                      refine wpAnyH_take (i := 4) (v := .slice (some ⟨lb, lo, none⟩) X lc) rfl (by kernel_rfl) (by kernel_rfl) (by kernel_rfl) (fun _ _ _ h => h) (.inl ⟨rfl, fun w' hS' => ?_⟩) hS ?_
                      · go_simp
                      refine wpAnyH_take (i := 5) (v := .int .i64 (N : Int)) rfl (by kernel_rfl) (by kernel_rfl) (by kernel_rfl) (fun _ _ _ h => h) (.inl ⟨rfl, fun w' hS' => ?_⟩) hS ?_
                      · go_simp
                      refine wpAnyH_take (i := 6) (v := .slice (some ⟨lb, lo + N, none⟩) (X - N) (lc - N)) rfl (by kernel_rfl) (by kernel_rfl) (by kernel_rfl) (fun _ _ _ h => h) (.inl ⟨rfl, fun w' hS' => ?_⟩) hS ?_
                      · exact yield_slice 144 Tryd.underlying144 _ _ _ rfl _ _ _ _ (by simp [Act.eval, Act.put]) (by simp [Act.eval, Act.put]) rfl (C2.out w')
                      refine wpAnyH_ready (rs := [3]) (by kernel_rfl) (by simp) (AllReadyH.cons rfl (fun K' hK => ?_) AllReadyH.nil)
                      go_simp
                      go_at_call 98
                      refine (KN1.out _ hS).mono ?_
                      rintro e w8 ⟨v8, rfl, h1, h2, h3, h4⟩
                      have hS8 : Below w7.heap.size w7 w8 := hS.trans (h4.mono hS.size)
                      have HS8 := Lib.hid h1
                      have HN8 := Lib.hid h2
                      clear h1 h2 h3 h4
                      refine hK.out _ _ hS8 (fun _ => ?_)
                      refine wpAnyH_ready (rs := [7]) (by kernel_rfl) (by simp) (AllReadyH.cons rfl (fun K' hK => ?_) AllReadyH.nil)
                      go_simp
                      go_at_call 98
                      refine (KN2.out _ hS8).mono ?_
                      rintro e w9 ⟨v9, rfl, h1, h2, h3, h4⟩
                      have hS9 : Below w7.heap.size w7 w9 := hS8.trans (h4.mono hS8.size)
                      have HS9 := Lib.hid h1
                      have HN9 := Lib.hid h2
                      have HB89 := Lib.hid h4
                      clear h1 h2 h3 h4
                      have hbuild : ∀ w, (Instr.build 164 #[(0, .agg (cellsC (countsOf (ls.take N)) v8)), (1, .agg (cellsC (countsOf (ls.drop N)) v9))]).run Tryd.prog w = .ok (.agg (cellsC (countsOf (ls.take N)) v8 ++ cellsC (countsOf (ls.drop N)) v9)) w := fun w =>
                        run_build w 164 _ _ (pair_built (countsOf (ls.take N)) (countsOf (ls.drop N)) v8 v9 (counts_length _) (counts_length _))
                      obtain ⟨A2, eA2⟩ : ∃ A2, cellsC (countsOf (ls.take N)) v8 = A2 := ⟨_, rfl⟩
                      have EA2 := Lib.hid eA2
                      obtain ⟨A3, eA3⟩ : ∃ A3, cellsC (countsOf (ls.drop N)) v9 = A3 := ⟨_, rfl⟩
                      have EA3 := Lib.hid eA3
                      rw [eA2, eA3] at hbuild
                      rw [eA2, eA3]
                      obtain ⟨A4, eA4⟩ : ∃ A4, A2 ++ A3 = A4 := ⟨_, rfl⟩
                      have EA4 := Lib.hid eA4
                      rw [eA4] at hbuild
                      clear eA2 eA3 eA4
                      refine hK.out _ _ hS9 (fun _ => ?_)
                      refine wpAnyH_ready (rs := [8]) (by kernel_rfl) (by simp) (AllReadyH.cons rfl (fun K' hK => ?_) AllReadyH.nil)
                      rw [if_pos (by rfl)]
                      refine wp_build_run 164 _ rfl A4 #[(0, .agg A2), (1, .agg A3)] (by simp [Act.eval]) (hbuild w9) ?_
                      refine hK.out _ _ hS9 (fun _ => ?_)
                      refine wpAnyH_ready (rs := [9]) (by kernel_rfl) (by simp) (AllReadyH.cons rfl (fun K' hK => ?_) AllReadyH.nil)
                      go_simp
                      refine hK.out _ _ (hS9.alloc hS9.size _) (fun hS10 => ?_)
                      refine wpAnyH_ready (rs := [10]) (by kernel_rfl) (by simp) (AllReadyH.cons rfl (fun K' hK => ?_) AllReadyH.nil)
                      go_simp
                      refine hK.out _ _ hS10 (fun _ => ?_)
                      refine wpAnyH_done (by kernel_rfl) ?_ _
                      have HS10 := Lib.hid hS10
                      have hnew := heap_alloc_new w9 (.cells A4 164)
                      have hA4 : A4 = cellsC (newCds (ls.take N)).counts v8 ++ cellsC (newCds (ls.drop N)).counts v9 := by
                        rw [← EA4.out, ← EA2.out, ← EA3.out]
                        rfl
                      have hl1 : listed natVal (w9.alloc (.cells A4 164)) v8 (newCds (ls.take N)).syms := listed_on (listed_on HS8.out HB89.out) (((Below.refl _ _).alloc (Nat.le_refl _) _) : Below w9.heap.size w9 _)
                      have hl2 : listed natVal (w9.alloc (.cells A4 164)) v9 (newCds (ls.drop N)).syms := listed_on HS9.out (((Below.refl _ _).alloc (Nat.le_refl _) _) : Below w9.heap.size w9 _)
                      have hsz : (w9.alloc (.cells A4 164)).heap.size = w9.heap.size + 1 := by
                        show (w9.heap.push _).size = _
                        simp
                      have hP := pair_is (c1 := newCds (ls.take N)) (c2 := newCds (ls.drop N)) (v1 := v8) (v2 := v9) (t := 164) (fr := (0, 0)) (by rw [← hA4]; exact hnew) (counts_length _) (counts_length _) hl1 hl2 (fun k => w7.heap.size ≤ k ∧ k < (w9.alloc (.cells A4 164)).heap.size) ⟨hS9.size, by rw [hsz]; omega⟩ (fun k hk => ⟨Nat.le_trans hS.size (HN8.out k hk), inBlock_low hl1 hk⟩) (fun k hk => ⟨Nat.le_trans hS8.size (HN9.out k hk), inBlock_low hl2 hk⟩)
                      have HP := Lib.hid hP
                      have hst := Lib.hid (isS_keep HS7.out hS10.size (fun k hk => hS10.block k (isS_lt HS7.out k hk)))
                      have HDJ : Hid (∀ k, (w7.heap.size ≤ k ∧ k < (w9.alloc (.cells A4 164)).heap.size) → ¬ O2' k ∧ k < (w9.alloc (.cells A4 164)).heap.size) := fun k hk => ⟨fun ho => by have := isS_lt HS7.out k ho; omega, hk.2⟩
                      have HW10 : Hid (WentOn O O2' W (w9.alloc (.cells A4 164))) := hW7.out.trans ⟨fun b hb => .inl hb, Past.of_below hS10⟩
                      have HF1 := Lib.hid (newCds_fit (ls.take N) (by rw [List.length_take]; omega))
                      have HF2 := Lib.hid (newCds_fit (ls.drop N) (by rw [List.length_drop]; omega))
                      obtain ⟨w10, ew10⟩ : ∃ w10, w9.alloc (.cells A4 164) = w10 := ⟨_, rfl⟩
                      rw [ew10] at HS10 HP hst HDJ HW10 ⊢
                      obtain ⟨b9, eb9⟩ : ∃ b9, w9.heap.size = b9 := ⟨_, rfl⟩
                      rw [eb9] at HP ⊢
                      clear hnew hA4 hl1 hl2 hsz hP hS hS8 hS9 hS10 hbuild ew10 eb9 hK
                      obtain ⟨K1, hc1, hk1⟩ := HP.out.fst
                      obtain ⟨K2, hc2, hk2⟩ := HP.out.snd
                      have KM1 := mayBe_code w10 b9 0 (newCds (ls.take N)) K1 hc1 HF1.out
                      have KM2 := mayBe_code w10 b9 17 (newCds (ls.drop N)) K2 hc2 HF2.out
                      obtain ⟨v3, hv3⟩ := hc2
                      have q33 := hv3.list
                      obtain ⟨o3, cap3, rfl⟩ := listed_length hv3.syms
                      obtain ⟨n3, en3⟩ : ∃ n3, (newCds (ls.drop N)).syms.length = n3 := ⟨_, rfl⟩
                      have EN3 := Lib.hid en3
                      rw [en3] at q33
                      have HRY := Lib.hid (refuse_said (e := 10) (L := L) (m := m) (s := t2) HY0.out)
                      clear hc1 hv3 en3 hk1 hk2
                      by_cases hm1 : (newCds (ls.take N)).mayBe
                      · rw [decide_eq_true hm1] at KM1
                        have HR1Y := Lib.hid (refuse_said (c := ¬ (newCds (ls.take N)).mayBe) (e := 10) (L := L) (m := m) (s := t2) (fun h => h hm1))
                        clear hm1
                        by_cases hm2 : (newCds (ls.drop N)).mayBe
                        · rw [decide_eq_true hm2] at KM2
                          have HE := Lib.hid (hR3.out _ (Way.says_bind HRY.out (Way.says_bind HR1Y.out (Way.says_bind (refuse_said (fun h => h.1 hm2)) (Way.says_pure _)))))
                          clear hm2
                          go_wp2_with fail
                          go_at_call 103
                          refine KM1.mono ?_
                          rintro e w11 ⟨rfl, rfl⟩
                          go_wp2_with fail
                          go_at_call 87
                          refine (refuse_no _ _).mono ?_
                          rintro e w11 ⟨rfl, rfl⟩
                          go_wp2_with fail
                          go_at_call 103
                          refine KM2.mono ?_
                          rintro e w11 ⟨rfl, rfl⟩
                          go_wp2_with fail
                          go_at_call 87
                          refine (refuse_no _ _).mono ?_
                          rintro e w11 ⟨rfl, rfl⟩
                          go_wp2_with fail
                          go_ret
                          exact .inl ⟨_, t2, O2', b9, _, HE.out, rfl, HP.out, HDJ.out, HF1.out, HF2.out, hst.out, HW10.out⟩
                        · rw [decide_eq_false hm2] at KM2
                          by_cases hn3 : 0 < n3
                          · have f1 : decide ((0 : Int) < (n3 : Int)) = true := decide_eq_true (by omega)
                            have f2 : decide (0 < n3) = true := decide_eq_true hn3
                            have HE := Lib.hid (hR3.out _ (Way.says_bind HRY.out (Way.says_bind HR1Y.out (Way.says_bind_err (refuse_fails ⟨hm2, by rw [EN3.out]; exact hn3⟩)))))
                            clear hm2
                            go_wp2_with fail
                            go_at_call 103
                            refine KM1.mono ?_
                            rintro e w11 ⟨rfl, rfl⟩
                            go_wp2_with fail
                            go_at_call 87
                            refine (refuse_no _ _).mono ?_
                            rintro e w11 ⟨rfl, rfl⟩
                            go_wp2_with fail
                            go_at_call 103
                            refine KM2.mono ?_
                            rintro e w11 ⟨rfl, rfl⟩
                            go_wp2_with fail
                            go_at_call 87
                            refine (refuse_yes 10 _).mono ?_
                            rintro e w11 ⟨rfl, rfl⟩
                            go_wp2_with fail
                            exact ⟨rfl, .inr ⟨10, HE.out, rfl, HW10.out.past⟩⟩
                          · have f1 : decide ((0 : Int) < (n3 : Int)) = false := decide_eq_false (by omega)
                            have f2 : decide (0 < n3) = false := decide_eq_false hn3
                            have HE := Lib.hid (hR3.out _ (Way.says_bind HRY.out (Way.says_bind HR1Y.out (Way.says_bind (refuse_said (fun h => hn3 (by have := h.2; rw [EN3.out] at this; exact this))) (Way.says_pure _)))))
                            clear hm2
                            go_wp2_with fail
                            go_at_call 103
                            refine KM1.mono ?_
                            rintro e w11 ⟨rfl, rfl⟩
                            go_wp2_with fail
                            go_at_call 87
                            refine (refuse_no _ _).mono ?_
                            rintro e w11 ⟨rfl, rfl⟩
                            go_wp2_with fail
                            go_at_call 103
                            refine KM2.mono ?_
                            rintro e w11 ⟨rfl, rfl⟩
                            go_wp2_with fail
                            go_at_call 87
                            refine (refuse_no _ _).mono ?_
                            rintro e w11 ⟨rfl, rfl⟩
                            go_wp2_with fail
                            go_ret
                            exact .inl ⟨_, t2, O2', b9, _, HE.out, rfl, HP.out, HDJ.out, HF1.out, HF2.out, hst.out, HW10.out⟩
                      · rw [decide_eq_false hm1] at KM1
                        have HE := Lib.hid (hR3.out _ (Way.says_bind HRY.out (Way.says_bind_err (refuse_fails hm1))))
                        clear hm1
                        go_wp2_with fail
                        go_at_call 103
                        refine KM1.mono ?_
                        rintro e w11 ⟨rfl, rfl⟩
                        go_wp2_with fail
                        go_at_call 87
                        refine (refuse_yes 10 _).mono ?_
                        rintro e w11 ⟨rfl, rfl⟩
                        go_wp2_with fail
                        exact ⟨rfl, .inr ⟨10, HE.out, rfl, HW10.out.past⟩⟩
                  · have HE := hR2.out _ (Way.says_bind HRF.out (Way.says_bind_err (by rw [EX.out]; exact hs)))
                    go_wp2_with fail
                    exact ⟨rfl, .inr ⟨k, HE, rfl, hW6.out.on hp⟩⟩
                · have KM1 := KM.out
                  rw [decide_eq_false hmb] at KM1
                  have HE := hR2.out _ (Way.says_bind_err (refuse_fails (.inr (.inr hmb))))
                  clear KM hmb
                  go_wp2_with (first | (refine wpList_store_agg rfl 161 _ _ rfl ⟨w5.heap.size, 0, none⟩ rfl (.agg A1) rfl (run_storeVar_new w5 161 _ A1 (by rw [HA1S.out]; exact HI.out) (by rw [HA1S.out]; rfl) HA1O.out) ?_) | (go_at_call 103; refine KM1.mono ?_; rintro e w7 ⟨rfl, rfl⟩))
                  go_at_call 87
                  refine (refuse_yes 10 _).mono ?_
                  rintro e w7 ⟨rfl, rfl⟩
                  go_wp2_with fail
                  exact ⟨rfl, .inr ⟨10, HE, rfl, hW6.out.past⟩⟩
      · go_wp2_with fail
        exact ⟨rfl, .inr ⟨k, Way.says_bind HS1.out (Way.says_bind HS2.out (Way.says_bind_err hs)), rfl, HW2.out.on hp⟩⟩
    · go_wp2_with fail
      exact ⟨rfl, .inr ⟨k, Way.says_bind HS1.out (Way.says_bind_err hs), rfl, HW1.out.on hp⟩⟩
  · go_wp2_with fail
    exact ⟨rfl, .inr ⟨k, Way.says_bind_err hs, rfl, hp⟩⟩
end Go.Proofs.YtbfpbmnnlckldaaDoor.Fx
