/-
  Codes of lengths, made, as landed. The conditions stand in each.
  Whether lengths may be; rows of numbers that grow; the fixed codes, as landed. The conditions stand in each.
  Lengths of codes, got by their own codes, as landed. The conditions stand in each.
-/
import Derived.Deep.WholeRow
import Derived.Test.YtbfpbmnnlckldaaDoorInfG
namespace Go.Proofs.YtbfpbmnnlckldaaDoor.Fx
open Go Go.RowKit Go.Joins
set_option linter.unusedVariables false
/-! ### Cells -/
def cellsN (cs : List Nat) : Array Value := (cs.map natVal).toArray
def cellsC (cs : List Nat) (v : Value) : Array Value := (cs.map natVal ++ [v]).toArray
theorem cellsN_size (cs : List Nat) : (cellsN cs).size = cs.length := by simp [cellsN]
theorem cellsN_get (cs : List Nat) (l : Nat) (h : l < cs.length) : (cellsN cs)[l]? = some (.int .i64 (cs.getD l 0 : Nat)) := by
  simp [cellsN, h, natVal]
theorem cellsN_set (cs : List Nat) (l x : Nat) : (cellsN cs).setIfInBounds l (.int .i64 (x : Int)) = cellsN (cs.set l x) := by
  unfold cellsN
  rw [List.map_set, List.setIfInBounds_toArray]
  rfl
theorem cellsC_size (cs : List Nat) (v : Value) : (cellsC cs v).size = cs.length + 1 := by simp [cellsC]
theorem cellsC_get (cs : List Nat) (v : Value) (l : Nat) (h : l < cs.length) : (cellsC cs v)[l]? = some (.int .i64 (cs.getD l 0 : Nat)) := by
  simp [cellsC, List.getElem?_append, h, natVal]
theorem cellsC_last (cs : List Nat) (v : Value) (l : Nat) (h : l = cs.length) : (cellsC cs v)[l]? = some v := by
  subst h
  simp [cellsC]
theorem cellsC_set (cs : List Nat) (v : Value) (l x : Nat) (h : l < cs.length) : (cellsC cs v).setIfInBounds l (.int .i64 (x : Int)) = cellsC (cs.set l x) v := by
  unfold cellsC
  rw [List.map_set, List.setIfInBounds_toArray, List.set_append_left _ _ (by simpa using h)]
  rfl
theorem cellsC_put (cs : List Nat) (v u : Value) (l : Nat) (h : l = cs.length) : (cellsC cs v).setIfInBounds l u = cellsC cs u := by
  subst h
  unfold cellsC
  rw [List.setIfInBounds_toArray, List.set_append_right _ _ (by simp)]
  simp
theorem cellsC_one (cs : List Nat) (v : Value) (hv : v.oneCell' = true) : (cellsC cs v).all (·.oneCell') = true := by
  rw [Array.all_eq_true_iff_forall_mem]
  intro x hx
  have : x ∈ cs.map natVal ++ [v] := by simpa [cellsC] using hx
  rcases List.mem_append.1 this with h | h
  · obtain ⟨y, _, rfl⟩ := List.mem_map.1 h
    rfl
  · obtain rfl := List.mem_singleton.1 h
    exact hv
/-- The counts of the first i lengths. -/
def partOfI (ls : List Nat) (i : Nat) : List Nat := (ls.take i).foldl (fun c l => c.set l (c.getD l 0 + 1)) (List.replicate 16 0)
theorem partOf_length (ls : List Nat) (i : Nat) : (partOfI ls i).length = 16 := by
  have : ∀ (ls c : List Nat), (ls.foldl (fun c l => c.set l (c.getD l 0 + 1)) c).length = c.length := by
    intro ls
    induction ls with
    | nil => intro c; rfl
    | cons l ls ih =>
      intro c
      rw [List.foldl_cons, ih, List.length_set]
  unfold partOfI
  rw [this, List.length_replicate]
theorem partOf_next (ls : List Nat) (i l : Nat) (h : ls[i]? = some l) : partOfI ls (i + 1) = (partOfI ls i).set l ((partOfI ls i).getD l 0 + 1) := by
  unfold partOfI
  rw [List.take_add_one, h, List.foldl_append]
  rfl
theorem partOf_all (ls : List Nat) (i : Nat) (h : ls.length ≤ i) : (partOfI ls i).set 0 0 = countsOf ls := by
  unfold partOfI countsOf
  rw [List.take_of_length_le h]
theorem partOf_low (ls : List Nat) (i l : Nat) : (partOfI ls i).getD l 0 ≤ i := by
  induction i generalizing l with
  | zero =>
    unfold partOfI
    rw [List.take_zero, List.foldl_nil, List.getD_eq_getElem?_getD, List.getElem?_replicate]
    split <;> simp
  | succ i ih =>
    cases h : ls[i]? with
    | none =>
      have : partOfI ls (i + 1) = partOfI ls i := by
        unfold partOfI
        rw [List.take_add_one, h]
        simp
      rw [this]
      exact Nat.le_succ_of_le (ih l)
    | some x =>
      rw [partOf_next ls i x h, getD_set]
      split
      · rename_i hh
        have := ih x
        omega
      · exact Nat.le_succ_of_le (ih l)
/-- Where the lengths below i begin, the others at nought. -/
def preOf (cs : List Nat) (i : Nat) : List Nat := (List.range 16).map fun l => if l < i then (cs.take l).sum else 0
theorem preOf_length (cs : List Nat) (i : Nat) : (preOf cs i).length = 16 := by simp [preOf]
theorem preOf_zero (cs : List Nat) : preOf cs 0 = List.replicate 16 0 := by simp [preOf]; decide
theorem preOf_all (cs : List Nat) : preOf cs 16 = placesOf cs := by
  unfold preOf placesOf
  refine List.map_congr_left fun l hl => ?_
  rw [if_pos (List.mem_range.1 hl)]
theorem preOf_next (cs : List Nat) (i : Nat) (h : i < 16) : preOf cs (i + 1) = (preOf cs i).set i (cs.take i).sum := by
  apply List.ext_getElem
  · simp [preOf]
  · intro l h1 h2
    rw [List.getElem_set]
    simp only [preOf, List.getElem_map, List.getElem_range]
    by_cases e : i = l
    · subst e
      rw [if_pos rfl, if_pos (by omega)]
    · rw [if_neg e]
      by_cases h3 : l < i
      · rw [if_pos h3, if_pos (by omega)]
      · rw [if_neg h3, if_neg (by omega)]
theorem set_new2 {w : World} {g : Nat} {cs : Array Value} {t : TypeId} (h : w.heap[g]? = some (.cells cs t (0, 0))) (j : Nat) (v : Value) : (w.setCell ⟨g, j, none⟩ v).heap[g]? = some (.cells (cs.setIfInBounds j v) t (0, 0)) := block_setCell h v
/-- The memory of a call at work: the codes so far, its result's place. -/
structure NC (W wr : World) (cs : List Nat) (v : Value) : Prop where
  c : wr.heap[W.heap.size + 1]? = some (.cells (cellsC cs v) 161 (0, 0))
  res : wr.heap[W.heap.size]? = some (.cells (cellsC (List.replicate 16 0) (.slice none 0 0)) 161 (0, 0))
  below : Below W.heap.size W wr
theorem NC.lt {W wr : World} {cs : List Nat} {v : Value} (h : NC W wr cs v) : W.heap.size + 1 < wr.heap.size := (Array.getElem?_eq_some_iff.1 h.c).1
theorem NC.set {W wr : World} {cs : List Nat} {v : Value} (h : NC W wr cs v) (l x : Nat) (hl : l < cs.length) : NC W (wr.setCell ⟨W.heap.size + 1, l, none⟩ (.int .i64 (x : Int))) (cs.set l x) v :=
  ⟨by rw [← cellsC_set cs v l x hl]; exact block_setCell h.c _, (Below.heap_setCell _ _ _ _ (by show W.heap.size ≠ W.heap.size + 1; omega)).trans h.res, h.below.setCell (p := ⟨W.heap.size + 1, l, none⟩) (Nat.le_succ _) _⟩
theorem NC.put {W wr : World} {cs : List Nat} {v : Value} (h : NC W wr cs v) (u : Value) (hl : cs.length = 16) : NC W (wr.setCell ⟨W.heap.size + 1, 16, none⟩ u) cs u :=
  ⟨by rw [← cellsC_put cs v u 16 hl.symm]; exact block_setCell h.c _, (Below.heap_setCell _ _ _ _ (by show W.heap.size ≠ W.heap.size + 1; omega)).trans h.res, h.below.setCell (p := ⟨W.heap.size + 1, 16, none⟩) (Nat.le_succ _) _⟩
theorem NC.other {W wr : World} {cs : List Nat} {v : Value} (h : NC W wr cs v) {g j : Nat} (hg : W.heap.size + 1 < g) (u : Value) : NC W (wr.setCell ⟨g, j, none⟩ u) cs v :=
  ⟨(Below.heap_setCell _ _ _ _ (by show W.heap.size + 1 ≠ g; omega)).trans h.c, (Below.heap_setCell _ _ _ _ (by show W.heap.size ≠ g; omega)).trans h.res, h.below.setCell (p := ⟨g, j, none⟩) (by show W.heap.size ≤ g; omega) _⟩
theorem NC.drew {W wr : World} {cs : List Nat} {v : Value} (h : NC W wr cs v) : NC W wr.drew cs v := ⟨h.c, h.res, h.below.drew⟩
theorem NC.alloc {W wr : World} {cs : List Nat} {v : Value} (h : NC W wr cs v) (o : Obj) : NC W (wr.alloc o) cs v :=
  ⟨alloc_old h.c, alloc_old h.res, h.below.alloc h.below.size o⟩
theorem make_nats (n : Nat) (hn : n ≤ 400) (w : World) : (Instr.makeSlice 144 (.int .i64 (n : Int)) (.int .i64 (n : Int))).run Tryd.prog w = .ok (.slice (some ⟨w.heap.size, 0, none⟩) n n) (w.alloc (.cells (cellsN (List.replicate n 0)) 3)) := by
  have h := run_make_row' (P := Tryd.prog) 144 3 (.int .i64 0) 8 Tryd.underlying144 (by kernel_rfl) rfl .i64 .i64 n (by omega) (by omega) w
  rw [h]
  have e : madeCells #[.int .i64 0] n = cellsN (List.replicate n 0) := by
    apply Array.ext
    · rw [size_madeCells]
      simp [cellsN]
    · intro j h1 h2
      simp [madeCells, cellsN, natVal, Nat.mod_one]
  rw [e]
/-- An array of 16 numbers, read as a value. -/
theorem load16 {w : World} {g : Nat} {cs : List Nat} {v : Value} {t : TypeId} {fr : Nat × Nat} (hg : w.heap[g]? = some (.cells (cellsC cs v) t fr)) (hl : cs.length = 16) : (loadVar 159 ⟨g, 0, none⟩).run Tryd.prog w = .ok (.agg (cellsN cs)) w := by
  have hll : (cs.map natVal).length = 16 := by rw [List.length_map]; exact hl
  have h := run_loadCells_list (P := Tryd.prog) w ⟨g, 0, none⟩ (cs.map natVal) (fun j u hj => by
    have hadd : (⟨g, 0, none⟩ : Addr).add j = ⟨g, j, none⟩ := by unfold Addr.add; split <;> simp_all
    have hj2 : j < cs.length := by
      have := (List.getElem?_eq_some_iff.1 hj).1
      rwa [List.length_map] at this
    rw [hadd, cell_of_block hg j, cellsC_get cs v j hj2]
    rw [List.getElem?_map, List.getElem?_eq_getElem hj2] at hj
    obtain rfl := Option.some.inj hj
    rw [List.getD_eq_getElem?_getD, List.getElem?_eq_getElem hj2]
    rfl)
  rw [hll] at h
  have hs : (Tryd.prog.info? 159).map (·.size) = some 16 := by kernel_rfl
  cases hq : Tryd.prog.info? 159 with
  | none => simp [hq] at hs
  | some i =>
    have hs' : i.size = 16 := by simpa [hq] using hs
    have hagg : (isAgg 159).run Tryd.prog w = .ok true w := by
      unfold isAgg
      rw [Sem.run_bind, run_underlying Tryd.underlying159 w]
      rfl
    simp [loadVar, Sem.run_bind, hagg, sizeOf, typeInfo, hq, hs', h, cellsN]
theorem wpList_store_agg {P : Program} {w w' : World} {ops : Array Oper} {rest : List Oper} {o : Oper} {a : Act} {Q : Exit → Act → World → Prop} (hgd : o.guard = none) (ty : TypeId) (x y : Operand) (ho : o.op = .store ty x y) (ad : Addr) (hx : a.eval x = .pointer (some ad)) (v : Value) (hv : a.eval y = v)
    (hrun : (storeVar ty ad v).run P w = .ok () w') (h : wpList P ops Q rest (a.put o.dst undef) w') : wpList P ops Q (o :: rest) a w := by
  have hw : Region.wanted o (yielded ops a.tmps) = true := by simp [Region.wanted, hgd]
  unfold wpList
  simp only [hw, if_true]
  left
  unfold Oper.wp execOp
  simp only [ho, hx, hv, Instr.storeAt, Instr.sureAddr, Sem.run_bind, Sem.run_pure, Result.andThen_ok, hrun]
  exact h
theorem index16 (cs : List Nat) (k : Nat) (hl : cs.length = 16) (hk : k < 16) (w : World) : (Instr.index 159 (.agg (cellsN cs)) (.int .i64 (k : Int))).run Tryd.prog w = .ok (.int .i64 (cs.getD k 0 : Nat)) w := by
  have h1 : 0 ≤ (k : Int) ∧ (k : Int) < 16 := by omega
  have h2 : (k : Int) < ((16 : Nat) : Int) := by omega
  have hs : ∀ w, (sizeOf 3).run Tryd.prog w = .ok 1 w := fun w => by
    have hi : (Tryd.prog.info? 3).map (·.size) = some 1 := by kernel_rfl
    cases hq : Tryd.prog.info? 3 with
    | none => simp [hq] at hi
    | some i => simp [sizeOf, typeInfo, hq, show i.size = 1 by simpa [hq] using hi]
  have ha : ∀ w, (isAgg 3).run Tryd.prog w = .ok false w := fun w => by
    unfold isAgg
    rw [Sem.run_bind, run_underlying Tryd.underlying3 w]
    rfl
  have hc := cellsN_get cs k (by omega)
  simp [Instr.index, asIntOf, run_underlying Tryd.underlying159, part, hs, ha, h1, hc, go_sem]
  intro h
  omega
theorem wpList_load_agg {P : Program} {w : World} {ops : Array Oper} {rest : List Oper} {o : Oper} {a : Act} {Q : Exit → Act → World → Prop} (hgd : o.guard = none) (ty : TypeId) (x : Operand) (ho : o.op = .load ty x) (ad : Addr) (hx : a.eval x = .pointer (some ad)) (cs : Array Value)
    (hrun : (loadVar ty ad).run P w = .ok (.agg cs) w) (h : wpList P ops Q rest (a.put o.dst (.agg cs)) w) : wpList P ops Q (o :: rest) a w := by
  have hw : Region.wanted o (yielded ops a.tmps) = true := by simp [Region.wanted, hgd]
  unfold wpList
  simp only [hw, if_true]
  left
  unfold Oper.wp execOp
  simp only [ho, hx, Instr.loadAt, Instr.sureAddr, Sem.run_bind, Sem.run_pure, Result.andThen_ok, hrun]
  exact h
theorem setRow_below {B g : Nat} {a w : World} (h : Below B a w) (hg : B ≤ g) (cs : Array Value) : Below B a (w.setRow g cs) := by
  refine ⟨h.os, h.tape, h.output, ?_, fun k hk => ?_⟩
  · show a.heap.size ≤ (w.heap.modify g _).size
    rw [Array.size_modify]
    exact h.size
  · show (w.heap.modify g _)[k]? = _
    rw [Array.getElem?_modify, if_neg (by omega)]
    exact h.block k hk
set_option maxHeartbeats 4000000 in
set_option maxRecDepth 100000 in
theorem newCodes_any (lv : Value) (ls : List Nat) (W : World) (hr : listed natVal W lv ls) (h15 : ∀ l ∈ ls, l ≤ 15) (hl : ls.length ≤ 400) :
    Calls Tryd.prog 98 #[lv] W fun e w' => ∃ v, e = .returned (.agg (cellsC (countsOf ls) v)) ∧ listed natVal w' v (newCds ls).syms ∧ (∀ b, inBlock v b → W.heap.size ≤ b) ∧ v.oneCell' = true ∧ Below W.heap.size W w' := by
  obtain ⟨vo, vc, rfl⟩ := listed_length hr
  have HR := Lib.hid hr
  have H15 := Lib.hid h15
  obtain ⟨n, en⟩ : ∃ n, ls.length = n := ⟨_, rfl⟩
  have EN := Lib.hid en
  rw [en] at HR hl ⊢
  clear hr h15 en
  go_enter Tryd.func98, Tryd.ntmps98
  have HNC0 : Hid (NC W ((W.alloc (.cells (cellsC (List.replicate 16 0) (.slice none 0 0)) 161)).alloc (.cells (cellsC (List.replicate 16 0) (.slice none 0 0)) 161)) (partOfI ls 0) (.slice none 0 0)) := by
    have hs : (W.alloc (.cells (cellsC (List.replicate 16 0) (.slice none 0 0)) 161)).heap.size = W.heap.size + 1 := by
      show (W.heap.push _).size = _
      simp
    refine ⟨?_, alloc_old (heap_alloc_new W _), ((Below.refl _ _).alloc (Nat.le_refl _) _).alloc (by rw [hs]; omega) _⟩
    rw [← hs]
    exact heap_alloc_new _ _
  go_wp2_with fail
  go_loopw [14] (fun u14 wr => ∃ i : Nat, i ≤ n ∧ u14 = .int .i64 i ∧ Hid (NC W wr (partOfI ls i) (.slice none 0 0))) (fun u14 _ => n - (intOf u14).toNat)
  case atStart => exact ⟨0, Nat.zero_le _, rfl, HNC0⟩
  case round =>
    obtain ⟨i, hi, rfl, hN⟩ := hrel
    by_cases hin : i < n
    · have d1 : decide ((i : Int) < (n : Int)) = true := decide_eq_true (by omega)
      have d2 : decide (i < n) = true := decide_eq_true hin
      obtain ⟨l, el⟩ : ∃ x, ls[i]? = some x := ⟨ls[i]'(by rw [EN.out]; exact hin), List.getElem?_eq_getElem _⟩
      obtain ⟨b, off, cap, eb, hblt, hcell⟩ := listed_cell HR.out i l el
      rw [EN.out] at eb
      simp only [Value.slice.injEq] at eb
      obtain ⟨rfl, _, rfl⟩ := eb
      unfold natVal at hcell
      have hc := (hN.out.below.cell (p := ⟨b, off + i, none⟩) hblt).trans hcell
      have hl15 : l ≤ 15 := H15.out l (List.mem_of_getElem? el)
      have hq := (cell_of_block hN.out.c l).trans (cellsC_get _ _ l (by rw [partOf_length]; omega))
      have hfr := unfrozen_of_block hN.out.c l
      have hlow := partOf_low ls i l
      have HNX := Lib.hid (hN.out.set l ((partOfI ls i).getD l 0 + 1) (by rw [partOf_length]; omega))
      rw [← partOf_next ls i l el] at HNX
      generalize (partOfI ls i).getD l 0 = k at *
      clear hcell el
      go_wp2_with fail
      go_roundw
      case rel => exact ⟨i + 1, by omega, by go_num, by first | exact HNX | (have := HNX.out; simpa using this)⟩
      case measure => simp [intOf]; omega
    · obtain rfl : i = n := by omega
      have d1 : decide ((i : Int) < (i : Int)) = false := decide_eq_false (by omega)
      have d2 : decide (i < i) = false := decide_eq_false (by omega)
      have hq := (cell_of_block hN.out.c 0).trans (cellsC_get _ _ 0 (by rw [partOf_length]; omega))
      have hfr := unfrozen_of_block hN.out.c 0
      have HN2 := Lib.hid (hN.out.set 0 0 (by rw [partOf_length]; omega))
      rw [partOf_all ls i (by rw [EN.out]; exact Nat.le_refl _)] at HN2
      clear hN
      go_wp2_with (refine wpList_load_agg rfl 159 _ rfl ⟨W.heap.size + 1, 0, none⟩ rfl (cellsN (countsOf ls)) (load16 (HN2.out.alloc _).c (counts_length ls)) ?_)
      obtain ⟨V, rfl⟩ : ∃ V, V = wr := ⟨_, rfl⟩
      have HCL : Hid ((countsOf ls).length = 16) := counts_length ls
      have HCS : Hid ((countsOf ls).sum ≤ 400) := by
        have := counts_sum ls
        have := EN.out
        show _ ≤ _
        omega
      have HPV : Hid (W.heap.size + 1 < V.heap.size) := by
        have := HN2.out.lt
        show _ < _
        simpa using this
      have HP0 : Hid (((V.setCell ⟨W.heap.size + 1, 0, none⟩ (.int .i64 0)).alloc (.cells (cellsN (List.replicate 16 0)) 159)).heap[V.heap.size]? = some (.cells (cellsN (preOf (countsOf ls) 0)) 159 (0, 0))) := by
        show _ = _
        rw [preOf_zero]
        have := heap_alloc_new (V.setCell ⟨W.heap.size + 1, 0, none⟩ (.int .i64 0)) (.cells (cellsN (List.replicate 16 0)) 159)
        simpa using this
      have HN3 : Hid (NC W ((V.setCell ⟨W.heap.size + 1, 0, none⟩ (.int .i64 0)).alloc (.cells (cellsN (List.replicate 16 0)) 159)) (countsOf ls) (.slice none 0 0)) := HN2.out.alloc _
      have HSUM0 : Hid (0 = ((countsOf ls).take 0).sum) := rfl
      clear hq hfr d1 d2 hin hi HN2
      go_loopw [7, 30] (fun u7 u30 wr => ∃ k a : Nat, k ≤ 16 ∧ u30 = .int .i64 k ∧ u7 = .int .i64 a ∧ Hid (a = ((countsOf ls).take k).sum) ∧ Hid (NC W wr (countsOf ls) (.slice none 0 0)) ∧ Hid (wr.heap[V.heap.size]? = some (.cells (cellsN (preOf (countsOf ls) k)) 159 (0, 0)))) (fun _ u30 _ => 16 - (intOf u30).toNat)
      case atStart => exact ⟨0, 0, by omega, rfl, rfl, HSUM0, HN3, HP0⟩
      case round =>
        obtain ⟨k, a, hk, rfl, rfl, hA, hN, hP⟩ := hrel
        by_cases hk16 : k < 16
        · have d1 : decide ((k : Int) < 16) = true := decide_eq_true (by omega)
          have d2 : decide (k < 16) = true := decide_eq_true hk16
          have hidx := index16 (countsOf ls) k HCL.out hk16
          have hsum : a + (countsOf ls).getD k 0 ≤ 400 := by
            have h1 := sum_take_succ (countsOf ls) k
            have h2 := sum_take_le (countsOf ls) (k + 1)
            have := HCS.out
            have := hA.out
            omega
          have HA2 : Hid (a + (countsOf ls).getD k 0 = ((countsOf ls).take (k + 1)).sum) := by
            have h1 := sum_take_succ (countsOf ls) k
            have := hA.out
            show _ = _
            omega
          have hq := (cell_of_block hP.out k).trans (cellsN_get _ k (by rw [preOf_length]; exact hk16))
          have hfr := unfrozen_of_block hP.out k
          have HP2 := Lib.hid (block_setCell (i := k) hP.out (.int .i64 (a : Int)))
          rw [cellsN_set, hA.out, ← preOf_next _ k hk16, ← hA.out] at HP2
          have HN4 := Lib.hid (hN.out.other (j := k) HPV.out (.int .i64 (a : Int)))
          generalize (countsOf ls).getD k 0 = c at *
          generalize (preOf (countsOf ls) k).getD k 0 = old at *
          go_wp2_with fail
          go_roundw
          case rel => exact ⟨k + 1, a + c, by omega, by go_num, by go_num, HA2, HN4, HP2⟩
          case measure => simp [intOf]; omega
        · have hk2 : k = 16 := by omega
          have d1 : decide ((k : Int) < 16) = false := decide_eq_false (by omega)
          have d2 : decide (k < 16) = false := decide_eq_false (by omega)
          rw [hk2] at hA hP
          clear hk hk16 hk2
          have ha : a = (countsOf ls).sum := by
            have := hA.out
            rwa [List.take_of_length_le (by rw [HCL.out]; exact Nat.le_refl _)] at this
          have HAA := Lib.hid ha
          have ha4 : a ≤ 400 := by have := HCS.out; omega
          have hmake := make_nats a ha4
          have q16 := fun o => (cell_of_block (alloc_old (o' := o) hN.out.c) 16).trans (cellsC_last _ _ 16 HCL.out.symm)
          have f16 := fun o => unfrozen_of_block (alloc_old (o' := o) hN.out.c) 16
          have HPU : Hid (V.heap.size < wr.heap.size) := (Array.getElem?_eq_some_iff.1 hP.out).1
          have HNU := Lib.hid ((hN.out.alloc (.cells (cellsN (List.replicate a 0)) 3)).put (.slice (some ⟨wr.heap.size, 0, none⟩) a a) HCL.out)
          have HPL : Hid (((wr.alloc (.cells (cellsN (List.replicate a 0)) 3)).setCell ⟨W.heap.size + 1, 16, none⟩ (.slice (some ⟨wr.heap.size, 0, none⟩) a a)).heap[V.heap.size]? = some (.cells (cellsN (putSyms ls (countsOf ls) 0).2) 159 (0, 0))) := by
            have h1 := HPV.out
            refine (Below.heap_setCell _ _ _ _ (by show V.heap.size ≠ W.heap.size + 1; omega)).trans ?_
            have := alloc_old (o' := .cells (cellsN (List.replicate a 0)) 3) hP.out
            rw [preOf_all] at this
            exact this
          have HSY : Hid (((wr.alloc (.cells (cellsN (List.replicate a 0)) 3)).setCell ⟨W.heap.size + 1, 16, none⟩ (.slice (some ⟨wr.heap.size, 0, none⟩) a a)).heap[wr.heap.size]? = some (.cells (cellsN (putSyms ls (countsOf ls) 0).1) 3 (0, 0))) := by
            have h1 := HPV.out
            have h2 := HPU.out
            refine (Below.heap_setCell _ _ _ _ (by show wr.heap.size ≠ W.heap.size + 1; omega)).trans ?_
            have := heap_alloc_new wr (.cells (cellsN (List.replicate a 0)) 3)
            have e : a = (countsOf ls).sum := HAA.out
            have e2 : (putSyms ls (countsOf ls) 0).1 = List.replicate a 0 := by rw [e]; rfl
            rw [e2]
            exact this
          clear ha hA
          obtain ⟨U, rfl⟩ : ∃ U, U = wr := ⟨_, rfl⟩
          go_wp2_with fail
          clear q16 f16 hmake hN hP
          go_loopw [46] (fun u46 wr => ∃ x : Nat, x ≤ i ∧ u46 = .int .i64 x ∧ Hid (NC W wr (countsOf ls) (.slice (some ⟨U.heap.size, 0, none⟩) a a)) ∧ Hid (wr.heap[V.heap.size]? = some (.cells (cellsN (putSyms ls (countsOf ls) x).2) 159 (0, 0))) ∧ Hid (wr.heap[U.heap.size]? = some (.cells (cellsN (putSyms ls (countsOf ls) x).1) 3 (0, 0)))) (fun u46 _ => i - (intOf u46).toNat)
          case atStart => exact ⟨0, Nat.zero_le _, rfl, HNU, HPL, HSY⟩
          case round =>
            obtain ⟨x, hx, rfl, hN, hP, hY⟩ := hrel
            by_cases hxn : x < i
            · have d1 : decide ((x : Int) < (i : Int)) = true := decide_eq_true (by omega)
              have d2 : decide (x < i) = true := decide_eq_true hxn
              obtain ⟨l, el⟩ : ∃ l, ls[x]? = some l := ⟨ls[x]'(by rw [EN.out]; exact hxn), List.getElem?_eq_getElem _⟩
              obtain ⟨b, off, cap, eb, hblt, hcell⟩ := listed_cell HR.out x l el
              rw [EN.out] at eb
              simp only [Value.slice.injEq] at eb
              obtain ⟨rfl, _, rfl⟩ := eb
              unfold natVal at hcell
              have hc := (hN.out.below.cell (p := ⟨b, off + x, none⟩) hblt).trans hcell
              have hl15 : l ≤ 15 := H15.out l (List.mem_of_getElem? el)
              have hgd : ls.getD x 0 = l := by
                rw [List.getD_eq_getElem?_getD, el]
                rfl
              obtain ⟨hs1, hs2⟩ := putSyms_fits ls (countsOf ls) x
              have hnext : putSyms ls (countsOf ls) (x + 1) = putSym x l (putSyms ls (countsOf ls) x) := by
                rw [putSyms, hgd]
              by_cases hl0 : 0 < l
              · have d3 : decide ((0 : Int) < (l : Int)) = true := decide_eq_true (by omega)
                have d4 : decide (0 < l) = true := decide_eq_true hl0
                have hroom := putSyms_room ls x (by rw [EN.out]; exact hxn) (by rw [hgd]; exact hl0) (by rw [hgd]; exact hl15)
                rw [hgd, ← HAA.out] at hroom
                rw [putSym, if_pos hl0] at hnext
                have HNEXT := Lib.hid hnext
                have q16 := (cell_of_block hN.out.c 16).trans (cellsC_last _ _ 16 HCL.out.symm)
                have qpl := (cell_of_block hP.out l).trans (cellsN_get _ l (by rw [hs2]; omega))
                have fpl := unfrozen_of_block hP.out l
                generalize hQ : (putSyms ls (countsOf ls) x).2.getD l 0 = q at *
                have qy := (cell_of_block hY.out q).trans (cellsN_get _ q (by rw [hs1, ← HAA.out]; exact hroom))
                have fy := unfrozen_of_block hY.out q
                have HNE1 : Hid (U.heap.size ≠ V.heap.size) := by have := HPU.out; show _ ≠ _; omega
                have h3 := HPV.out
                have h4 := HPU.out
                have HN1 := Lib.hid ((hN.out.drew.other (g := U.heap.size) (j := q) (by omega) (.int .i64 (x : Int))).other (g := V.heap.size) (j := l) (by omega) (.int .i64 ((q + 1 : Nat) : Int)))
                have hPd : wr.drew.heap[V.heap.size]? = some (.cells (cellsN (putSyms ls (countsOf ls) x).2) 159 (0, 0)) := hP.out
                have hYd : wr.drew.heap[U.heap.size]? = some (.cells (cellsN (putSyms ls (countsOf ls) x).1) 3 (0, 0)) := hY.out
                have HP1 : Hid (((wr.drew.setCell ⟨U.heap.size, q, none⟩ (.int .i64 (x : Int))).setCell ⟨V.heap.size, l, none⟩ (.int .i64 ((q + 1 : Nat) : Int))).heap[V.heap.size]? = some (.cells (cellsN (putSyms ls (countsOf ls) (x + 1)).2) 159 (0, 0))) := by
                  have e1 := block_setCell (i := l) (((Below.heap_setCell wr.drew ⟨U.heap.size, q, none⟩ (.int .i64 (x : Int)) V.heap.size (fun h => HNE1.out h.symm)).trans hPd)) (.int .i64 ((q + 1 : Nat) : Int))
                  rw [cellsN_set] at e1
                  show _ = _
                  rw [e1, HNEXT.out]
                have HY1 : Hid (((wr.drew.setCell ⟨U.heap.size, q, none⟩ (.int .i64 (x : Int))).setCell ⟨V.heap.size, l, none⟩ (.int .i64 ((q + 1 : Nat) : Int))).heap[U.heap.size]? = some (.cells (cellsN (putSyms ls (countsOf ls) (x + 1)).1) 3 (0, 0))) := by
                  refine (Below.heap_setCell _ _ _ _ HNE1.out).trans ?_
                  have e1 := block_setCell (i := q) hYd (.int .i64 (x : Int))
                  rw [cellsN_set] at e1
                  show _ = _
                  rw [e1, HNEXT.out]
                have hI1 : (0 : Int) ≤ (l : Int) := by omega
                have hI2 : (l : Int) < 16 := by omega
                have hI3 : (0 : Int) ≤ (q : Int) := by omega
                have hI4 : (q : Int) < (a : Int) := by omega
                have hne2 : ¬ U.heap.size = V.heap.size := HNE1.out
                clear hnext hPd hYd hQ hs1 hs2 hgd el hcell hN hP hY
                generalize (putSyms ls (countsOf ls) x).1.getD q 0 = old at *
                go_wp2_with fail
                refine wp_region_still_tail 7 (by kernel_rfl) (by kernel_rfl) ?_
                simp only [List.take_succ_cons, List.take_zero, List.drop_succ_cons, List.drop_zero]
                repeat still_step
                refine wpStill_nil ?_
                change wpList _ _ _ _ _ wr.drew
                go_wp2_with fail
                go_roundw
                case rel => exact ⟨x + 1, by omega, by go_num, HN1, HP1, HY1⟩
                case measure => simp [intOf]; omega
              · have d3 : decide ((0 : Int) < (l : Int)) = false := decide_eq_false (by omega)
                have d4 : decide (0 < l) = false := decide_eq_false hl0
                rw [putSym, if_neg hl0] at hnext
                have HNEXT := Lib.hid hnext
                clear hnext hs1 hs2 hgd el hcell
                go_wp2_with fail
                go_roundw
                case rel => exact ⟨x + 1, by omega, by go_num, hN, by rw [HNEXT.out]; exact hP, by rw [HNEXT.out]; exact hY⟩
                case measure => simp [intOf]; omega
            · obtain rfl : x = i := by omega
              have d1 : decide ((x : Int) < (x : Int)) = false := decide_eq_false (by omega)
              have d2 : decide (x < x) = false := decide_eq_false hxn
              have hi108 : (Tryd.prog.info? 161).map (·.size) = some 17 := by kernel_rfl
              have hcs : (cellsC (countsOf ls) (.slice (some ⟨U.heap.size, 0, none⟩) a a)).size = 17 := by rw [cellsC_size, HCL.out]
              have hld : (loadVar 161 ⟨W.heap.size + 1, 0, none⟩).run Tryd.prog wr = .ok (.agg (cellsC (countsOf ls) (.slice (some ⟨U.heap.size, 0, none⟩) a a))) wr := run_loadVar_row wr (W.heap.size + 1) 161 161 _ (0, 0) _ hN.out.c Tryd.underlying161 rfl (by rw [hcs]; exact hi108)
              have hst : (storeVar 161 ⟨W.heap.size, 0, none⟩ (.agg (cellsC (countsOf ls) (.slice (some ⟨U.heap.size, 0, none⟩) a a)))).run Tryd.prog wr = .ok () (wr.setRow W.heap.size (cellsC (countsOf ls) (.slice (some ⟨U.heap.size, 0, none⟩) a a))) := run_storeVar_row wr W.heap.size 161 161 _ _ hN.out.res (by rw [hcs]; exact hi108) (by rw [hcs, cellsC_size, List.length_replicate]) (cellsC_one _ _ rfl)
              have hfin := setRow_heap wr W.heap.size _ (cellsC (countsOf ls) (.slice (some ⟨U.heap.size, 0, none⟩) a a)) 161 (0, 0) hN.out.res
              have HLD := Lib.hid hld
              have HST := Lib.hid hst
              have HFIN := Lib.hid hfin
              have HCSZ := Lib.hid hcs
              have HI := Lib.hid hi108
              clear hld hst hfin hcs hi108
              go_wp2_with (first | (refine wpList_load_agg rfl 161 _ rfl ⟨W.heap.size + 1, 0, none⟩ rfl _ HLD.out ?_) | (refine wpList_store_agg rfl 161 _ _ rfl ⟨W.heap.size, 0, none⟩ rfl _ rfl HST.out ?_))
              have hw : Below W.heap.size W (wr.setRow W.heap.size (cellsC (countsOf ls) (.slice (some ⟨U.heap.size, 0, none⟩) a a))) := setRow_below hN.out.below (Nat.le_refl _) _
              have hUW : U.heap.size ≠ W.heap.size := by
                have h1 := HPV.out
                have h2 := HPU.out
                omega
              have hYe : (wr.setRow W.heap.size (cellsC (countsOf ls) (.slice (some ⟨U.heap.size, 0, none⟩) a a))).heap[U.heap.size]? = some (.cells (cellsN (putSyms ls (countsOf ls) x).1) 3 (0, 0)) := (setRow_other wr W.heap.size U.heap.size _ hUW).trans hY.out
              have hsy : (newCds ls).syms = (putSyms ls (countsOf ls) x).1 := by
                unfold newCds
                rw [EN.out]
              have hsl : (putSyms ls (countsOf ls) x).1.length = a := by rw [(putSyms_fits ls _ x).1, HAA.out]
              refine bodyPost_ret (v := .agg (cellsC (countsOf ls) (.slice (some ⟨U.heap.size, 0, none⟩) a a))) ?_ rfl ⟨_, rfl, ?_, ?_, rfl, hw⟩
              · exact results_cell_row (P := Tryd.prog) (p := 2) (ty := 161) (d := _) rfl _ _ W.heap.size 161 _ (0, 0) rfl HFIN.out Tryd.underlying161 rfl (by rw [HCSZ.out]; exact HI.out)
              · rw [hsy]
                exact .inr ⟨U.heap.size, 0, a, by rw [hsl], (Array.getElem?_eq_some_iff.1 hYe).1, by rw [hsl]; exact Nat.le_refl _, fun j z hz => by
                  have hj := (List.getElem?_eq_some_iff.1 hz).1
                  rw [Nat.zero_add, cell_of_block hYe j, cellsN_get _ j hj, List.getD_eq_getElem?_getD, hz]
                  rfl⟩
              · intro b hb
                obtain ⟨off, m, cap, e, _⟩ := hb
                simp only [Value.slice.injEq, Option.some.injEq, Addr.mk.injEq] at e
                obtain ⟨⟨rfl, _⟩, _⟩ := e
                have h1 := HPV.out
                have h2 := HPU.out
                omega
end Go.Proofs.YtbfpbmnnlckldaaDoor.Fx
namespace Go.Proofs.YtbfpbmnnlckldaaDoor.Fx
open Go Go.RowKit Go.Joins
set_option linter.unusedVariables false
theorem load16_at {w : World} {b off : Nat} {cs : List Nat} (hg : ∀ l, l < 16 → w.cell? ⟨b, off + l, none⟩ = some (.int .i64 (cs.getD l 0 : Nat))) (hl : cs.length = 16) : (loadVar 159 ⟨b, off, none⟩).run Tryd.prog w = .ok (.agg (cellsN cs)) w := by
  have hll : (cs.map natVal).length = 16 := by rw [List.length_map]; exact hl
  have h := run_loadCells_list (P := Tryd.prog) w ⟨b, off, none⟩ (cs.map natVal) (fun j u hj => by
    have hadd : (⟨b, off, none⟩ : Addr).add j = ⟨b, off + j, none⟩ := by unfold Addr.add; split <;> simp_all
    have hj2 : j < cs.length := by
      have := (List.getElem?_eq_some_iff.1 hj).1
      rwa [List.length_map] at this
    rw [hadd, hg j (by omega)]
    rw [List.getElem?_map, List.getElem?_eq_getElem hj2] at hj
    obtain rfl := Option.some.inj hj
    rw [List.getD_eq_getElem?_getD, List.getElem?_eq_getElem hj2]
    rfl)
  rw [hll] at h
  have hs : (Tryd.prog.info? 159).map (·.size) = some 16 := by kernel_rfl
  cases hq : Tryd.prog.info? 159 with
  | none => simp [hq] at hs
  | some i =>
    have hs' : i.size = 16 := by simpa [hq] using hs
    have hagg : (isAgg 159).run Tryd.prog w = .ok true w := by
      unfold isAgg
      rw [Sem.run_bind, run_underlying Tryd.underlying159 w]
      rfl
    simp [loadVar, Sem.run_bind, hagg, sizeOf, typeInfo, hq, hs', h, cellsN]
theorem wrap64_nat (n : Nat) (h : n ≤ 9223372036854775807) : wrap64 (n : Int) = (n : Int) := by
  unfold wrap64
  omega
theorem kraft_le (cs : List Nat) (h : ∀ l, cs.getD l 0 ≤ 400) (i : Nat) : kraft cs i ≤ i * 13107200 := by
  induction i with
  | zero => exact Nat.le_refl _
  | succ i ih =>
    unfold kraft
    have h1 : (2 : Nat) ^ (15 - i) ≤ 2 ^ 15 := Nat.pow_le_pow_right (by decide) (by omega)
    have h2 : cs.getD i 0 * 2 ^ (15 - i) ≤ 400 * 2 ^ 15 := Nat.mul_le_mul (h i) h1
    omega
theorem Fit.each {c : Cds} (h : Fit c) (l : Nat) : c.counts.getD l 0 ≤ 400 := by
  have h1 := h.count_le l
  have h2 := h.few
  omega
set_option maxHeartbeats 1000000 in
set_option maxRecDepth 100000 in
theorem mayBe_code (w : World) (b off : Nat) (c : Cds) (K : Nat → Prop) (h : isCd w b off c K) (hf : Fit c) :
    Calls Tryd.prog 103 #[.pointer (some ⟨b, off, none⟩)] w fun e w' => e = .returned (.bool (decide c.mayBe)) ∧ w = w' := by
  have HC := Lib.hid h
  have HA := alone_code w b off c K h
  obtain ⟨v, h⟩ := h
  have HLD := Lib.hid (load16_at h.counts hf.len)
  have HF := Lib.hid hf
  have HK0 : Hid (0 = kraft c.counts 0) := rfl
  clear h hf
  go_enter Tryd.func103, Tryd.ntmps103
  go_wp2_with (refine wpList_load_agg rfl 159 _ rfl ⟨b, off, none⟩ rfl _ HLD.out ?_)
  go_loopw [3, 10] (fun u3 u10 wr => ∃ i a : Nat, i ≤ 16 ∧ u10 = .int .i64 i ∧ u3 = .int .i64 a ∧ Hid (a = kraft c.counts i) ∧ wr = w) (fun _ u10 _ => 16 - (intOf u10).toNat)
  case atStart => exact ⟨0, 0, by omega, rfl, rfl, HK0, rfl⟩
  case round =>
    obtain ⟨i, a, hi, rfl, rfl, hA, rfl⟩ := hrel
    by_cases hi16 : i < 16
    · have d1 : decide ((i : Int) < 16) = true := decide_eq_true (by omega)
      have d2 : decide (i < 16) = true := decide_eq_true hi16
      have hidx := index16 c.counts i HF.out.len hi16
      have hca := HF.out.each i
      have hkr := kraft_le c.counts HF.out.each i
      rw [← hA.out] at hkr
      have hpow : (2 : Nat) ^ (15 - i) ≤ 2 ^ 15 := Nat.pow_le_pow_right (by decide) (by omega)
      have hkk : kraft c.counts (i + 1) = kraft c.counts i + c.counts.getD i 0 * 2 ^ (15 - i) := rfl
      rw [← hA.out] at hkk
      have HKK : Hid (a + c.counts.getD i 0 * 2 ^ (15 - i) = kraft c.counts (i + 1)) := hkk.symm
      generalize c.counts.getD i 0 = k at *
      have hprod : k * 2 ^ (15 - i) ≤ 400 * 2 ^ 15 := Nat.mul_le_mul hca hpow
      have hw1 : wrap64 ((k : Int) * 2 ^ (15 - i)) = ((k * 2 ^ (15 - i) : Nat) : Int) := by
        have : ((k : Int) * 2 ^ (15 - i)) = ((k * 2 ^ (15 - i) : Nat) : Int) := by simp
        rw [this]
        exact wrap64_nat _ (by omega)
      have hw2 : IntKind.i64.wrap ((k : Int) * 2 ^ (15 - i)) = ((k * 2 ^ (15 - i) : Nat) : Int) := by
        have : ((k : Int) * 2 ^ (15 - i)) = ((k * 2 ^ (15 - i) : Nat) : Int) := by simp
        rw [this, IntKind.wrap_i64]
        omega
      generalize k * 2 ^ (15 - i) = Y at *
      have ha2 : a ≤ 209715200 := by omega
      clear hkk hA hpow
      go_wp2_with fail
      go_roundw
      case rel => exact ⟨i + 1, a + Y, by omega, by go_num, by go_num, HKK, trivial⟩
      case measure => simp [intOf]; omega
    · have hi2 : i = 16 := by omega
      have d1 : decide ((i : Int) < 16) = false := decide_eq_false (by omega)
      have d2 : decide (i < 16) = false := decide_eq_false (by omega)
      rw [hi2] at hA
      have hm : c.mayBe ↔ (a = 32768 ∨ c.alone) := by
        unfold Cds.mayBe
        rw [← hA.out]
      clear hi2 hi hi16 hA
      by_cases ha : a = 32768
      · have e1 : ((a : Int) == 32768) = true := by simp; omega
        have e2 : decide ((a : Int) = 32768) = true := decide_eq_true (by omega)
        have HM : Hid (decide c.mayBe = true) := decide_eq_true (hm.2 (.inl ha))
        clear ha hm
        go_wp2_with fail
        go_ret
        exact ⟨by rw [HM.out]; rfl, rfl⟩
      · have e1 : ((a : Int) == 32768) = false := by simp; omega
        have e2 : decide ((a : Int) = 32768) = false := decide_eq_false (by omega)
        have HM : Hid (decide c.mayBe = decide c.alone) := decide_eq_decide.2 ⟨fun h => (hm.1 h).resolve_left ha, fun h => hm.2 (.inr h)⟩
        clear ha hm
        generalize decide c.alone = B at *
        go_wp2_with (go_at_call 108; refine HA.mono ?_; rintro e w1 ⟨rfl, rfl⟩)
        go_ret
        exact ⟨by rw [HM.out]; rfl, rfl⟩
/-! ### Rows of numbers that grow -/
/-- A box that holds a row of numbers of its own; R: its blocks. -/
structure GrowAt (w : World) (B : Nat) (ls : List Nat) (R : Nat → Prop) (v : Value) : Prop where
  box : w.heap[B]? = some (.cells #[v] 144 (0, 0))
  row : w.ownsRow 0 3 1 v ls.length (ls.map natVal)
  ne : v.ownBlock ≠ some B
  own : R = fun k => k = B ∨ v.ownBlock = some k
def isG (w : World) (B : Nat) (ls : List Nat) (R : Nat → Prop) : Prop := ∃ v, GrowAt w B ls R v
theorem isG_lt {w : World} {B : Nat} {ls : List Nat} {R : Nat → Prop} (h : isG w B ls R) : ∀ k, R k → k < w.heap.size := by
  obtain ⟨v, h⟩ := h
  intro k hk
  rw [h.own] at hk
  rcases hk with rfl | hk
  · exact (Array.getElem?_eq_some_iff.1 h.box).1
  · exact (h.row.lt k hk).2
theorem numRow_same {w w' : World} {base : Nat} {v : Value} {n : Nat} {xs : List Value} (h : w.ownsRow base 3 1 v n xs) (hk : ∀ k, v.ownBlock = some k → w'.heap[k]? = w.heap[k]?) : w'.ownsRow base 3 1 v n xs := by
  refine ⟨h.1, ?_⟩
  rcases h.2 with hn | ⟨g, cap, cur, rfl, hb, hg, rest⟩
  · exact .inl hn
  · exact .inr ⟨g, cap, cur, rfl, hb, (hk g rfl).trans hg, rest⟩
theorem isG_keep {w w' : World} {B : Nat} {ls : List Nat} {R : Nat → Prop} (h : isG w B ls R) (hk : ∀ k, R k → w'.heap[k]? = w.heap[k]?) : isG w' B ls R := by
  obtain ⟨v, h⟩ := h
  have ho := h.own
  subst ho
  exact ⟨v, (hk B (.inl rfl)).trans h.box, numRow_same h.row (fun k hh => hk k (.inr hh)), h.ne, rfl⟩
theorem isG_went {w w' : World} {B : Nat} {ls : List Nat} {R O : Nat → Prop} (h : isG w B ls R) (hp : Past O w w') (hR : ∀ k, R k → ¬ O k) : isG w' B ls R := isG_keep h (fun k hk => hp.block k (isG_lt h k hk) (hR k hk))
theorem GrowAt.grown {w w1 w2 : World} {B : Nat} {ls : List Nat} {R : Nat → Prop} {v : Value} (h : GrowAt w B ls R v) (hb : Below w.heap.size w w1) (hgr : w1.grownBy w2 v.ownBlock) : w2.heap[B]? = some (.cells #[v] 144 (0, 0)) := by
  have hg := (Array.getElem?_eq_some_iff.1 h.box).1
  exact (hgr.block B (Nat.lt_of_lt_of_le hg hb.size) (fun e => h.ne e.symm)).trans ((hb.block B hg).trans h.box)
theorem GrowAt.push {w w1 w2 : World} {B : Nat} {ls : List Nat} {R : Nat → Prop} {v v' : Value} {x : Nat} (h : GrowAt w B ls R v) (hb : Below w.heap.size w w1) (hgr : w1.grownBy w2 v.ownBlock)
    (hown : w2.ownsRow 0 3 1 v' (ls.length + 1) ((ls ++ [x]).map natVal)) (hwh : ∀ k, v'.ownBlock = some k → v.ownBlock = some k ∨ w1.heap.size ≤ k) :
    ∃ R', isG (w2.setCell ⟨B, 0, none⟩ v') B (ls ++ [x]) R' ∧ WentOn R R' w (w2.setCell ⟨B, 0, none⟩ v') := by
  have hg := (Array.getElem?_eq_some_iff.1 h.box).1
  have hobj := h.grown hb hgr
  have hsz : (w2.setCell ⟨B, 0, none⟩ v').heap.size = w2.heap.size := by simp
  have hlt2 : w.heap.size ≤ w2.heap.size := Nat.le_trans hb.size hgr.size
  have hne' : v'.ownBlock ≠ some B := fun e => by
    rcases hwh B e with e2 | e2
    · exact h.ne e2
    · have := hb.size; omega
  have ho := h.own
  subst ho
  refine ⟨_, ⟨v', by simpa using block_setCell (i := 0) hobj v', ?_, hne', rfl⟩, fun b hbo => ?_, ?_⟩
  · rw [List.length_append]
    exact numRow_same hown (fun k hk => Below.heap_setCell _ _ _ k (fun e => hne' (by have e : k = B := e; rw [e] at hk; exact hk)))
  · rcases hbo with hbo | hbo
    · exact .inl (.inl hbo)
    · rcases hwh b hbo with e2 | e2
      · exact .inl (.inr e2)
      · exact .inr (Nat.le_trans hb.size e2)
  · exact ⟨hgr.os.trans hb.os, hgr.tape.trans hb.tape, hgr.output.trans hb.output, by rw [hsz]; exact hlt2, fun k hk hn =>
      (Below.heap_setCell _ _ _ k (fun e => hn (.inl e))).trans ((hgr.block k (Nat.lt_of_lt_of_le hk hb.size) (fun e => hn (.inr e.symm))).trans (hb.block k hk))⟩
theorem infoInt : (Tryd.prog.info? 3).map (fun i => (i.zero, i.size, i.bytes)) = some (some (.int .i64 0), 1, 8) := by kernel_rfl
theorem info_parts8 {P : Program} {e : TypeId} {z : Value} {n m : Nat} (h : (P.info? e).map (fun i => (i.zero, i.size, i.bytes)) = some (some z, n, m)) : ∃ i, P.info? e = some i ∧ i.zero = some z ∧ i.size = n ∧ i.bytes = m := by
  obtain ⟨i, hi, hzz⟩ := Option.map_eq_some_iff.1 h
  simp only [Prod.mk.injEq] at hzz
  exact ⟨i, hi, hzz.1, hzz.2.1, hzz.2.2⟩
/-- 'append(own, x)' of one number, and where the new row lies. -/
theorem wpList_append_num {w : World} {ops : Array Oper} {rest : List Oper} {o : Oper} {a : Act} {Q : Exit → Act → World → Prop} (hgd : o.guard = none) (s x : Operand)
    (ho : o.op = .call { callee := .builtin .append, args := #[s, x], argTypes := #[144, 144] })
    (v : Value) (n : Nat) (xs : List Value) (hs : a.eval s = v) (hown : w.ownsRow 0 3 1 v n xs) (g : Nat) (y : Value) (hx : a.eval x = .slice (some ⟨g, 0, none⟩) 1 1) (hy : w.cell? ⟨g, 0, none⟩ = some y) (hy1 : y.oneCell' = true)
    (hlen : n + 1 ≤ 17592186044416)
    (h : ∀ v' w', w'.ownsRow 0 3 1 v' (n + 1) (xs ++ [y]) → w.grownBy w' v.ownBlock → (∀ k, v'.ownBlock = some k → v.ownBlock = some k ∨ w.heap.size ≤ k) → wpList Tryd.prog ops Q rest (a.put o.dst v') w') : wpList Tryd.prog ops Q (o :: rest) a w := by
  obtain ⟨i0, hi, hz0, hz1, hz2⟩ := info_parts8 infoInt
  obtain ⟨v', w', hrun, r1, r2, r3⟩ := run_append_where (P := Tryd.prog) w 0 144 o.type 3 i0 (.int .i64 0) 1 8 Tryd.underlying144 hi hz0 hz1 hz2 rfl (by decide) v n xs hown ⟨g, 0, none⟩ 1 1 [y] rfl (fun j u hj => by
    match j, hj with
    | 0, hj =>
      obtain rfl := Option.some.inj hj
      simpa [Addr.add] using hy
    | j + 1, hj => simp at hj) (fun u hu => by
      obtain rfl := List.mem_singleton.1 hu
      exact hy1) (by unfold maxLen; omega) (by omega) (Nat.zero_le _)
  have hw : Region.wanted o (yielded ops a.tmps) = true := by simp [Region.wanted, hgd]
  unfold wpList
  simp only [hw, if_true]
  left
  unfold Oper.wp
  simp [execOp, ho, resolve, invoke, builtin, hs, hx, hrun, Result.andThen]
  exact h v' w' r1 r2 r3
theorem numForm {w : World} {v : Value} {c : Nat} {xs : List Value} (h : w.ownsRow 0 3 1 v (c + 1) xs) : ∃ b cap, v = .slice (some ⟨b, 0, none⟩) (c + 1) cap ∧ c + 1 ≤ cap := by
  rcases h.2 with ⟨_, h⟩ | ⟨b, cap, cur, rfl, _, _, hc, _⟩
  · omega
  · exact ⟨b, cap, rfl, hc⟩
set_option maxHeartbeats 1000000 in
set_option maxRecDepth 100000 in
/-- A length again and again, of the fixed codes. -/
theorem again_code (w : World) (B : Nat) (ls : List Nat) (R : Nat → Prop) (l n : Nat) (h : isG w B ls R) (hn : ls.length + n ≤ 1000000) :
    Calls Tryd.prog 97 #[.int .i64 (l : Int), .int .i64 (n : Int), .pointer (some ⟨B, 0, none⟩)] w fun e w' => ∃ R', e = .returned (.tuple #[]) ∧ isG w' B (ls ++ List.replicate n l) R' ∧ WentOn R R' w w' := by
  have HG0 : Hid (isG w B (ls ++ List.replicate 0 l) R) := by
    show isG _ _ _ _
    rw [List.replicate_zero, List.append_nil]
    exact h
  clear h
  go_enter Tryd.func97, Tryd.ntmps97
  go_wp2_with fail
  go_loopw [6] (fun u6 wr => ∃ (i : Nat) (R' : Nat → Prop), i ≤ n ∧ u6 = .int .i64 i ∧ Hid (isG wr B (ls ++ List.replicate i l) R') ∧ Hid (WentOn R R' w wr)) (fun u6 _ => n - (intOf u6).toNat)
  case atStart => exact ⟨0, R, Nat.zero_le _, rfl, HG0, WentOn.refl _ _⟩
  case round =>
    obtain ⟨i, R', hi, rfl, hG, hW⟩ := hrel
    by_cases hin : i < n
    · have d1 : decide ((i : Int) < (n : Int)) = true := decide_eq_true (by omega)
      have d2 : decide (i < n) = true := decide_eq_true hin
      obtain ⟨v, hg⟩ := hG.out
      have HGA := Lib.hid hg
      have hlen : (ls ++ List.replicate i l).length = ls.length + i := by rw [List.length_append, List.length_replicate]
      have HREP : Hid ((ls ++ List.replicate i l) ++ [l] = ls ++ List.replicate (i + 1) l) := by
        show _ = _
        rw [List.append_assoc, ← List.replicate_succ']
      have hrow := hg.row
      obtain ⟨X, eX⟩ : ∃ X, ls ++ List.replicate i l = X := ⟨_, rfl⟩
      rw [eX] at HGA HREP hrow hlen
      obtain ⟨m, em⟩ : ∃ m, X.length = m := ⟨_, rfl⟩
      have EM := Lib.hid em
      rw [em] at hrow hlen
      obtain ⟨vo, vc, rfl⟩ := row_shape hrow
      have hROW := Lib.hid hrow
      have q0 := cell_of_block hg.box 0
      have a0 := fun o => cell_of_block (alloc_old (o' := o) hg.box) 0
      have hm : m + 1 ≤ 2000000 := by omega
      clear hg hrow eX em hG hlen
      go_wp2_with (at_builtin; refine wpList_append_num rfl _ _ rfl (.slice vo m vc) m (X.map natVal) rfl (hROW.out.alloc _) wr.heap.size (.int .i64 (l : Int)) rfl (cell_of_block (heap_alloc_new wr _) 0) rfl (by omega) ?_)
      intro v' w6 hown hgrow hwhere
      obtain ⟨b2, cap2, rfl, hcc⟩ := numForm hown
      have hx0 := HGA.out.grown ((Below.refl _ _).alloc (Nat.le_refl _) _) hgrow
      have r1 := cell_of_block hx0 0
      have r2 := unfrozen_of_block hx0 0
      obtain ⟨R6, j1, j2⟩ := GrowAt.push (x := l) HGA.out ((Below.refl _ _).alloc (Nat.le_refl _) _) hgrow (by rw [EM.out, List.map_append]; exact hown) (fun k hk => (hwhere k hk).imp id (fun h => by simpa using h))
      rw [HREP.out] at j1
      have J1 := Lib.hid j1
      have J2 := Lib.hid (hW.out.trans j2)
      clear hown hgrow hwhere hx0 hcc j1 j2
      go_wp2_with fail
      go_roundw
      case rel => exact ⟨i + 1, R6, by omega, by go_num, J1, J2⟩
      case measure => simp [intOf]; omega
    · obtain rfl : i = n := by omega
      have d1 : decide ((i : Int) < (i : Int)) = false := decide_eq_false (by omega)
      have d2 : decide (i < i) = false := decide_eq_false (by omega)
      go_wp2_with fail
      go_end0
      exact ⟨R', rfl, hG.out, hW.out⟩
end Go.Proofs.YtbfpbmnnlckldaaDoor.Fx
namespace Go.Proofs.YtbfpbmnnlckldaaDoor.Fx
open Go Go.RowKit Go.Joins
set_option linter.unusedVariables false
theorem apart_next {w w' : World} {O O' R : Nat → Prop} (h : WentOn O O' w w') (hR : ∀ k, R k → ¬ O k) (hlt : ∀ k, R k → k < w.heap.size) : ∀ k, R k → ¬ O' k := fun k hk h1 =>
  (h.own k h1).elim (hR k hk) (fun h2 => by have := hlt k hk; omega)
theorem sym_in {c : Cds} {N n l code first place : Nat} {L : List Bool} {m : Nat} {s u : St} {a : Nat} (hN : 0 < N) (hf : ∀ x ∈ c.syms, x < N) (h : Says (symFrom c n l code first place) L m s (.ok a u)) : a < N := by
  induction n generalizing l code first place s with
  | zero =>
    obtain ⟨f, h⟩ := h
    cases h
  | succ n ih =>
    obtain ⟨f, h⟩ := h
    obtain ⟨b, t, h1, h2⟩ := Way.bind_ok h
    split at h2
    · cases h2
      rw [List.getD_eq_getElem?_getD]
      cases hx : c.syms[place + (2 * code + b) - 2 * first]? with
      | none => exact hN
      | some x => exact hf x (List.mem_of_getElem? hx)
    · exact ih ⟨f, h2⟩
theorem symW_in {c : Cds} {N : Nat} {L : List Bool} {m : Nat} {s u : St} {a : Nat} (hN : 0 < N) (hf : ∀ x ∈ c.syms, x < N) (h : Says (symW c) L m s (.ok a u)) : a < N := sym_in hN hf h
theorem make_zero (n : Nat) (hn : n ≤ 400) (w : World) : (Instr.makeSlice 144 (.int .i64 0) (.int .i64 (n : Int))).run Tryd.prog w = .ok (.slice (some ⟨w.heap.size, 0, none⟩) 0 n) (w.alloc (.cells (cellsN (List.replicate n 0)) 3)) := by
  obtain ⟨i0, hi, hz0, hz1, hz2⟩ := info_parts8 infoInt
  have h := run_make (P := Tryd.prog) w 144 3 i0 (.int .i64 0) Tryd.underlying144 hi hz0 .i64 .i64 0 n (Int.le_refl _) (by omega) (by rw [hz2]; omega) (by omega)
  rw [hz1, Int.toNat_natCast, Nat.mul_one] at h
  have e : madeCells (Value.int .i64 0).cells n = cellsN (List.replicate n 0) := by
    apply Array.ext
    · rw [size_madeCells]
      simp [cellsN]
    · intro j h1 h2
      have e : (Value.int .i64 0).cells = #[.int .i64 0] := rfl
      simp [madeCells, cellsN, natVal, e, Nat.mod_one]
  rw [e] at h
  exact h
set_option maxHeartbeats 1000000 in
set_option maxRecDepth 100000 in
/-- A length again and again, unless there would be more than are wanted. -/
theorem addTo_code (w : World) (A B want : Nat) (ls : List Nat) (R : Nat → Prop) (l n : Nat) (hA : w.cell? ⟨A, 0, none⟩ = some (.int .i64 (want : Int))) (h : isG w B ls R) (hw : want ≤ 400) (hn : n ≤ 1000) (hl : ls.length ≤ want) :
    Calls Tryd.prog 109 #[.int .i64 (l : Int), .int .i64 (n : Int), .pointer (some ⟨A, 0, none⟩), .pointer (some ⟨B, 0, none⟩)] w fun e w' =>
      (∃ R', ls.length + n ≤ want ∧ e = .returned (.tuple #[]) ∧ isG w' B (ls ++ List.replicate n l) R' ∧ WentOn R R' w w') ∨ (want < ls.length + n ∧ e = .panicked (fault 10) ∧ Past R w w') := by
  have HG0 : Hid (isG w B (ls ++ List.replicate 0 l) R) := by
    show isG _ _ _ _
    rw [List.replicate_zero, List.append_nil]
    exact h
  obtain ⟨v, hv⟩ := h
  have qb := cell_of_block hv.box 0
  obtain ⟨vo, vc, rfl⟩ := row_shape hv.row
  clear hv
  obtain ⟨k, ek⟩ : ∃ k, ls.length = k := ⟨_, rfl⟩
  have EK := Lib.hid ek
  rw [ek] at qb hl
  have hsub : (want : Int) - (k : Int) = ((want - k : Nat) : Int) := by omega
  obtain ⟨d, ed⟩ : ∃ d, want - k = d := ⟨_, rfl⟩
  rw [ed] at hsub
  have hd : d ≤ 400 := by omega
  by_cases hnd : n ≤ d
  · have d1 : decide ((d : Int) < (n : Int)) = false := decide_eq_false (by omega)
    have d2 : decide (d < n) = false := decide_eq_false (by omega)
    have HFIT : Hid (ls.length + n ≤ want) := by rw [ek]; show _ ≤ _; omega
    clear ek ed
    go_enter Tryd.func109, Tryd.ntmps109
    go_wp2_with fail
    go_at_call 87
    refine (refuse_no _ _).mono ?_
    rintro e w1 ⟨rfl, rfl⟩
    clear qb hA hsub
    go_wp2_with fail
    go_loopw [14] (fun u6 wr => ∃ (i : Nat) (R' : Nat → Prop), i ≤ n ∧ u6 = .int .i64 i ∧ Hid (isG wr B (ls ++ List.replicate i l) R') ∧ Hid (WentOn R R' w wr)) (fun u6 _ => n - (intOf u6).toNat)
    case atStart => exact ⟨0, R, Nat.zero_le _, rfl, HG0, WentOn.refl _ _⟩
    case round =>
      obtain ⟨i, R', hi, rfl, hG, hW⟩ := hrel
      by_cases hin : i < n
      · have d1 : decide ((i : Int) < (n : Int)) = true := decide_eq_true (by omega)
        have d2 : decide (i < n) = true := decide_eq_true hin
        obtain ⟨v, hg⟩ := hG.out
        have HGA := Lib.hid hg
        have hlen : (ls ++ List.replicate i l).length = ls.length + i := by rw [List.length_append, List.length_replicate]
        have HREP : Hid ((ls ++ List.replicate i l) ++ [l] = ls ++ List.replicate (i + 1) l) := by
          show _ = _
          rw [List.append_assoc, ← List.replicate_succ']
        have hrow := hg.row
        obtain ⟨X, eX⟩ : ∃ X, ls ++ List.replicate i l = X := ⟨_, rfl⟩
        rw [eX] at HGA HREP hrow hlen
        obtain ⟨m, em⟩ : ∃ m, X.length = m := ⟨_, rfl⟩
        have EM := Lib.hid em
        rw [em] at hrow hlen
        obtain ⟨vo, vc, rfl⟩ := row_shape hrow
        have hROW := Lib.hid hrow
        have q0 := cell_of_block hg.box 0
        have a0 := fun o => cell_of_block (alloc_old (o' := o) hg.box) 0
        have hm : m + 1 ≤ 2000000 := by have := EK.out; omega
        clear hg hrow eX em hG hlen
        go_wp2_with (at_builtin; refine wpList_append_num rfl _ _ rfl (.slice vo m vc) m (X.map natVal) rfl (hROW.out.alloc _) wr.heap.size (.int .i64 (l : Int)) rfl (cell_of_block (heap_alloc_new wr _) 0) rfl (by omega) ?_)
        intro v' w6 hown hgrow hwhere
        obtain ⟨b2, cap2, rfl, hcc⟩ := numForm hown
        have hx0 := HGA.out.grown ((Below.refl _ _).alloc (Nat.le_refl _) _) hgrow
        have r1 := cell_of_block hx0 0
        have r2 := unfrozen_of_block hx0 0
        obtain ⟨R6, j1, j2⟩ := GrowAt.push (x := l) HGA.out ((Below.refl _ _).alloc (Nat.le_refl _) _) hgrow (by rw [EM.out, List.map_append]; exact hown) (fun k hk => (hwhere k hk).imp id (fun h => by simpa using h))
        rw [HREP.out] at j1
        have J1 := Lib.hid j1
        have J2 := Lib.hid (hW.out.trans j2)
        clear hown hgrow hwhere hx0 hcc j1 j2
        go_wp2_with fail
        go_roundw
        case rel => exact ⟨i + 1, R6, by omega, by go_num, J1, J2⟩
        case measure => simp [intOf]; omega
      · obtain rfl : i = n := by omega
        have d1 : decide ((i : Int) < (i : Int)) = false := decide_eq_false (by omega)
        have d2 : decide (i < i) = false := decide_eq_false (by omega)
        go_wp2_with fail
        go_end0
        exact .inl ⟨R', HFIT.out, rfl, hG.out, hW.out⟩
  · have d1 : decide ((d : Int) < (n : Int)) = true := decide_eq_true (by omega)
    have d2 : decide (d < n) = true := decide_eq_true (by omega)
    have HFIT : Hid (want < ls.length + n) := by rw [ek]; show _ < _; omega
    clear ek ed
    go_enter Tryd.func109, Tryd.ntmps109
    go_wp2_with fail
    go_at_call 87
    refine (refuse_yes 10 _).mono ?_
    rintro e w1 ⟨rfl, rfl⟩
    go_wp2_with fail
    exact ⟨rfl, .inr ⟨HFIT.out, rfl, Past.refl _ _⟩⟩
end Go.Proofs.YtbfpbmnnlckldaaDoor.Fx
