/-
  Whether lengths may be; rows of numbers that grow; the fixed codes, as landed. The conditions stand in each.
-/
import Derived.Test.YtbhmjppnhlmefaaDoorInfN
namespace Go.Proofs.YtbhmjppnhlmefaaDoor.Fx
open Go Go.RowKit Go.Joins
set_option linter.unusedVariables false
theorem load16_at {w : World} {b off : Nat} {cs : List Nat} (hg : ∀ l, l < 16 → w.cell? ⟨b, off + l, none⟩ = some (.int .i64 (cs.getD l 0 : Nat))) (hl : cs.length = 16) : (loadVar 106 ⟨b, off, none⟩).run Tryd.prog w = .ok (.agg (cellsN cs)) w := by
  have hll : (cs.map natVal).length = 16 := by rw [List.length_map]; exact hl
  have h := run_loadCells_list (P := Tryd.prog) w ⟨b, off, none⟩ (cs.map natVal) (fun j u hj => by
    have hadd : (⟨b, off, none⟩ : Addr).add j = ⟨b, off + j, none⟩ := by unfold Addr.add; split <;> simp_all
    have hj2 : j < cs.length := by
      have := (List.getElem?_eq_some_iff.1 hj).1
      rwa [List.length_map] at this
    rw [hadd, hg j (by omega)]
    rw [List.getElem?_map, List.getElem?_eq_getElem hj2] at hj
    obtain rfl := Option.some.inj hj
    rw [List.getD_eq_getElem?_getD, List.getElem?_eq_getElem hj2]
    rfl)
  rw [hll] at h
  have hs : (Tryd.prog.info? 106).map (·.size) = some 16 := by kernel_rfl
  cases hq : Tryd.prog.info? 106 with
  | none => simp [hq] at hs
  | some i =>
    have hs' : i.size = 16 := by simpa [hq] using hs
    have hagg : (isAgg 106).run Tryd.prog w = .ok true w := by
      unfold isAgg
      rw [Sem.run_bind, run_underlying Tryd.underlying106 w]
      rfl
    simp [loadVar, Sem.run_bind, hagg, sizeOf, typeInfo, hq, hs', h, cellsN]
theorem wrap64_nat (n : Nat) (h : n ≤ 9223372036854775807) : wrap64 (n : Int) = (n : Int) := by
  unfold wrap64
  omega
theorem kraft_le (cs : List Nat) (h : ∀ l, cs.getD l 0 ≤ 400) (i : Nat) : kraft cs i ≤ i * 13107200 := by
  induction i with
  | zero => exact Nat.le_refl _
  | succ i ih =>
    unfold kraft
    have h1 : (2 : Nat) ^ (15 - i) ≤ 2 ^ 15 := Nat.pow_le_pow_right (by decide) (by omega)
    have h2 : cs.getD i 0 * 2 ^ (15 - i) ≤ 400 * 2 ^ 15 := Nat.mul_le_mul (h i) h1
    omega
theorem Fit.each {c : Cds} (h : Fit c) (l : Nat) : c.counts.getD l 0 ≤ 400 := by
  have h1 := h.count_le l
  have h2 := h.few
  omega
set_option maxHeartbeats 1000000 in
set_option maxRecDepth 100000 in
theorem mayBe_code (w : World) (b off : Nat) (c : Cds) (K : Nat → Prop) (h : isCd w b off c K) (hf : Fit c) :
    Calls Tryd.prog 67 #[.pointer (some ⟨b, off, none⟩)] w fun e w' => e = .returned (.bool (decide c.mayBe)) ∧ w = w' := by
  have HC := Lib.hid h
  have HA := alone_code w b off c K h
  obtain ⟨v, h⟩ := h
  have HLD := Lib.hid (load16_at h.counts hf.len)
  have HF := Lib.hid hf
  have HK0 : Hid (0 = kraft c.counts 0) := rfl
  clear h hf
  go_enter Tryd.func67, Tryd.ntmps67
  go_wp2_with (refine wpList_load_agg rfl 106 _ rfl ⟨b, off, none⟩ rfl _ HLD.out ?_)
  go_loopw [3, 10] (fun u3 u10 wr => ∃ i a : Nat, i ≤ 16 ∧ u10 = .int .i64 i ∧ u3 = .int .i64 a ∧ Hid (a = kraft c.counts i) ∧ wr = w) (fun _ u10 _ => 16 - (intOf u10).toNat)
  case atStart => exact ⟨0, 0, by omega, rfl, rfl, HK0, rfl⟩
  case round =>
    obtain ⟨i, a, hi, rfl, rfl, hA, rfl⟩ := hrel
    by_cases hi16 : i < 16
    · have d1 : decide ((i : Int) < 16) = true := decide_eq_true (by omega)
      have d2 : decide (i < 16) = true := decide_eq_true hi16
      have hidx := index16 c.counts i HF.out.len hi16
      have hca := HF.out.each i
      have hkr := kraft_le c.counts HF.out.each i
      rw [← hA.out] at hkr
      have hpow : (2 : Nat) ^ (15 - i) ≤ 2 ^ 15 := Nat.pow_le_pow_right (by decide) (by omega)
      have hkk : kraft c.counts (i + 1) = kraft c.counts i + c.counts.getD i 0 * 2 ^ (15 - i) := rfl
      rw [← hA.out] at hkk
      have HKK : Hid (a + c.counts.getD i 0 * 2 ^ (15 - i) = kraft c.counts (i + 1)) := hkk.symm
      generalize c.counts.getD i 0 = k at *
      have hprod : k * 2 ^ (15 - i) ≤ 400 * 2 ^ 15 := Nat.mul_le_mul hca hpow
      have hw1 : wrap64 ((k : Int) * 2 ^ (15 - i)) = ((k * 2 ^ (15 - i) : Nat) : Int) := by
        have : ((k : Int) * 2 ^ (15 - i)) = ((k * 2 ^ (15 - i) : Nat) : Int) := by simp
        rw [this]
        exact wrap64_nat _ (by omega)
      have hw2 : IntKind.i64.wrap ((k : Int) * 2 ^ (15 - i)) = ((k * 2 ^ (15 - i) : Nat) : Int) := by
        have : ((k : Int) * 2 ^ (15 - i)) = ((k * 2 ^ (15 - i) : Nat) : Int) := by simp
        rw [this, IntKind.wrap_i64]
        omega
      generalize k * 2 ^ (15 - i) = Y at *
      have ha2 : a ≤ 209715200 := by omega
      clear hkk hA hpow
      go_wp2_with fail
      go_roundw
      case rel => exact ⟨i + 1, a + Y, by omega, by go_num, by go_num, HKK, trivial⟩
      case measure => simp [intOf]; omega
    · have hi2 : i = 16 := by omega
      have d1 : decide ((i : Int) < 16) = false := decide_eq_false (by omega)
      have d2 : decide (i < 16) = false := decide_eq_false (by omega)
      rw [hi2] at hA
      have hm : c.mayBe ↔ (a = 32768 ∨ c.alone) := by
        unfold Cds.mayBe
        rw [← hA.out]
      clear hi2 hi hi16 hA
      by_cases ha : a = 32768
      · have e1 : ((a : Int) == 32768) = true := by simp; omega
        have e2 : decide ((a : Int) = 32768) = true := decide_eq_true (by omega)
        have HM : Hid (decide c.mayBe = true) := decide_eq_true (hm.2 (.inl ha))
        clear ha hm
        go_wp2_with fail
        go_ret
        exact ⟨by rw [HM.out]; rfl, rfl⟩
      · have e1 : ((a : Int) == 32768) = false := by simp; omega
        have e2 : decide ((a : Int) = 32768) = false := decide_eq_false (by omega)
        have HM : Hid (decide c.mayBe = decide c.alone) := decide_eq_decide.2 ⟨fun h => (hm.1 h).resolve_left ha, fun h => hm.2 (.inr h)⟩
        clear ha hm
        generalize decide c.alone = B at *
        go_wp2_with (go_at_call 72; refine HA.mono ?_; rintro e w1 ⟨rfl, rfl⟩)
        go_ret
        exact ⟨by rw [HM.out]; rfl, rfl⟩
/-! ### Rows of numbers that grow -/
/-- A box that holds a row of numbers of its own; R: its blocks. -/
structure GrowAt (w : World) (B : Nat) (ls : List Nat) (R : Nat → Prop) (v : Value) : Prop where
  box : w.heap[B]? = some (.cells #[v] 104 (0, 0))
  row : w.ownsRow 0 3 1 v ls.length (ls.map natVal)
  ne : v.ownBlock ≠ some B
  own : R = fun k => k = B ∨ v.ownBlock = some k
def isG (w : World) (B : Nat) (ls : List Nat) (R : Nat → Prop) : Prop := ∃ v, GrowAt w B ls R v
theorem isG_lt {w : World} {B : Nat} {ls : List Nat} {R : Nat → Prop} (h : isG w B ls R) : ∀ k, R k → k < w.heap.size := by
  obtain ⟨v, h⟩ := h
  intro k hk
  rw [h.own] at hk
  rcases hk with rfl | hk
  · exact (Array.getElem?_eq_some_iff.1 h.box).1
  · exact (h.row.lt k hk).2
theorem numRow_same {w w' : World} {base : Nat} {v : Value} {n : Nat} {xs : List Value} (h : w.ownsRow base 3 1 v n xs) (hk : ∀ k, v.ownBlock = some k → w'.heap[k]? = w.heap[k]?) : w'.ownsRow base 3 1 v n xs := by
  refine ⟨h.1, ?_⟩
  rcases h.2 with hn | ⟨g, cap, cur, rfl, hb, hg, rest⟩
  · exact .inl hn
  · exact .inr ⟨g, cap, cur, rfl, hb, (hk g rfl).trans hg, rest⟩
theorem isG_keep {w w' : World} {B : Nat} {ls : List Nat} {R : Nat → Prop} (h : isG w B ls R) (hk : ∀ k, R k → w'.heap[k]? = w.heap[k]?) : isG w' B ls R := by
  obtain ⟨v, h⟩ := h
  have ho := h.own
  subst ho
  exact ⟨v, (hk B (.inl rfl)).trans h.box, numRow_same h.row (fun k hh => hk k (.inr hh)), h.ne, rfl⟩
theorem isG_went {w w' : World} {B : Nat} {ls : List Nat} {R O : Nat → Prop} (h : isG w B ls R) (hp : Past O w w') (hR : ∀ k, R k → ¬ O k) : isG w' B ls R := isG_keep h (fun k hk => hp.block k (isG_lt h k hk) (hR k hk))
theorem GrowAt.grown {w w1 w2 : World} {B : Nat} {ls : List Nat} {R : Nat → Prop} {v : Value} (h : GrowAt w B ls R v) (hb : Below w.heap.size w w1) (hgr : w1.grownBy w2 v.ownBlock) : w2.heap[B]? = some (.cells #[v] 104 (0, 0)) := by
  have hg := (Array.getElem?_eq_some_iff.1 h.box).1
  exact (hgr.block B (Nat.lt_of_lt_of_le hg hb.size) (fun e => h.ne e.symm)).trans ((hb.block B hg).trans h.box)
theorem GrowAt.push {w w1 w2 : World} {B : Nat} {ls : List Nat} {R : Nat → Prop} {v v' : Value} {x : Nat} (h : GrowAt w B ls R v) (hb : Below w.heap.size w w1) (hgr : w1.grownBy w2 v.ownBlock)
    (hown : w2.ownsRow 0 3 1 v' (ls.length + 1) ((ls ++ [x]).map natVal)) (hwh : ∀ k, v'.ownBlock = some k → v.ownBlock = some k ∨ w1.heap.size ≤ k) :
    ∃ R', isG (w2.setCell ⟨B, 0, none⟩ v') B (ls ++ [x]) R' ∧ WentOn R R' w (w2.setCell ⟨B, 0, none⟩ v') := by
  have hg := (Array.getElem?_eq_some_iff.1 h.box).1
  have hobj := h.grown hb hgr
  have hsz : (w2.setCell ⟨B, 0, none⟩ v').heap.size = w2.heap.size := by simp
  have hlt2 : w.heap.size ≤ w2.heap.size := Nat.le_trans hb.size hgr.size
  have hne' : v'.ownBlock ≠ some B := fun e => by
    rcases hwh B e with e2 | e2
    · exact h.ne e2
    · have := hb.size; omega
  have ho := h.own
  subst ho
  refine ⟨_, ⟨v', by simpa using block_setCell (i := 0) hobj v', ?_, hne', rfl⟩, fun b hbo => ?_, ?_⟩
  · rw [List.length_append]
    exact numRow_same hown (fun k hk => Below.heap_setCell _ _ _ k (fun e => hne' (by have e : k = B := e; rw [e] at hk; exact hk)))
  · rcases hbo with hbo | hbo
    · exact .inl (.inl hbo)
    · rcases hwh b hbo with e2 | e2
      · exact .inl (.inr e2)
      · exact .inr (Nat.le_trans hb.size e2)
  · exact ⟨hgr.os.trans hb.os, hgr.tape.trans hb.tape, hgr.output.trans hb.output, by rw [hsz]; exact hlt2, fun k hk hn =>
      (Below.heap_setCell _ _ _ k (fun e => hn (.inl e))).trans ((hgr.block k (Nat.lt_of_lt_of_le hk hb.size) (fun e => hn (.inr e.symm))).trans (hb.block k hk))⟩
theorem infoInt : (Tryd.prog.info? 3).map (fun i => (i.zero, i.size, i.bytes)) = some (some (.int .i64 0), 1, 8) := by kernel_rfl
theorem info_parts8 {P : Program} {e : TypeId} {z : Value} {n m : Nat} (h : (P.info? e).map (fun i => (i.zero, i.size, i.bytes)) = some (some z, n, m)) : ∃ i, P.info? e = some i ∧ i.zero = some z ∧ i.size = n ∧ i.bytes = m := by
  obtain ⟨i, hi, hzz⟩ := Option.map_eq_some_iff.1 h
  simp only [Prod.mk.injEq] at hzz
  exact ⟨i, hi, hzz.1, hzz.2.1, hzz.2.2⟩
/-- 'append(own, x)' of one number, and where the new row lies. -/
theorem wpList_append_num {w : World} {ops : Array Oper} {rest : List Oper} {o : Oper} {a : Act} {Q : Exit → Act → World → Prop} (hgd : o.guard = none) (s x : Operand)
    (ho : o.op = .call { callee := .builtin .append, args := #[s, x], argTypes := #[104, 104] })
    (v : Value) (n : Nat) (xs : List Value) (hs : a.eval s = v) (hown : w.ownsRow 0 3 1 v n xs) (g : Nat) (y : Value) (hx : a.eval x = .slice (some ⟨g, 0, none⟩) 1 1) (hy : w.cell? ⟨g, 0, none⟩ = some y) (hy1 : y.oneCell' = true)
    (hlen : n + 1 ≤ 17592186044416)
    (h : ∀ v' w', w'.ownsRow 0 3 1 v' (n + 1) (xs ++ [y]) → w.grownBy w' v.ownBlock → (∀ k, v'.ownBlock = some k → v.ownBlock = some k ∨ w.heap.size ≤ k) → wpList Tryd.prog ops Q rest (a.put o.dst v') w') : wpList Tryd.prog ops Q (o :: rest) a w := by
  obtain ⟨i0, hi, hz0, hz1, hz2⟩ := info_parts8 infoInt
  obtain ⟨v', w', hrun, r1, r2, r3⟩ := run_append_where (P := Tryd.prog) w 0 104 o.type 3 i0 (.int .i64 0) 1 8 Tryd.underlying104 hi hz0 hz1 hz2 rfl (by decide) v n xs hown ⟨g, 0, none⟩ 1 1 [y] rfl (fun j u hj => by
    match j, hj with
    | 0, hj =>
      obtain rfl := Option.some.inj hj
      simpa [Addr.add] using hy
    | j + 1, hj => simp at hj) (fun u hu => by
      obtain rfl := List.mem_singleton.1 hu
      exact hy1) (by unfold maxLen; omega) (by omega) (Nat.zero_le _)
  have hw : Region.wanted o (yielded ops a.tmps) = true := by simp [Region.wanted, hgd]
  unfold wpList
  simp only [hw, if_true]
  left
  unfold Oper.wp
  simp [execOp, ho, resolve, invoke, builtin, hs, hx, hrun, Result.andThen]
  exact h v' w' r1 r2 r3
theorem numForm {w : World} {v : Value} {c : Nat} {xs : List Value} (h : w.ownsRow 0 3 1 v (c + 1) xs) : ∃ b cap, v = .slice (some ⟨b, 0, none⟩) (c + 1) cap ∧ c + 1 ≤ cap := by
  rcases h.2 with ⟨_, h⟩ | ⟨b, cap, cur, rfl, _, _, hc, _⟩
  · omega
  · exact ⟨b, cap, rfl, hc⟩
set_option maxHeartbeats 1000000 in
set_option maxRecDepth 100000 in
/-- A length again and again, of the fixed codes. -/
theorem again_code (w : World) (B : Nat) (ls : List Nat) (R : Nat → Prop) (l n : Nat) (h : isG w B ls R) (hn : ls.length + n ≤ 1000000) :
    Calls Tryd.prog 61 #[.int .i64 (l : Int), .int .i64 (n : Int), .pointer (some ⟨B, 0, none⟩)] w fun e w' => ∃ R', e = .returned (.tuple #[]) ∧ isG w' B (ls ++ List.replicate n l) R' ∧ WentOn R R' w w' := by
  have HG0 : Hid (isG w B (ls ++ List.replicate 0 l) R) := by
    show isG _ _ _ _
    rw [List.replicate_zero, List.append_nil]
    exact h
  clear h
  go_enter Tryd.func61, Tryd.ntmps61
  go_wp2_with fail
  go_loopw [6] (fun u6 wr => ∃ (i : Nat) (R' : Nat → Prop), i ≤ n ∧ u6 = .int .i64 i ∧ Hid (isG wr B (ls ++ List.replicate i l) R') ∧ Hid (WentOn R R' w wr)) (fun u6 _ => n - (intOf u6).toNat)
  case atStart => exact ⟨0, R, Nat.zero_le _, rfl, HG0, WentOn.refl _ _⟩
  case round =>
    obtain ⟨i, R', hi, rfl, hG, hW⟩ := hrel
    by_cases hin : i < n
    · have d1 : decide ((i : Int) < (n : Int)) = true := decide_eq_true (by omega)
      have d2 : decide (i < n) = true := decide_eq_true hin
      obtain ⟨v, hg⟩ := hG.out
      have HGA := Lib.hid hg
      have hlen : (ls ++ List.replicate i l).length = ls.length + i := by rw [List.length_append, List.length_replicate]
      have HREP : Hid ((ls ++ List.replicate i l) ++ [l] = ls ++ List.replicate (i + 1) l) := by
        show _ = _
        rw [List.append_assoc, ← List.replicate_succ']
      have hrow := hg.row
      obtain ⟨X, eX⟩ : ∃ X, ls ++ List.replicate i l = X := ⟨_, rfl⟩
      rw [eX] at HGA HREP hrow hlen
      obtain ⟨m, em⟩ : ∃ m, X.length = m := ⟨_, rfl⟩
      have EM := Lib.hid em
      rw [em] at hrow hlen
      obtain ⟨vo, vc, rfl⟩ := row_shape hrow
      have hROW := Lib.hid hrow
      have q0 := cell_of_block hg.box 0
      have a0 := fun o => cell_of_block (alloc_old (o' := o) hg.box) 0
      have hm : m + 1 ≤ 2000000 := by omega
      clear hg hrow eX em hG hlen
      go_wp2_with (at_builtin; refine wpList_append_num rfl _ _ rfl (.slice vo m vc) m (X.map natVal) rfl (hROW.out.alloc _) wr.heap.size (.int .i64 (l : Int)) rfl (cell_of_block (heap_alloc_new wr _) 0) rfl (by omega) ?_)
      intro v' w6 hown hgrow hwhere
      obtain ⟨b2, cap2, rfl, hcc⟩ := numForm hown
      have hx0 := HGA.out.grown ((Below.refl _ _).alloc (Nat.le_refl _) _) hgrow
      have r1 := cell_of_block hx0 0
      have r2 := unfrozen_of_block hx0 0
      obtain ⟨R6, j1, j2⟩ := GrowAt.push (x := l) HGA.out ((Below.refl _ _).alloc (Nat.le_refl _) _) hgrow (by rw [EM.out, List.map_append]; exact hown) (fun k hk => (hwhere k hk).imp id (fun h => by simpa using h))
      rw [HREP.out] at j1
      have J1 := Lib.hid j1
      have J2 := Lib.hid (hW.out.trans j2)
      clear hown hgrow hwhere hx0 hcc j1 j2
      go_wp2_with fail
      go_roundw
      case rel => exact ⟨i + 1, R6, by omega, by go_num, J1, J2⟩
      case measure => simp [intOf]; omega
    · obtain rfl : i = n := by omega
      have d1 : decide ((i : Int) < (i : Int)) = false := decide_eq_false (by omega)
      have d2 : decide (i < i) = false := decide_eq_false (by omega)
      go_wp2_with fail
      go_end0
      exact ⟨R', rfl, hG.out, hW.out⟩
end Go.Proofs.YtbhmjppnhlmefaaDoor.Fx
