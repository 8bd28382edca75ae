/-
  Order and rows, as landed: the closures that pixels are handed to. The conditions stand in each.
-/
import Derived.Test.YtefdlidjdmlnaaaPngO
import Derived.Test.YtefdlidjdmlnaaaWinJ
import Derived.Laws.MakeOwn
namespace Go.Proofs.Ytefdlidjdmlnaaa.Fx
open Go Go.RowKit Go.Joins
set_option linter.unusedVariables false
def nv (n : Nat) : Value := .int .i64 (n : Int)
theorem info64 : (Try.prog.info? 3).map (fun i => (i.zero, i.size, i.bytes)) = some (some (.int .i64 0), 1, 8) := by kernel_rfl
/-- A box that holds a row of numbers of its own. -/
structure PBox (q : Nat) (w : World) (v : Value) (ns : List Nat) : Prop where
  box : w.heap[q]? = some (.cells #[v] 28 (0, 0))
  row : w.ownsRow 0 3 1 v ns.length (ns.map nv)
  ne : v.ownBlock ≠ some q
def ownO (q : Nat) (v : Value) : Nat → Prop := fun k => k = q ∨ v.ownBlock = some k
theorem PBox.lt {q : Nat} {w : World} {v : Value} {ns : List Nat} (h : PBox q w v ns) : ∀ k, ownO q v k → k < w.heap.size := by
  rintro k (rfl | hk)
  · exact (Array.getElem?_eq_some_iff.1 h.box).1
  · exact (h.row.lt k hk).2
theorem PBox.keep {q : Nat} {w w' : World} {v : Value} {ns : List Nat} (h : PBox q w v ns) (hk : ∀ k, k < w.heap.size → w'.heap[k]? = w.heap[k]?) : PBox q w' v ns :=
  ⟨(hk q (Array.getElem?_eq_some_iff.1 h.box).1).trans h.box, owns_kept h.row (fun k hb => hk k (h.row.lt k hb).2), h.ne⟩
/-- Behind an append and the store of what it told. -/
theorem PBox.grown {q : Nat} {w wa w' : World} {v v' : Value} {ns : List Nat} {n : Nat} (h : PBox q w v ns) (hb : Below w.heap.size w wa) (h1 : w'.ownsRow 0 3 1 v' (ns.length + 1) ((ns ++ [n]).map nv)) (h2 : wa.grownBy w' v.ownBlock) (h3 : ∀ k, v'.ownBlock = some k → v.ownBlock = some k ∨ wa.heap.size ≤ k) :
    PBox q (w'.setCell ⟨q, 0, none⟩ v') v' (ns ++ [n]) ∧ (∀ k, ownO q v' k → ownO q v k ∨ w.heap.size ≤ k) ∧ Past (ownO q v) w (w'.setCell ⟨q, 0, none⟩ v') := by
  have hq := (Array.getElem?_eq_some_iff.1 h.box).1
  have hs := hb.size
  have hbox : w'.heap[q]? = some (.cells #[v] 28 (0, 0)) := (h2.block q (by omega) (fun e => h.ne e.symm)).trans ((hb.block q hq).trans h.box)
  have hne : v'.ownBlock ≠ some q := fun e => (h3 q e).elim h.ne (fun h' => by omega)
  refine ⟨⟨block_setCell hbox _, ?_, hne⟩, ?_, ?_⟩
  · rw [List.length_append]
    exact ownsRow_setCell_other h1 (a := ⟨q, 0, none⟩) hne _
  · rintro k (rfl | hk)
    · exact .inl (.inl rfl)
    · exact (h3 k hk).elim (fun h' => .inl (.inr h')) (fun h' => .inr (by omega))
  · refine ⟨h2.os.trans hb.os, h2.tape.trans hb.tape, h2.output.trans hb.output, ?_, fun k hk hn => ?_⟩
    · have := h2.size
      simp
      omega
    · refine (Below.heap_setCell _ _ _ k (fun e => hn (.inl e))).trans ((h2.block k (by omega) (fun e => hn (.inr e.symm))).trans (hb.block k hk))
def isOrd (q : Nat) (w : World) (l : List (Nat × Bool)) (O : Nat → Prop) : Prop := ∃ v, PBox q w v (l.map (·.1)) ∧ O = ownO q v
set_option maxHeartbeats 1000000 in
set_option maxRecDepth 100000 in
theorem ord_walker (q w h : Nat) (hw : w ≤ 1024) (hh : h ≤ 1024) : Walker 25 (.pointer (some ⟨q, 0, none⟩)) w h (isOrd q) := by
  refine ⟨fun args w => by go_simp, ?_, ?_, ?_⟩
  · rintro w l O ⟨v, h, rfl⟩
    exact h.lt
  · rintro w w' l O ⟨v, h, rfl⟩ _ hk
    exact ⟨v, h.keep hk, rfl⟩
  · rintro W l O n b r ⟨v, hB, rfl⟩ hm hn
    have hlen : l.length ≤ 1048576 := by
      have h1 := congrArg List.length hm
      have h2 := order_length w h
      rw [← marked_fst, List.length_map] at h2
      rw [h2, List.length_append] at h1
      have : w * h ≤ 1024 * 1024 := Nat.mul_le_mul hw hh
      omega
    have hn2 : n ≤ 1048576 := by
      have : w * h ≤ 1024 * 1024 := Nat.mul_le_mul hw hh
      omega
    have HB := Lib.hid hB
    obtain ⟨o, c, rfl⟩ := row_shape hB.row
    obtain ⟨ns, ens⟩ : ∃ ns, l.map (·.1) = ns := ⟨_, rfl⟩
    have HN : Hid ((l ++ [(n, b)]).map (·.1) = ns ++ [n]) := by
      show _ = _
      rw [List.map_append, ens]
      rfl
    have hnl : ns.length ≤ 1048576 := by rw [← ens, List.length_map]; exact hlen
    rw [ens] at HB hB ⊢
    have q0 := cell_of_block hB.box 0
    have f0 := unfrozen_of_block hB.box 0
    have hqs := (Array.getElem?_eq_some_iff.1 hB.box).1
    obtain ⟨L, eL⟩ : ∃ L, ns.length = L := ⟨_, rfl⟩
    have EL := Lib.hid eL
    rw [eL] at HB hnl q0 ⊢
    clear hB hm hn hlen ens eL
    go_enter Try.func25, Try.ntmps25
    go_wp2_with (at_builtin; refine wpList_append_to (c := nv) rfl _ _ 28 rfl 3 (.int .i64 0) 8 Try.underlying28 info64 rfl (fun _ => rfl) (.slice o L c) L ns rfl (by have h := HB.out.row.alloc (.cells #[.int .i64 (n : Int)] 3); rw [EL.out] at h; exact h) _ [n] rfl (listed_one W n _ _ rfl) (by unfold maxLen; simp only [List.length_cons, List.length_nil]; omega) (by simp only [List.length_cons, List.length_nil]; omega) ?_)
    intro v' w' g1 g2 g3
    have g1' : w'.ownsRow 0 3 1 v' (L + 1) ((ns ++ [n]).map nv) := by rw [List.map_append]; exact g1
    have g3' : ∀ k, v'.ownBlock = some k → (Value.slice o L c).ownBlock = some k ∨ (W.alloc (.cells #[.int .i64 (n : Int)] 3)).heap.size ≤ k := fun k hk => (g3 k hk).imp id (fun h => by show (W.heap.push _).size ≤ k; rw [Array.size_push]; exact h)
    have HG : Hid (PBox q (w'.setCell ⟨q, 0, none⟩ v') v' (ns ++ [n]) ∧ (∀ k, ownO q v' k → ownO q (.slice o L c) k ∨ W.heap.size ≤ k) ∧ Past (ownO q (.slice o L c)) W (w'.setCell ⟨q, 0, none⟩ v')) := HB.out.grown (below_alloc1 W _) (by rw [EL.out]; exact g1') g2 g3'
    have hsz := g2.size
    have q1 : w'.cell? ⟨q, 0, none⟩ = some (.slice o L c) := by
      have h1 := (g2.block q (by show _ < (W.heap.push _).size; simp; omega) (fun e => HB.out.ne e.symm)).trans (((below_alloc1 W _).block q hqs).trans HB.out.box)
      exact cell_of_block h1 0
    have f1 : w'.frozen? ⟨q, 0, none⟩ = false := by
      have h1 := (g2.block q (by show _ < (W.heap.push _).size; simp; omega) (fun e => HB.out.ne e.symm)).trans (((below_alloc1 W _).block q hqs).trans HB.out.box)
      exact unfrozen_of_block h1 0
    obtain ⟨o', c', rfl⟩ := row_shape g1
    clear g1 g2 g3 g1' g3' q0 f0 hsz
    go_wp2_with fail
    refine bodyPost_end (v := .tuple #[]) (by simp [results, Try.results25, go_sem]) rfl ⟨rfl, _, ⟨_, ?_, rfl⟩, HG.out.2.1, HG.out.2.2⟩
    rw [HN.out]
    exact HG.out.1
/-! ### Rows -/
theorem count_most (l : List Bool) (c : List Nat) (k : Nat) (hc : ∀ x ∈ c, x ≤ k) : ∀ x ∈ l.foldl countStep c, x ≤ k + l.length := by
  induction l generalizing c k with
  | nil => exact hc
  | cons b l ih =>
    intro x hx
    rw [List.foldl_cons] at hx
    have h := ih (countStep c b) (k + 1) (fun y hy => by
      unfold countStep at hy
      split at hy
      · rcases List.mem_append.1 hy with h | h
        · have := hc y h; omega
        · obtain rfl := List.mem_singleton.1 h; omega
      · rcases List.mem_or_eq_of_mem_set hy with h | h
        · have := hc y h; omega
        · rw [h]
          by_cases hi : c.length - 1 < c.length
          · rw [List.getD_eq_getElem?_getD, List.getElem?_eq_getElem hi]
            have := hc _ (List.getElem_mem hi)
            show c[c.length - 1] + 1 ≤ k + 1
            omega
          · rw [List.getD_eq_getElem?_getD, List.getElem?_eq_none (by omega)]
            show 0 + 1 ≤ k + 1
            omega) x hx
    rw [List.length_cons]
    omega
theorem last_of {c : List Nat} (h : c ≠ []) : ∃ d m, c = d ++ [m] := ⟨c.dropLast, c.getLast h, (List.dropLast_concat_getLast h).symm⟩
theorem step_last (d : List Nat) (m : Nat) : countStep (d ++ [m]) false = d ++ [m + 1] := by
  unfold countStep
  rw [if_neg (by decide)]
  simp
theorem PBox.bump {q g K c m : Nat} {w : World} {d : List Nat} (h : PBox q w (.slice (some ⟨g, 0, none⟩) (K + 1) c) (d ++ [m])) (hd : d.length = K) :
    w.cell? ⟨g, K, none⟩ = some (.int .i64 (m : Int)) ∧ w.frozen? ⟨g, K, none⟩ = false ∧ PBox q (w.setCell ⟨g, K, none⟩ (.int .i64 ((m + 1 : Nat) : Int))) (.slice (some ⟨g, 0, none⟩) (K + 1) c) (d ++ [m + 1]) ∧ Past (ownO q (.slice (some ⟨g, 0, none⟩) (K + 1) c)) w (w.setCell ⟨g, K, none⟩ (.int .i64 ((m + 1 : Nat) : Int))) := by
  have hl : (d ++ [m]).length = K + 1 := by rw [List.length_append, hd]; rfl
  have hrow := h.row
  rw [hl] at hrow
  have hqg : q ≠ g := fun e => h.ne (by rw [e]; rfl)
  have hget : ((d ++ [m]).map nv)[K]? = some (nv m) := by
    rw [List.getElem?_map, ← hd, List.getElem?_append_right (Nat.le_refl _), Nat.sub_self]
    rfl
  have hc := hrow.cells (g := g) rfl K _ hget
  have hadd : (⟨g, 0, none⟩ : Addr).add K = ⟨g, K, none⟩ := by rw [Addr.add_lit, Nat.zero_add]
  rw [hadd] at hc
  obtain ⟨o2, c2, hs⟩ := row_shape hrow
  have hst := World.ownsRow.stored hrow K (.int .i64 ((m + 1 : Nat) : Int))
  have hset : ((d ++ [m]).map nv).set K (.int .i64 ((m + 1 : Nat) : Int)) = (d ++ [m + 1]).map nv := by
    have : (.int .i64 ((m + 1 : Nat) : Int) : Value) = nv (m + 1) := rfl
    rw [this, ← List.map_set, List.set_append_right _ _ (by omega), hd, Nat.sub_self]
    rfl
  refine ⟨hc, ?_, ⟨(Below.heap_setCell _ _ _ q hqg).trans h.box, ?_, h.ne⟩, ?_⟩
  · rcases hrow.2 with ⟨hn, _⟩ | ⟨g', cap', cur, hv, _, hg, _⟩
    · simp at hn
    · simp only [Value.slice.injEq, Option.some.injEq, Addr.mk.injEq] at hv
      obtain ⟨⟨rfl, _⟩, _⟩ := hv
      exact unfrozen_of_block hg K
  · have hl2 : (d ++ [m + 1]).length = K + 1 := by rw [List.length_append, hd]; rfl
    rw [hl2, ← hset]
    exact hst.1
  · exact ⟨rfl, rfl, rfl, by simp, fun k _ hn => Below.heap_setCell _ _ _ k (fun e => hn (.inr (by rw [e]; rfl)))⟩
def isRow (q : Nat) (w : World) (l : List (Nat × Bool)) (O : Nat → Prop) : Prop := ∃ v, PBox q w v ((l.map (·.2)).foldl countStep []) ∧ O = ownO q v
set_option maxHeartbeats 2000000 in
set_option maxRecDepth 100000 in
theorem row_walker (q w h : Nat) (hw : w ≤ 1024) (hh : h ≤ 1024) : Walker 38 (.pointer (some ⟨q, 0, none⟩)) w h (isRow q) := by
  refine ⟨fun args w => by go_simp, ?_, ?_, ?_⟩
  · rintro w l O ⟨v, h, rfl⟩
    exact h.lt
  · rintro w w' l O ⟨v, h, rfl⟩ _ hk
    exact ⟨v, h.keep hk, rfl⟩
  · rintro W l O n b r ⟨v, hB, rfl⟩ hm hn
    have hlen : l.length ≤ 1048576 := by
      have h1 := congrArg List.length hm
      have h2 := order_length w h
      rw [← marked_fst, List.length_map] at h2
      rw [h2, List.length_append] at h1
      have : w * h ≤ 1024 * 1024 := Nat.mul_le_mul hw hh
      omega
    have hmost := count_most (l.map (·.2)) [] 0 (fun x hx => by cases hx)
    have hcl : ((l.map (·.2)).foldl countStep []).length ≤ 1048576 := by
      have : ∀ (l : List Bool) (c : List Nat), (l.foldl countStep c).length ≤ c.length + l.length := by
        intro l
        induction l with
        | nil => intro c; exact Nat.le_refl _
        | cons b l ih =>
          intro c
          rw [List.foldl_cons, List.length_cons]
          refine Nat.le_trans (ih _) ?_
          have : (countStep c b).length ≤ c.length + 1 := by
            unfold countStep
            split
            · simp
            · simp
          omega
      have h1 := this (l.map (·.2)) []
      rw [List.length_map] at h1
      simp at h1
      omega
    have HN : Hid (((l ++ [(n, b)]).map (·.2)).foldl countStep [] = countStep ((l.map (·.2)).foldl countStep []) b) := by
      show _ = _
      rw [List.map_append, List.foldl_append]
      rfl
    have hstart : b = false → (l.map (·.2)).foldl countStep [] ≠ [] := by
      rintro rfl
      have h1 : flagsOf w h = l.map (·.2) ++ false :: r.map (·.2) := by
        unfold flagsOf
        rw [hm]
        simp
      have h2 := count_start (rowCounts w h) (fun n hn => counts_above hn) l.length (by
        rw [← flags_counts, h1, List.getElem?_append_right (by simp)]
        simp)
      rw [← flags_counts, h1, List.take_left' (by simp)] at h2
      exact h2
    rw [List.length_map] at hmost
    obtain ⟨ns, ens⟩ : ∃ ns, (l.map (·.2)).foldl countStep [] = ns := ⟨_, rfl⟩
    rw [ens] at HN hstart hmost hB hcl
    cases b with
    | true =>
      have HB := Lib.hid hB
      obtain ⟨o, c, rfl⟩ := row_shape hB.row
      have q0 := cell_of_block hB.box 0
      have f0 := unfrozen_of_block hB.box 0
      have hqs := (Array.getElem?_eq_some_iff.1 hB.box).1
      obtain ⟨L, eL⟩ : ∃ L, ns.length = L := ⟨_, rfl⟩
      have EL := Lib.hid eL
      rw [eL] at HB hcl q0 ⊢
      clear hB hm hn hlen hstart hmost ens eL
      go_enter Try.func38, Try.ntmps38
      go_wp2_with (at_builtin; refine wpList_append_to (c := nv) rfl _ _ 28 rfl 3 (.int .i64 0) 8 Try.underlying28 info64 rfl (fun _ => rfl) (.slice o L c) L ns rfl (by have h := HB.out.row.alloc (.cells #[.int .i64 0] 3); rw [EL.out] at h; exact h) _ [0] rfl (listed_one W 0 _ _ rfl) (by unfold maxLen; simp only [List.length_cons, List.length_nil]; omega) (by simp only [List.length_cons, List.length_nil]; omega) ?_)
      intro v' w' g1 g2 g3
      have g1' : w'.ownsRow 0 3 1 v' (L + 1) ((ns ++ [0]).map nv) := by rw [List.map_append]; exact g1
      have g3' : ∀ k, v'.ownBlock = some k → (Value.slice o L c).ownBlock = some k ∨ (W.alloc (.cells #[.int .i64 0] 3)).heap.size ≤ k := fun k hk => (g3 k hk).imp id (fun h => by show (W.heap.push _).size ≤ k; rw [Array.size_push]; exact h)
      have hG := HB.out.grown (below_alloc1 W _) (by rw [EL.out]; exact g1') g2 g3'
      have HG := Lib.hid hG
      have hsz := g2.size
      have q1 : w'.cell? ⟨q, 0, none⟩ = some (.slice o L c) := by
        have h1 := (g2.block q (by show _ < (W.heap.push _).size; simp; omega) (fun e => HB.out.ne e.symm)).trans (((below_alloc1 W _).block q hqs).trans HB.out.box)
        exact cell_of_block h1 0
      have f1 : w'.frozen? ⟨q, 0, none⟩ = false := by
        have h1 := (g2.block q (by show _ < (W.heap.push _).size; simp; omega) (fun e => HB.out.ne e.symm)).trans (((below_alloc1 W _).block q hqs).trans HB.out.box)
        exact unfrozen_of_block h1 0
      obtain ⟨o', c', rfl⟩ := row_shape g1
      obtain ⟨g, rfl⟩ : ∃ g, o' = some ⟨g, 0, none⟩ := by
        rcases g1.2 with ⟨hn, _⟩ | ⟨g, cap', cur, hv, _⟩
        · simp at hn
        · simp only [Value.slice.injEq] at hv
          exact ⟨g, hv.1⟩
      obtain ⟨b1, b2, b3, b4⟩ := hG.1.bump EL.out
      have q2 := cell_of_block hG.1.box 0
      have HB3 := Lib.hid b3
      have HB4 := Lib.hid b4
      obtain ⟨w2, ew2⟩ : ∃ w2, w2 = w'.setCell ⟨q, 0, none⟩ (.slice (some ⟨g, 0, none⟩) (L + 1) c') := ⟨_, rfl⟩
      rw [← ew2] at b1 b2 q2 HB3 HB4 HG
      clear g1 g2 g3 g1' g3' q0 f0 hsz b3 b4 hG
      obtain ⟨L1, eL1⟩ : ∃ v, L + 1 = v := ⟨_, rfl⟩
      rw [eL1] at q2 HB3 HB4 HG ew2 ⊢
      have hL2 : (L1 : Int) - 1 = (L : Int) := by omega
      have hL3 : L < L1 := by omega
      have hL4 : L1 ≤ 2000000 := by omega
      clear eL1
      go_upto_region 2 with fail
      rw [← ew2]
      clear ew2 q1 f1
      go_wp2_with fail
      refine bodyPost_end (v := .tuple #[]) (by simp [results, Try.results38, go_sem]) rfl ⟨rfl, _, ⟨_, ?_, rfl⟩, HG.out.2.1, HG.out.2.2.trans HB4.out HG.out.2.1⟩
      rw [HN.out]
      exact HB3.out
    | false =>
      obtain ⟨d, m, rfl⟩ := last_of (hstart rfl)
      obtain ⟨K, eK⟩ : ∃ K, d.length = K := ⟨_, rfl⟩
      have hl : (d ++ [m]).length = K + 1 := by rw [List.length_append, eK]; rfl
      have hm2 : m ≤ 1048576 := by
        have := hmost m (by simp)
        omega
      have hrow := hB.row
      rw [hl] at hrow hcl
      obtain ⟨o, c, rfl⟩ := row_shape hrow
      obtain ⟨g, rfl⟩ : ∃ g, o = some ⟨g, 0, none⟩ := by
        rcases hrow.2 with ⟨hn, _⟩ | ⟨g, cap', cur, hv, _⟩
        · simp at hn
        · simp only [Value.slice.injEq] at hv
          exact ⟨g, hv.1⟩
      obtain ⟨b1, b2, b3, b4⟩ := hB.bump eK
      have q2 := cell_of_block hB.box 0
      have HB3 := Lib.hid b3
      have HB4 := Lib.hid b4
      rw [step_last] at HN
      clear b3 b4 hB hrow hm hn hlen hstart hmost hl
      obtain ⟨L1, eL1⟩ : ∃ v, K + 1 = v := ⟨_, rfl⟩
      rw [eL1] at q2 HB3 HB4 hcl ⊢
      have hL2 : (L1 : Int) - 1 = (K : Int) := by omega
      have hL3 : K < L1 := by omega
      obtain ⟨m1, em1⟩ : ∃ v, m + 1 = v := ⟨_, rfl⟩
      have hm3 : (m : Int) + 1 = (m1 : Int) := by omega
      rw [em1] at HB3 HB4 HN
      clear eL1 eK em1
      go_enter Try.func38, Try.ntmps38
      go_wp2_with fail
      refine bodyPost_end (v := .tuple #[]) (by simp [results, Try.results38, go_sem]) rfl ⟨rfl, _, ⟨_, ?_, rfl⟩, fun k hk => .inl hk, HB4.out⟩
      rw [HN.out]
      exact HB3.out
def numsOwned (W w : World) (v : Value) (ns : List Nat) : Prop := w.ownsRow 0 3 1 v ns.length (ns.map nv) ∧ ∀ k, v.ownBlock = some k → W.heap.size ≤ k
theorem make_room (n : Nat) (h1 : n ≤ 2000000) (w : World) : ∃ Z, Z.size = n ∧ ∀ w : World, (Instr.makeSlice 28 (.int .i64 0) (.int .i64 (n : Int))).run Try.prog w = .ok (.slice (some ⟨w.heap.size, 0, none⟩) 0 n) (w.alloc (.cells Z 3)) := by
  obtain ⟨i0, hi, hz0, hz1, hz2⟩ := info_parts info64
  refine ⟨madeCells (Value.int .i64 0).cells n, by rw [size_madeCells], fun w => ?_⟩
  have h := run_make (P := Try.prog) w 28 3 i0 (.int .i64 0) Try.underlying28 hi hz0 .i64 .i64 0 n (Int.le_refl _) (by omega) (by rw [hz2]; omega) (by omega)
  rw [hz1, Int.toNat_natCast, Nat.mul_one] at h
  exact h
set_option maxHeartbeats 2000000 in
set_option maxRecDepth 100000 in
/-- Order of a picture that may be. -/
theorem order_code (w h : Nat) (W : World) (hw1 : 1 ≤ w) (hw : w ≤ 1024) (hh1 : 1 ≤ h) (hh : h ≤ 1024) :
    Calls Try.prog 11 #[.int .i64 (w : Int), .int .i64 (h : Int)] W fun e w' => ∃ o n c, e = .returned (.slice o n c) ∧ Hid (n = w * h) ∧ Hid (numsOwned W w' (.slice o n c) (orderOf w h)) ∧ Hid (Below W.heap.size W w') := by
  obtain ⟨M, eM⟩ : ∃ M, w * h = M := ⟨_, rfl⟩
  have hM : M ≤ 1048576 := by
    have : w * h ≤ 1024 * 1024 := Nat.mul_le_mul hw hh
    omega
  have hmul : (w : Int) * (h : Int) = (M : Int) := by rw [← eM]; exact (Int.natCast_mul w h).symm
  obtain ⟨Z, hZ, hmk⟩ := make_room M (by omega) W
  have KM := mayBe_code (w : Int) (h : Int) W
  rw [decide_eq_true (by omega)] at KM
  have HM := Lib.hid eM
  have HZ := Lib.hid hZ
  clear eM hZ
  go_enter Try.func11, Try.ntmps11
  go_wp2_with fail
  go_at_call 20
  refine KM.mono ?_
  rintro e w1 ⟨rfl, rfl⟩
  clear KM
  go_wp2_with fail
  obtain ⟨w2, ew2⟩ : ∃ w2, w2 = (W.alloc (.cells Z 3)).alloc (.cells #[.slice (some ⟨W.heap.size, 0, none⟩) 0 M] 28) := ⟨_, rfl⟩
  have hs1 : (W.alloc (.cells Z 3)).heap.size = W.heap.size + 1 := by
    show (W.heap.push _).size = _
    simp
  have hB2 : Below W.heap.size W w2 := by
    rw [ew2]
    exact (below_alloc1 W _).alloc (by rw [hs1]; omega) _
  have hbox : PBox (W.heap.size + 1) w2 (.slice (some ⟨W.heap.size, 0, none⟩) 0 M) [] := by
    rw [ew2]
    refine ⟨by rw [← hs1]; exact heap_alloc_new _ _, ?_, by simp [Value.ownBlock]⟩
    exact (World.ownsRow_made (base := 0) (e := 3) (size := 1) W Z M (Nat.zero_le _) (by unfold maxLen; omega) (by rw [HZ.out, Nat.mul_one])).alloc _
  rw [← ew2]
  have KE := eachPixel_code (ord_walker (W.heap.size + 1) w h hw hh) hw hh w2 _ ⟨_, hbox, rfl⟩
  have HB2 := Lib.hid hB2
  clear ew2 hbox hB2 hs1 hmk
  go_at_call 24
  refine KE.mono ?_
  clear KE
  rintro e w3 ⟨rfl, O', hA⟩
  obtain ⟨v, hv, eO⟩ := hA.has
  have hfr : ∀ k, v.ownBlock = some k → W.heap.size ≤ k := fun k hk => by
    rcases hA.sub k (by rw [eO]; exact .inr hk) with (h | h) | h
    · omega
    · simp only [Value.ownBlock, Option.some.injEq] at h
      omega
    · exact Nat.le_trans HB2.out.size h
  have hbl : Below W.heap.size W w3 := HB2.out.trans (hA.past.below (fun k hk => by
    rcases hk with h | h
    · omega
    · simp only [Value.ownBlock, Option.some.injEq] at h
      omega) HB2.out.size)
  have q0 := cell_of_block hv.box 0
  have hrow := hv.row
  rw [marked_fst] at hrow
  have HR := Lib.hid (And.intro hrow hfr)
  have HBL := Lib.hid hbl
  obtain ⟨o, c, rfl⟩ := row_shape hrow
  have hn := order_length w h
  rw [HM.out] at hn
  have HN := Lib.hid hn
  clear hA hv hrow hfr hbl eO
  rw [hn] at q0 HR
  clear hn
  go_wp2_with fail
  go_ret
  refine ⟨_, _, _, rfl, HM.out.symm, ?_, HBL.out⟩
  show numsOwned _ _ _ _
  unfold numsOwned
  rw [HN.out]
  exact HR.out
set_option maxRecDepth 100000 in
/-- Order of one that may not be. -/
theorem order_none (a b : Int) (W : World) (hn : ¬ (1 ≤ a ∧ a ≤ 1024 ∧ 1 ≤ b ∧ b ≤ 1024)) :
    Calls Try.prog 11 #[.int .i64 a, .int .i64 b] W fun e w' => e = .returned (.slice none 0 0) ∧ W = w' := by
  have KM := mayBe_code a b W
  rw [decide_eq_false hn] at KM
  clear hn
  go_enter Try.func11, Try.ntmps11
  go_wp2_with fail
  go_at_call 20
  refine KM.mono ?_
  rintro e w1 ⟨rfl, rfl⟩
  clear KM
  go_wp2_with fail
  go_ret
  exact ⟨rfl, rfl⟩
set_option maxHeartbeats 2000000 in
set_option maxRecDepth 100000 in
theorem rows_code (w h : Nat) (W : World) (hw : w ≤ 1024) (hh : h ≤ 1024) :
    Calls Try.prog 23 #[.int .i64 (w : Int), .int .i64 (h : Int)] W fun e w' => ∃ o n c, e = .returned (.slice o n c) ∧ Hid ((rowCounts w h).length = n) ∧ Hid (numsOwned W w' (.slice o n c) (rowCounts w h)) ∧ Hid (Below W.heap.size W w') := by
  go_enter Try.func23, Try.ntmps23
  go_wp2_with fail
  have hbox : PBox W.heap.size (W.alloc (.cells #[.slice none 0 0] 28)) (.slice none 0 0) [] := ⟨heap_alloc_new _ _, World.ownsRow_nil _ _ _ _, by simp [Value.ownBlock]⟩
  obtain ⟨w2, ew2⟩ : ∃ w2, w2 = W.alloc (.cells #[.slice none 0 0] 28) := ⟨_, rfl⟩
  have HB2 : Hid (Below W.heap.size W w2) := by
    show Below _ _ _
    rw [ew2]
    exact below_alloc1 W _
  rw [← ew2] at hbox ⊢
  have KE := eachPixel_code (row_walker W.heap.size w h hw hh) hw hh w2 _ ⟨_, hbox, rfl⟩
  clear ew2 hbox
  go_at_call 24
  refine KE.mono ?_
  clear KE
  rintro e w3 ⟨rfl, O', hA⟩
  obtain ⟨v, hv, eO⟩ := hA.has
  have hfr : ∀ k, v.ownBlock = some k → W.heap.size ≤ k := fun k hk => by
    rcases hA.sub k (by rw [eO]; exact .inr hk) with (h | h) | h
    · omega
    · simp [Value.ownBlock] at h
    · exact Nat.le_trans HB2.out.size h
  have hbl : Below W.heap.size W w3 := HB2.out.trans (hA.past.below (fun k hk => by
    rcases hk with h | h
    · omega
    · simp [Value.ownBlock] at h) HB2.out.size)
  have q0 := cell_of_block hv.box 0
  have hrow := hv.row
  have hcnt : ((markedOf w h).map (·.2)).foldl countStep [] = rowCounts w h := count_all w h
  rw [hcnt] at hrow
  have HR := Lib.hid (And.intro hrow hfr)
  have HBL := Lib.hid hbl
  obtain ⟨o, c, rfl⟩ := row_shape hrow
  obtain ⟨N, eN⟩ : ∃ N, (rowCounts w h).length = N := ⟨_, rfl⟩
  have HN := Lib.hid eN
  clear hA hv hrow hfr hbl eO hcnt
  rw [eN] at q0 HR
  clear eN
  go_wp2_with fail
  go_ret
  refine ⟨_, _, _, rfl, HN.out, ?_, HBL.out⟩
  show numsOwned _ _ _ _
  unfold numsOwned
  rw [HN.out]
  exact HR.out
end Go.Proofs.Ytefdlidjdmlnaaa.Fx
