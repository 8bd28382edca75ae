/-
  The document's own answers of layer 6: what stands for bytes. The conditions stand in it.
-/
import Derived.Test.YtggkmbnogdikkaaDeflM
namespace Go.Proofs.Ytggkmbnogdikkaa.Fx
open Go Go.RowKit Go.Joins
set_option linter.unusedVariables false
/-- A token's cells. -/
def tokCells (t : Tok) : List Value := [.int .i64 (t.n : Int), .int .i64 (t.back : Int), .int .u8 (t.b : Int)]
def toksCells (ts : List Tok) : List Value := ts.flatMap tokCells
theorem toksCells_length (ts : List Tok) : (toksCells ts).length = ts.length * 3 := by
  unfold toksCells
  induction ts with
  | nil => rfl
  | cons t ts ih =>
    rw [List.flatMap_cons, List.length_append, ih, List.length_cons]
    simp [tokCells]
    omega
theorem toksCells_snoc (ts : List Tok) (t : Tok) : toksCells (ts ++ [t]) = toksCells ts ++ tokCells t := by
  unfold toksCells
  rw [List.flatMap_append]
  simp
theorem toksCells_at (ts : List Tok) (i : Nat) (t : Tok) (h : ts[i]? = some t) : (toksCells ts)[i * 3]? = some (.int .i64 (t.n : Int)) ∧ (toksCells ts)[i * 3 + 1]? = some (.int .i64 (t.back : Int)) ∧ (toksCells ts)[i * 3 + 2]? = some (.int .u8 (t.b : Int)) := by
  induction ts generalizing i with
  | nil => simp at h
  | cons d ts ih =>
    have e : toksCells (d :: ts) = tokCells d ++ toksCells ts := by
      unfold toksCells
      rw [List.flatMap_cons]
    have hl : (tokCells d).length = 3 := rfl
    rw [e]
    cases i with
    | zero =>
      obtain rfl := Option.some.inj h
      exact ⟨rfl, rfl, rfl⟩
    | succ i =>
      obtain ⟨h1, h2, h3⟩ := ih i (by simpa using h)
      refine ⟨?_, ?_, ?_⟩
      · rw [List.getElem?_append_right (by rw [hl]; omega), hl, show (i + 1) * 3 - 3 = i * 3 by omega]
        exact h1
      · rw [List.getElem?_append_right (by rw [hl]; omega), hl, show (i + 1) * 3 + 1 - 3 = i * 3 + 1 by omega]
        exact h2
      · rw [List.getElem?_append_right (by rw [hl]; omega), hl, show (i + 1) * 3 + 2 - 3 = i * 3 + 2 by omega]
        exact h3
/-- A slice's value that reads as these tokens. -/
def toksIn (w : World) (v : Value) (ts : List Tok) : Prop :=
  (v = .slice none 0 0 ∧ ts = []) ∨ ∃ g cap, v = .slice (some ⟨g, 0, none⟩) ts.length cap ∧ g < w.heap.size ∧ ∀ i t, ts[i]? = some t → w.cell? ⟨g, i * 3, none⟩ = some (.int .i64 (t.n : Int)) ∧ w.cell? ⟨g, i * 3 + 1, none⟩ = some (.int .i64 (t.back : Int)) ∧ w.cell? ⟨g, i * 3 + 2, none⟩ = some (.int .u8 (t.b : Int))
theorem toksIn_own {w : World} {base : Nat} {v : Value} {ts : List Tok} {e : TypeId} (h : w.ownsRow base e 3 v ts.length (toksCells ts)) : toksIn w v ts := by
  rcases h.2 with ⟨rfl, h0⟩ | ⟨g, cap, cur, rfl, _, hg, _⟩
  · exact .inl ⟨rfl, List.eq_nil_of_length_eq_zero h0⟩
  · refine .inr ⟨g, cap, rfl, (Array.getElem?_eq_some_iff.1 hg).1, fun i t hi => ?_⟩
    obtain ⟨h1, h2, h3⟩ := toksCells_at ts i t hi
    have k1 := h.cells rfl _ _ h1
    have k2 := h.cells rfl _ _ h2
    have k3 := h.cells rfl _ _ h3
    rw [Addr.add_lit, Nat.zero_add] at k1 k2 k3
    exact ⟨k1, k2, k3⟩
theorem toksIn_on {w w' : World} {v : Value} {ts : List Tok} (h : toksIn w v ts) (hb : Below w.heap.size w w') : toksIn w' v ts := by
  rcases h with h | ⟨g, cap, rfl, hlt, hc⟩
  · exact .inl h
  · exact .inr ⟨g, cap, rfl, Nat.lt_of_lt_of_le hlt hb.size, fun i t hi => ⟨(hb.cell hlt).trans (hc i t hi).1, (hb.cell hlt).trans (hc i t hi).2.1, (hb.cell hlt).trans (hc i t hi).2.2⟩⟩
theorem row3_any {w : World} {base : Nat} {e : TypeId} {v : Value} {n : Nat} {xs : List Value} (h : w.ownsRow base e 3 v n xs) : ∃ o cap, v = .slice o n cap := by
  rcases h.2 with ⟨rfl, rfl⟩ | ⟨g, cap, cur, rfl, _⟩
  · exact ⟨none, 0, rfl⟩
  · exact ⟨_, cap, rfl⟩
theorem new_cells (w : World) (xs : List Value) (ty : TypeId) (j : Nat) (u : Value) (h : xs[j]? = some u) : (w.alloc (.cells xs.toArray ty)).cell? ((⟨w.heap.size, 0, none⟩ : Addr).add j) = some u := by
  rw [Addr.add_lit, Nat.zero_add, World.cell?_alloc_mark]
  simp [h]
theorem infoT : (Try.prog.info? 134).map (fun i => (i.zero, i.size, i.bytes)) = some (some (.agg #[.int .i64 0, .int .i64 0, .int .u8 0]), 3, 24) := by kernel_rfl
theorem matchOf_le (b : List Nat) (i up : Nat) : (matchOf b i up).1 ≤ 258 ∧ (0 < (matchOf b i up).1 → (matchOf b i up).2 < i ∧ i + (matchOf b i up).1 ≤ up) := by
  refine ⟨(bestOf_spec b i up _ (Nat.min_le_left _ _)).1, fun h => ?_⟩
  obtain ⟨_, h2, _, h4, _⟩ := matchOf_spec b i up h
  exact ⟨h2, h4⟩
set_option maxHeartbeats 2000000 in
set_option maxRecDepth 100000 in
theorem tokens_any (v : Value) (zs : List Nat) (a up : Nat) (W : World) (hr : bytesIn W v zs) (h8 : ∀ x ∈ zs, x < 256) (ha : a ≤ up) (ht : up ≤ zs.length) (hz : zs.length ≤ 1099511627776) (hs : up - a ≤ 1000000) :
    Calls Try.prog 58 #[v, .int .i64 (a : Int), .int .i64 (up : Int)] W fun e w' => ∃ u, e = .returned u ∧ toksIn w' u (tokens zs a up) ∧ Below W.heap.size W w' := by
  have HR := Lib.hid hr
  have H8 := Lib.hid h8
  obtain ⟨vo, vc, rfl⟩ := listed_length hr
  obtain ⟨len, el⟩ : ∃ len, zs.length = len := ⟨_, rfl⟩
  have EL := Lib.hid el
  rw [el] at ht hz HR ⊢
  clear hr h8 el
  obtain ⟨T, eT⟩ : ∃ T, tokens zs a up = T := ⟨_, rfl⟩
  have HT : Hid ([] ++ toks zs up (up - a) a = T) := by
    show _ = _
    rw [← eT]
    rfl
  rw [eT]
  clear eT
  obtain ⟨i0, hi0, hz0, hz1, hz2⟩ := info_parts infoT
  go_enter Try.func58, Try.ntmps58
  go_wp2_with fail
  go_loopw [7, 8] (fun s7 s8 wr => ∃ (k f : Nat) (ts : List Tok), k ≤ up ∧ a ≤ k ∧ up ≤ k + f ∧ ts.length ≤ k - a ∧ s8 = .int .i64 (k : Int) ∧ Hid (ts ++ toks zs up f k = T) ∧ wr.ownsRow W.heap.size 134 3 s7 ts.length (toksCells ts) ∧ Below W.heap.size W wr) (fun _ s8 _ => up - (intOf s8).toNat)
  case atStart => exact ⟨a, up - a, [], ha, Nat.le_refl _, by omega, Nat.zero_le _, rfl, HT, World.ownsRow_nil _ _ _ _, Below.refl _ _⟩
  case round =>
    obtain ⟨k, f, ts, hk, hak, hf, hts, rfl, hT, hown, hbl⟩ := hrel
    obtain ⟨oo, oc, rfl⟩ := row3_any hown
    have HOWN := Lib.hid hown
    have HBL := Lib.hid hbl
    obtain ⟨m, em⟩ : ∃ m, ts.length = m := ⟨_, rfl⟩
    rw [em] at HOWN hts ⊢
    have EM := Lib.hid em
    have hsz := hbl.size
    clear hown hbl em
    by_cases hku : k < up
    · have d1 : decide ((k : Int) < (up : Int)) = true := decide_eq_true (by omega)
      obtain ⟨f', rfl⟩ : ∃ g, f = g + 1 := ⟨f - 1, by omega⟩
      have KM := match_any (.slice vo len vc) zs k up wr (listed_on HR.out HBL.out) hk (by rw [EL.out]; exact ht) (by rw [EL.out]; exact hz)
      obtain ⟨hm1, hm2⟩ := matchOf_le zs k up
      obtain ⟨n, en⟩ : ∃ n, (matchOf zs k up).1 = n := ⟨_, rfl⟩
      obtain ⟨p, ep⟩ : ∃ p, (matchOf zs k up).2 = p := ⟨_, rfl⟩
      rw [en] at KM hm1 hm2
      rw [ep] at KM hm2
      by_cases h3 : 3 ≤ n
      · have d3 : decide ((3 : Int) ≤ (n : Int)) = true := decide_eq_true (by omega)
        obtain ⟨hp, hn⟩ := hm2 (by omega)
        have hkp : (k : Int) - (p : Int) = ((k - p : Nat) : Int) := by omega
        have HN : Hid ((ts ++ [⟨n, k - p, 0⟩]) ++ toks zs up f' (k + n) = T) := by
          have := hT.out
          rw [toks, if_pos hku, en, ep, if_pos h3] at this
          show _ = _
          rw [← this, List.append_assoc]
          rfl
        obtain ⟨q, eq⟩ : ∃ q, k - p = q := ⟨_, rfl⟩
        rw [eq] at hkp HN
        clear eq en ep hm2 hT
        go_wp2_with fail
        go_at_call 78
        refine KM.mono ?_
        rintro e w2 ⟨rfl, hb2⟩
        have HB2 := Lib.hid hb2
        have hs2 := hb2.size
        have hown2 : w2.ownsRow W.heap.size 134 3 (.slice oo m oc) m (toksCells ts) := HOWN.out.kept (row := none) ⟨hb2.os, hb2.tape, hb2.output, hb2.size, fun q hq _ => hb2.block q hq⟩ (by cases hv : (Value.slice oo m oc).ownBlock <;> simp)
        have HO2 := Lib.hid hown2
        clear hb2 KM hown2
        go_wp2_with (at_builtin; refine wpList_append_own _ rfl _ _ 111 rfl W.heap.size 134 i0 (.agg #[.int .i64 0, .int .i64 0, .int .u8 0]) 3 24 Try.underlying111 hi0 hz0 hz1 hz2 rfl (by decide) (.slice oo m oc) m (toksCells ts) rfl (HO2.out.alloc _) ⟨w2.heap.size, 0, none⟩ 1 1 (tokCells ⟨n, q, 0⟩) rfl rfl (fun j u hj => new_cells w2 (tokCells ⟨n, q, 0⟩) _ j u hj) (fun u hu => by simp [tokCells] at hu; rcases hu with rfl | rfl | rfl <;> rfl) (by unfold maxLen; omega) (by omega) (by simp; omega) ?_)
        intro v' w3 hown3 hgrow _
        have HB3 := Lib.hid ((((HBL.out.trans (HB2.out.mono hsz)).alloc (by omega) _).grown hgrow (by simp; omega) (fun q hq => (HOWN.out.lt q hq).1)))
        have HO3 : Hid (w3.ownsRow W.heap.size 134 3 v' (ts ++ [(⟨n, q, 0⟩ : Tok)]).length (toksCells (ts ++ [(⟨n, q, 0⟩ : Tok)]))) := by
          show World.ownsRow _ _ _ _ _ _ _
          rw [toksCells_snoc, List.length_append, EM.out]
          exact hown3
        clear hown3 hgrow
        go_wp2_with fail
        go_roundw
        case rel => exact ⟨k + n, f', ts ++ [⟨n, q, 0⟩], by omega, by omega, by omega, by rw [List.length_append, EM.out]; simp only [List.length_singleton]; omega, by go_num, HN, HO3.out, HB3.out⟩
        case measure => simp [intOf]; omega
      · have d3 : decide ((3 : Int) ≤ (n : Int)) = false := decide_eq_false (by omega)
        obtain ⟨x, ex⟩ : ∃ x, zs[k]? = some x := ⟨zs[k]'(by rw [EL.out]; omega), List.getElem?_eq_getElem _⟩
        have hx : zs.getD k 0 = x := by rw [List.getD_eq_getElem?_getD, ex]; rfl
        have hx8 : x < 256 := H8.out x (List.mem_of_getElem? ex)
        have HN : Hid ((ts ++ [⟨0, 0, x⟩]) ++ toks zs up f' (k + 1) = T) := by
          have := hT.out
          rw [toks, if_pos hku, en, if_neg h3, hx] at this
          show _ = _
          rw [← this, List.append_assoc]
          rfl
        obtain ⟨b, off, cap, ev, hlt, hcell⟩ := listed_cell HR.out k x ex
        rw [EL.out] at ev
        simp only [Value.slice.injEq] at ev
        obtain ⟨rfl, _, rfl⟩ := ev
        unfold byteVal at hcell
        have HCELL := Lib.hid hcell
        have k0 : (0 : Int) ≤ (k : Int) := by omega
        have k1 : (k : Int) < (len : Int) := by omega
        clear en ep hm2 hT ex hx hcell
        go_wp2_with fail
        go_at_call 78
        refine KM.mono ?_
        rintro e w2 ⟨rfl, hb2⟩
        have HB2 := Lib.hid hb2
        have hs2 := hb2.size
        have hown2 : w2.ownsRow W.heap.size 134 3 (.slice oo m oc) m (toksCells ts) := HOWN.out.kept (row := none) ⟨hb2.os, hb2.tape, hb2.output, hb2.size, fun q hq _ => hb2.block q hq⟩ (by cases hv : (Value.slice oo m oc).ownBlock <;> simp)
        have HO2 := Lib.hid hown2
        clear hb2 KM hown2
        have hcell := ((HBL.out.trans (HB2.out.mono hsz)).cell (p := ⟨b, off + k, none⟩) hlt).trans HCELL.out
        go_wp2_with (at_builtin; refine wpList_append_own _ rfl _ _ 111 rfl W.heap.size 134 i0 (.agg #[.int .i64 0, .int .i64 0, .int .u8 0]) 3 24 Try.underlying111 hi0 hz0 hz1 hz2 rfl (by decide) (.slice oo m oc) m (toksCells ts) rfl (HO2.out.alloc _) ⟨w2.heap.size, 0, none⟩ 1 1 (tokCells ⟨0, 0, x⟩) rfl rfl (fun j u hj => new_cells w2 (tokCells ⟨0, 0, x⟩) _ j u hj) (fun u hu => by simp [tokCells] at hu; rcases hu with rfl | rfl | rfl <;> rfl) (by unfold maxLen; omega) (by omega) (by simp; omega) ?_)
        intro v' w3 hown3 hgrow _
        have HB3 := Lib.hid ((((HBL.out.trans (HB2.out.mono hsz)).alloc (by omega) _).grown hgrow (by simp; omega) (fun q hq => (HOWN.out.lt q hq).1)))
        have HO3 : Hid (w3.ownsRow W.heap.size 134 3 v' (ts ++ [(⟨0, 0, x⟩ : Tok)]).length (toksCells (ts ++ [(⟨0, 0, x⟩ : Tok)]))) := by
          show World.ownsRow _ _ _ _ _ _ _
          rw [toksCells_snoc, List.length_append, EM.out]
          exact hown3
        clear hown3 hgrow
        go_wp2_with fail
        go_roundw
        case rel => exact ⟨k + 1, f', ts ++ [⟨0, 0, x⟩], by omega, by omega, by omega, by rw [List.length_append, EM.out]; simp only [List.length_singleton]; omega, by go_num, HN, HO3.out, HB3.out⟩
        case measure => simp [intOf]; omega
    · have d1 : decide ((k : Int) < (up : Int)) = false := decide_eq_false (by omega)
      have HN : Hid (ts = T) := by
        have := hT.out
        show ts = T
        cases f with
        | zero => simpa [toks] using this
        | succ f =>
          rw [toks, if_neg hku, List.append_nil] at this
          exact this
      go_wp2_with fail
      all_goals go_ret
      all_goals exact ⟨_, rfl, by rw [← HN.out]; exact toksIn_own (by rw [EM.out]; exact HOWN.out), HBL.out⟩
end Go.Proofs.Ytggkmbnogdikkaa.Fx
