/-
  slices.Delete from the front of an own row, as landed: what is left, in the same block. The conditions stand in each.
-/
import Derived.Laws.IdiomCopy
import Derived.Lib.SliceRun
import Derived.Test.YtbhmjppnhlmefaaDoorWinG
import Derived.Test.YtbhmjppnhlmefaaDoorWinE
namespace Go.Proofs.YtbhmjppnhlmefaaDoor.Fx
open Go Go.RowKit Go.Joins
set_option linter.unusedVariables false
/-- A row of cells that are written: the block, and all others. -/
theorem cleared (b : Nat) : ∀ (vs : List Value) (o : Nat) (w : World) (cur : Array Value) (e : TypeId), w.heap[b]? = some (.cells cur e (0, 0)) →
    ∃ cur', (w.setCells b o vs).heap[b]? = some (.cells cur' e (0, 0)) ∧ cur'.size = cur.size ∧ (∀ j, j < o → cur'[j]? = cur[j]?) ∧ Past (fun k => k = b) w (w.setCells b o vs) ∧ (w.setCells b o vs).heap.size = w.heap.size
  | [], o, w, cur, e, h => ⟨cur, h, rfl, fun _ _ => rfl, Past.refl _ _, rfl⟩
  | v :: r, o, w, cur, e, h => by
    obtain ⟨cur', h1, h2, h3, h4, h5⟩ := cleared b r (o + 1) (w.setCell ⟨b, o, none⟩ v) (cur.setIfInBounds o v) e (block_setCell h v)
    refine ⟨cur', h1, by rw [h2]; simp, fun j hj => ?_, (past_setCell w b o v).trans h4 (fun b hb => .inl hb), by show ((w.setCell ⟨b, o, none⟩ v).setCells b (o + 1) r).heap.size = _; rw [h5]; simp⟩
    rw [h3 j (by omega), Array.getElem?_setIfInBounds_ne (by omega)]
section
variable {α : Type} {c : α → Value} {P : Program}
/-- What is left of a row whose first n elements go. -/
theorem dropped (w : World) (t ty e : TypeId) (z : Value) (bytes : Nat) (ht : P.underlying t = some (.slice e)) (hinfo : (P.info? e).map (fun i => (i.zero, i.size, i.bytes)) = some (some z, 1, bytes)) (hz : ∀ w, (zeroValue e).run P w = .ok z w) (hzc : z.cells = #[z]) (hz1 : z.oneCell' = true) (hone : ∀ y, (c y).oneCell' = true)
    (b len cap n : Nat) (xs : List α) (hl : xs.length = len) (hown : w.ownsRow 0 e 1 (.slice (some ⟨b, 0, none⟩) len cap) len (xs.map c)) (hn : 0 < n) (hnl : n ≤ len) :
    ∃ w1, (Builtin.append_ #[t, t] ty #[.slice (some ⟨b, 0, none⟩) 0 cap, .slice (some (if cap = n then ⟨b, 0, none⟩ else ⟨b, n, none⟩)) (len - n) (cap - n)]).run P w.drew = .ok (.slice (some ⟨b, 0, none⟩) (len - n) cap) w1 ∧
      (∀ ty2, (Builtin.clear_ #[t] ty2 #[.slice (some ⟨b, len - n, none⟩) n (cap - (len - n))]).run P w1 = .ok (.tuple #[]) (w1.setCells b (len - n) (List.replicate n z))) ∧
      (w1.setCells b (len - n) (List.replicate n z)).ownsRow 0 e 1 (.slice (some ⟨b, 0, none⟩) (len - n) cap) (len - n) ((xs.drop n).map c) ∧ Past (fun k => k = b) w (w1.setCells b (len - n) (List.replicate n z)) := by
  obtain ⟨i0, hi, hz0, hzs, hzb⟩ := info_parts hinfo
  have hlen := hown.1
  rcases hown.2 with ⟨h, _⟩ | ⟨g, cap', cur, h, _, hg, hcc, hcm, hcs, hct⟩
  · cases h
  simp only [Value.slice.injEq, Option.some.injEq, Addr.mk.injEq] at h
  obtain ⟨⟨rfl, _⟩, _, rfl⟩ := h
  have hnews : ((xs.drop n).map c).length = (len - n) * i0.size := by rw [List.length_map, List.length_drop, hl, hzs, Nat.mul_one]
  have hA : ∀ j u, ((xs.drop n).map c)[j]? = some u → w.drew.cell? ((if cap = n then (⟨b, 0, none⟩ : Addr) else ⟨b, n, none⟩).add j) = some u := by
    intro j u hu
    have hj : j < len - n := by have := (List.getElem?_eq_some_iff.mp hu).1; rw [hnews, hzs] at this; omega
    rw [if_neg (by omega), Addr.add_lit]
    rw [List.getElem?_map, List.getElem?_drop, ← List.getElem?_map] at hu
    have := hown.cells rfl (n + j) u hu
    rw [Addr.add_lit, Nat.zero_add] at this
    exact this
  have hB : ∀ u ∈ (xs.drop n).map c, u.oneCell' = true := by
    intro u hu
    obtain ⟨x, _, rfl⟩ := List.mem_map.1 hu
    exact hone x
  have hrun := run_append_room (P := P) w.drew t ty e i0 ht hi b 0 cap cur hg (if cap = n then ⟨b, 0, none⟩ else ⟨b, n, none⟩) (len - n) (cap - n) ((xs.drop n).map c) hnews hA hB (by omega) (by rw [hnews, hzs]; omega)
  obtain ⟨A, eA⟩ : ∃ A, (cur.toList.take (0 * i0.size) ++ (xs.drop n).map c ++ cur.toList.drop (0 * i0.size + ((xs.drop n).map c).length)).toArray = A := ⟨_, rfl⟩
  rw [eA, Nat.zero_add] at hrun
  have hAl : A.toList = (xs.drop n).map c ++ cur.toList.drop (len - n) := by
    rw [← eA, hnews, hzs]
    simp
  have hAs : A.size = cur.size := by
    have := congrArg List.length hAl
    simp only [Array.length_toList, List.length_append, List.length_map, List.length_drop, hl] at this
    omega
  have hb1 : (w.drew.setRow b A).heap[b]? = some (.cells A e (0, 0)) := setRow_heap w.drew b cur A e (0, 0) hg
  have hp1 : Past (fun k => k = b) w (w.drew.setRow b A) := ⟨rfl, rfl, rfl, by rw [size_setRow]; exact Nat.le_refl _, fun k hk hn => setRow_other _ _ _ _ hn⟩
  obtain ⟨cur', h1, h2, h3, h4, _⟩ := cleared b (List.replicate n z) (len - n) (w.drew.setRow b A) A e hb1
  refine ⟨_, hrun, fun ty2 => Lib.run_clear_slice (w.drew.setRow b A) t e ty2 z ht hz hzc hz1 b (len - n) n _ hn (fun j hj => ?_) (fun j hj => unfrozen_of_block hb1 _), ⟨by rw [List.length_map, List.length_drop, hl, Nat.mul_one], .inr ⟨b, cap, cur', rfl, Nat.zero_le _, h1, by omega, hcm, by rw [h2, hAs]; exact hcs, ?_⟩⟩, hp1.trans h4 (fun b hb => .inl hb)⟩
  · rw [cell_of_block hb1]
    rw [Array.getElem?_eq_getElem (by rw [hAs, hcs, Nat.mul_one]; omega)]
    rfl
  · apply List.ext_getElem?
    intro j
    rw [Nat.mul_one, List.getElem?_take]
    by_cases hj : j < len - n
    · rw [if_pos hj, Array.getElem?_toList, h3 j hj, ← Array.getElem?_toList, hAl, List.getElem?_append_left (by rw [List.length_map, List.length_drop, hl]; exact hj)]
    · rw [if_neg hj, List.getElem?_eq_none (by rw [List.length_map, List.length_drop, hl]; omega)]
end
set_option maxRecDepth 100000 in
theorem typeU8 : Tryd.prog.underlying 22 = some (.slice (Tryd.prog.elem 22)) := Tryd.underlying22
set_option maxRecDepth 100000 in
theorem oneU8 (w : World) : (sizeOf (Tryd.prog.elem 22)).run Tryd.prog w = .ok 1 w := by rfl
theorem highU8 (b n cap m : Nat) (h : m ≤ cap) (w : World) : (Instr.slice 22 (.slice (some ⟨b, 0, none⟩) n cap) none (some (.int .i64 (m : Int))) none).run Tryd.prog w = .ok (.slice (some ⟨b, 0, none⟩) m cap) w := by
  rw [run_slice_h w 22 (some ⟨b, 0, none⟩) n cap typeU8 .i64 m (by omega) (by omega), oneU8]
  simp [sliced, Result.andThen, addr_add_zero]
theorem lowU8 (b n cap m : Nat) (h : m ≤ n) (hc : n ≤ cap) (w : World) : (Instr.slice 22 (.slice (some ⟨b, 0, none⟩) n cap) (some (.int .i64 (m : Int))) none none).run Tryd.prog w = .ok (.slice (some (if cap = m then ⟨b, 0, none⟩ else ⟨b, m, none⟩)) (n - m) (cap - m)) w := by
  rw [run_slice_l w 22 (some ⟨b, 0, none⟩) n cap typeU8 .i64 m (by omega) (by omega), oneU8]
  have hadd : (⟨b, 0, none⟩ : Addr).add m = ⟨b, m, none⟩ := by unfold Addr.add; split <;> simp_all
  by_cases h1 : cap = m
  · subst h1
    obtain rfl : n = cap := by omega
    simp [sliced, Result.andThen]
  · simp [sliced, Result.andThen, hadd, h1]
theorem midU8 (b n cap i j : Nat) (hi : i ≤ j) (hj : j ≤ cap) (hlt : i < cap) (w : World) : (Instr.slice 22 (.slice (some ⟨b, 0, none⟩) n cap) (some (.int .i64 (i : Int))) (some (.int .i64 (j : Int))) none).run Tryd.prog w = .ok (.slice (some ⟨b, i, none⟩) (j - i) (cap - i)) w := by
  rw [run_slice_lh w 22 (some ⟨b, 0, none⟩) n cap typeU8 .i64 .i64 i j (by omega) (by omega) (by omega), oneU8]
  have hadd : (⟨b, 0, none⟩ : Addr).add i = ⟨b, i, none⟩ := by unfold Addr.add; split <;> simp_all
  have hne : ¬ cap = i := by omega
  simp [sliced, Result.andThen, hadd, hne]
set_option maxHeartbeats 2000000 in
set_option maxRecDepth 100000 in
theorem deleteU8 (v : Value) (xs : List Nat) (n : Nat) (W : World) (hown : W.ownsRow 0 5 1 v xs.length (xs.map byteVal)) (hn : 0 < n) (hnl : n ≤ xs.length) (hl : xs.length ≤ 1099511627776) :
    Calls Tryd.prog 48 #[v, .int .i64 0, .int .i64 (n : Int)] W fun e w' => ∃ u, e = .returned u ∧ w'.ownsRow 0 5 1 u (xs.length - n) ((xs.drop n).map byteVal) ∧ u.ownBlock = v.ownBlock ∧ Past (fun k => v.ownBlock = some k) W w' := by
  obtain ⟨b, cap, rfl⟩ : ∃ b cap, v = .slice (some ⟨b, 0, none⟩) xs.length cap := by
    rcases hown.2 with ⟨_, h⟩ | ⟨g, cap, cur, h, _⟩
    · omega
    · exact ⟨g, cap, h⟩
  obtain ⟨len, el⟩ : ∃ len, xs.length = len := ⟨_, rfl⟩
  rw [el] at hown hnl hl ⊢
  have hcap : len ≤ cap ∧ cap ≤ maxLen := by
    rcases hown.2 with ⟨h, _⟩ | ⟨g, cap', cur, h, _, _, h1, h2, _⟩
    · cases h
    · simp only [Value.slice.injEq] at h
      obtain ⟨_, _, rfl⟩ := h
      exact ⟨h1, h2⟩
  obtain ⟨hc1, hc2⟩ := hcap
  unfold maxLen at hc2
  obtain ⟨w1, hrun, hclear, hrow, hpast⟩ := dropped (c := byteVal) (P := Tryd.prog) W 22 22 5 (.int .u8 0) 1 Tryd.underlying22 infoU8 (fun w => by kernel_rfl) rfl rfl (fun _ => rfl) b len cap n xs el hown hn hnl
  have hs0 : ∀ w, (Instr.slice 22 (.slice (some ⟨b, 0, none⟩) len cap) none (some (.int .i64 0)) none).run Tryd.prog w = .ok (.slice (some ⟨b, 0, none⟩) 0 cap) w := fun w => highU8 b len cap 0 (by omega) w
  have hs1 := fun w => lowU8 b len cap n hnl hc1 w
  have hs2 := fun w => midU8 b (len - n) cap (len - n) len (by omega) hc1 (by omega) w
  rw [show len - (len - n) = n by omega] at hs2
  have hsub : ((len - n : Nat) : Int) = (len : Int) - (n : Int) := by omega
  have HR := Lib.hid hrow
  have HP := Lib.hid hpast
  have HRUN := Lib.hid hrun
  obtain ⟨V1, eV1⟩ : ∃ V, (Value.slice (some (if cap = n then (⟨b, 0, none⟩ : Addr) else ⟨b, n, none⟩)) (len - n) (cap - n)) = V := ⟨_, rfl⟩
  rw [eV1] at hs1 HRUN
  obtain ⟨m, em⟩ : ∃ m, len - n = m := ⟨_, rfl⟩
  rw [em] at hs2 hclear HR HP HRUN ⊢
  obtain ⟨W3, eW3⟩ : ∃ x, x = w1.setCells b m (List.replicate n (.int .u8 0)) := ⟨_, rfl⟩
  rw [← eW3] at hclear HR HP
  have hn0 : ((0 : Int) == (n : Int)) = false := by simp; omega
  have hn1 : decide ((0 : Int) = (n : Int)) = false := decide_eq_false (by omega)
  have hn2 : (0 == n) = false := by simp; omega
  clear hown hrun hrow hpast hsub eV1 em eW3
  go_enter Tryd.func48, Tryd.ntmps48
  go_upto_region 5 with fail
  go_region_law (refine step_append_eq rfl (.tmp 22) (.tmp 25) 22 rfl (.slice (some ⟨b, 0, none⟩) 0 cap) V1 (.slice (some ⟨b, 0, none⟩) m cap) w1 (by simp [Act.eval, Act.put]) (by simp [Act.eval, Act.put]) HRUN.out ?_)
  all_goals go_wp2_with fail
  all_goals go_ret
  all_goals exact ⟨_, rfl, HR.out, rfl, by simpa [Value.ownBlock, eq_comm] using HP.out⟩
set_option maxRecDepth 100000 in
theorem typeI32 : Tryd.prog.underlying 51 = some (.slice (Tryd.prog.elem 51)) := Tryd.underlying51
set_option maxRecDepth 100000 in
theorem oneI32 (w : World) : (sizeOf (Tryd.prog.elem 51)).run Tryd.prog w = .ok 1 w := by rfl
theorem highI32 (b n cap m : Nat) (h : m ≤ cap) (w : World) : (Instr.slice 51 (.slice (some ⟨b, 0, none⟩) n cap) none (some (.int .i64 (m : Int))) none).run Tryd.prog w = .ok (.slice (some ⟨b, 0, none⟩) m cap) w := by
  rw [run_slice_h w 51 (some ⟨b, 0, none⟩) n cap typeI32 .i64 m (by omega) (by omega), oneI32]
  simp [sliced, Result.andThen, addr_add_zero]
theorem lowI32 (b n cap m : Nat) (h : m ≤ n) (hc : n ≤ cap) (w : World) : (Instr.slice 51 (.slice (some ⟨b, 0, none⟩) n cap) (some (.int .i64 (m : Int))) none none).run Tryd.prog w = .ok (.slice (some (if cap = m then ⟨b, 0, none⟩ else ⟨b, m, none⟩)) (n - m) (cap - m)) w := by
  rw [run_slice_l w 51 (some ⟨b, 0, none⟩) n cap typeI32 .i64 m (by omega) (by omega), oneI32]
  have hadd : (⟨b, 0, none⟩ : Addr).add m = ⟨b, m, none⟩ := by unfold Addr.add; split <;> simp_all
  by_cases h1 : cap = m
  · subst h1
    obtain rfl : n = cap := by omega
    simp [sliced, Result.andThen]
  · simp [sliced, Result.andThen, hadd, h1]
theorem midI32 (b n cap i j : Nat) (hi : i ≤ j) (hj : j ≤ cap) (hlt : i < cap) (w : World) : (Instr.slice 51 (.slice (some ⟨b, 0, none⟩) n cap) (some (.int .i64 (i : Int))) (some (.int .i64 (j : Int))) none).run Tryd.prog w = .ok (.slice (some ⟨b, i, none⟩) (j - i) (cap - i)) w := by
  rw [run_slice_lh w 51 (some ⟨b, 0, none⟩) n cap typeI32 .i64 .i64 i j (by omega) (by omega) (by omega), oneI32]
  have hadd : (⟨b, 0, none⟩ : Addr).add i = ⟨b, i, none⟩ := by unfold Addr.add; split <;> simp_all
  have hne : ¬ cap = i := by omega
  simp [sliced, Result.andThen, hadd, hne]
set_option maxHeartbeats 2000000 in
set_option maxRecDepth 100000 in
theorem deleteI32 (v : Value) (xs : List Nat) (n : Nat) (W : World) (hown : W.ownsRow 0 21 1 v xs.length (xs.map stepVal)) (hn : 0 < n) (hnl : n ≤ xs.length) (hl : xs.length ≤ 1099511627776) :
    Calls Tryd.prog 49 #[v, .int .i64 0, .int .i64 (n : Int)] W fun e w' => ∃ u, e = .returned u ∧ w'.ownsRow 0 21 1 u (xs.length - n) ((xs.drop n).map stepVal) ∧ u.ownBlock = v.ownBlock ∧ Past (fun k => v.ownBlock = some k) W w' := by
  obtain ⟨b, cap, rfl⟩ : ∃ b cap, v = .slice (some ⟨b, 0, none⟩) xs.length cap := by
    rcases hown.2 with ⟨_, h⟩ | ⟨g, cap, cur, h, _⟩
    · omega
    · exact ⟨g, cap, h⟩
  obtain ⟨len, el⟩ : ∃ len, xs.length = len := ⟨_, rfl⟩
  rw [el] at hown hnl hl ⊢
  have hcap : len ≤ cap ∧ cap ≤ maxLen := by
    rcases hown.2 with ⟨h, _⟩ | ⟨g, cap', cur, h, _, _, h1, h2, _⟩
    · cases h
    · simp only [Value.slice.injEq] at h
      obtain ⟨_, _, rfl⟩ := h
      exact ⟨h1, h2⟩
  obtain ⟨hc1, hc2⟩ := hcap
  unfold maxLen at hc2
  obtain ⟨w1, hrun, hclear, hrow, hpast⟩ := dropped (c := stepVal) (P := Tryd.prog) W 51 51 21 (.int .i32 0) 4 Tryd.underlying51 info32 (fun w => by kernel_rfl) rfl rfl (fun _ => rfl) b len cap n xs el hown hn hnl
  have hs0 : ∀ w, (Instr.slice 51 (.slice (some ⟨b, 0, none⟩) len cap) none (some (.int .i64 0)) none).run Tryd.prog w = .ok (.slice (some ⟨b, 0, none⟩) 0 cap) w := fun w => highI32 b len cap 0 (by omega) w
  have hs1 := fun w => lowI32 b len cap n hnl hc1 w
  have hs2 := fun w => midI32 b (len - n) cap (len - n) len (by omega) hc1 (by omega) w
  rw [show len - (len - n) = n by omega] at hs2
  have hsub : ((len - n : Nat) : Int) = (len : Int) - (n : Int) := by omega
  have HR := Lib.hid hrow
  have HP := Lib.hid hpast
  have HRUN := Lib.hid hrun
  obtain ⟨V1, eV1⟩ : ∃ V, (Value.slice (some (if cap = n then (⟨b, 0, none⟩ : Addr) else ⟨b, n, none⟩)) (len - n) (cap - n)) = V := ⟨_, rfl⟩
  rw [eV1] at hs1 HRUN
  obtain ⟨m, em⟩ : ∃ m, len - n = m := ⟨_, rfl⟩
  rw [em] at hs2 hclear HR HP HRUN ⊢
  obtain ⟨W3, eW3⟩ : ∃ x, x = w1.setCells b m (List.replicate n (.int .i32 0)) := ⟨_, rfl⟩
  rw [← eW3] at hclear HR HP
  have hn0 : ((0 : Int) == (n : Int)) = false := by simp; omega
  have hn1 : decide ((0 : Int) = (n : Int)) = false := decide_eq_false (by omega)
  have hn2 : (0 == n) = false := by simp; omega
  clear hown hrun hrow hpast hsub eV1 em eW3
  go_enter Tryd.func49, Tryd.ntmps49
  go_upto_region 5 with fail
  go_region_law (refine step_append_eq rfl (.tmp 22) (.tmp 25) 51 rfl (.slice (some ⟨b, 0, none⟩) 0 cap) V1 (.slice (some ⟨b, 0, none⟩) m cap) w1 (by simp [Act.eval, Act.put]) (by simp [Act.eval, Act.put]) HRUN.out ?_)
  all_goals go_wp2_with fail
  all_goals go_ret
  all_goals exact ⟨_, rfl, HR.out, rfl, by simpa [Value.ownBlock, eq_comm] using HP.out⟩
end Go.Proofs.YtbhmjppnhlmefaaDoor.Fx
