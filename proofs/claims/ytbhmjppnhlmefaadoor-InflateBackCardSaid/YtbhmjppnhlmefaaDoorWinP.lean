/-
  End, New, writers that no call made or that have ended, as landed. The conditions stand in each.
-/
import Derived.Test.YtbhmjppnhlmefaaDoorWinO
namespace Go.Proofs.YtbhmjppnhlmefaaDoor.Fx
open Go Go.RowKit Go.Joins Go.Maps
set_option linter.unusedVariables false
theorem RunP.align {W w : World} {O : Nat → Prop} {g : Nat} {v : Value} {t : Nat} {l : List Bool} {zs : List Nat} {first opn : Nat} (h : RunP W O g v t l zs first opn w) (hl : l.length ≤ 1099511627776) :
    Calls Tryd.prog 17 #[v] w fun e w' => e = .returned (.int .i64 0) ∧ RunP W O g v t (aligned l) zs first opn w' := by
  obtain ⟨O1, ⟨OB, OK, h1, h2, h3, rfl⟩, k2, k3⟩ := h
  refine (align_code w v l t OB h1 hl).mono ?_
  rintro e w' ⟨OB', rfl, j1, j2, j3⟩
  have hltK := isK_lt h2
  refine ⟨rfl, _, ⟨OB', OK, j1, isK_keep h2 (fun k hk => j3.block k (hltK k hk) (fun h => h3 k h hk)), fun k hk hk2 => (j2 k hk).elim (fun h => h3 k h hk2) (fun h => by have := hltK k hk2; omega), rfl⟩, fun b hb => ?_, k3.trans j3 (fun b hb => k2 b (.inl hb))⟩
  rcases hb with hb | hb
  · exact (j2 b hb).elim (fun h => k2 b (.inl h)) (fun h => .inr (Nat.le_trans k3.size h))
  · exact k2 b (.inr hb)
theorem Pack.blk {w : World} {g : Nat} {v : Value} {l : List Bool} {t : Nat} {zs : List Nat} {first opn : Nat} {O : Nat → Prop} (h : Pack w g v l t zs first opn O) : O g ∧ ∃ x1 x2 x3 x4 x5, w.heap[g]? = some (.cells #[v, x1, x2, x3, x4, x5, .bool false] 57 (0, 0)) := by
  obtain ⟨OB, OK, h1, h2, h3, rfl⟩ := h
  refine ⟨.inr (isK_g h2), ?_⟩
  obtain ⟨s, tv, mb, st, D, hk, _⟩ := h2
  exact ⟨_, _, _, _, _, hk.blk⟩
/-- A writer's last bytes. -/
def Ended (W : World) (O : Nat → Prop) (v : Value) (all : List Nat) (e : Ending) (w' : World) : Prop :=
  ∃ u O', e = .returned (.tuple #[u, .int .i64 0]) ∧ bytesIn w' u (bytesAt (endOf all) ((outOf all).length / 8) ((endOf all).length / 8 - (outOf all).length / 8)) ∧ (∀ b, inBlock u b → (O b ∨ W.heap.size ≤ b) ∧ ¬ O' b) ∧ isDE w' v O' ∧ (∀ b, O' b → O b) ∧ Past O W w'
theorem end_len (all : List Nat) : (endOf all).length ≤ 8 * (all.length + 5 * (all.length / 4096 + 1)) ∧ (outOf all).length ≤ (endOf all).length := by
  obtain ⟨h1, h2⟩ := endOf_length all
  have h3 : fullOf all.length ≤ all.length / 4096 := by unfold fullOf; omega
  obtain ⟨y, hy⟩ := endOf_more all
  refine ⟨by omega, ?_⟩
  rw [hy, List.length_append]
  omega
theorem seven_past (w : World) (g : Nat) (x0 x1 x2 x3 x4 x5 x6 : Value) : Past (fun k => k = g) w (((((((w.setCell ⟨g, 0, none⟩ x0).setCell ⟨g, 1, none⟩ x1).setCell ⟨g, 2, none⟩ x2).setCell ⟨g, 3, none⟩ x3).setCell ⟨g, 4, none⟩ x4).setCell ⟨g, 5, none⟩ x5).setCell ⟨g, 6, none⟩ x6) :=
  (((((((past_setCell w g 0 x0).trans (past_setCell _ g 1 x1) (fun _ h => .inl h)).trans (past_setCell _ g 2 x2) (fun _ h => .inl h)).trans (past_setCell _ g 3 x3) (fun _ h => .inl h)).trans (past_setCell _ g 4 x4) (fun _ h => .inl h)).trans (past_setCell _ g 5 x5) (fun _ h => .inl h)).trans (past_setCell _ g 6 x6) (fun _ h => .inl h))
set_option maxHeartbeats 4000000 in
set_option maxRecDepth 100000 in
theorem end_code (W : World) (v : Value) (all : List Nat) (O : Nat → Prop) (hd : isDW W v all O) (h8 : ∀ x ∈ all, x < 256) (hl : all.length ≤ 100000000) :
    Calls Tryd.prog 11 #[v] W (Ended W O v all) := by
  obtain ⟨h, g, ov, OP, rfl, hh, hmid, hpack, hne, rfl⟩ := hd
  obtain ⟨q0, q5, q6, _, hglt⟩ := hpack.cells
  have hh0 := cell_of_block hh 0
  obtain ⟨OB, OK, hw, _⟩ := id hpack
  obtain ⟨va, rfl⟩ := isW_ptr hw
  have hst := state_code h g false W hh0 q6
  have HH := Lib.hid hh
  have HNE := Lib.hid hne
  have HHL := Lib.hid (Array.getElem?_eq_some_iff.1 hh).1
  have HPG := Lib.hid hpack.blk.1
  have HH0 : Hid (W.cell? ⟨h, 0, none⟩ = some (.pointer (some ⟨g, 0, none⟩))) := hh0
  have KB := hmid.last h8 (fullOf_le _) (by unfold fullOf; omega) (by omega)
  have hel := end_len all
  have HEA : Hid (aligned (blockOf (blocksOf all (fullOf all.length)) all (4096 * fullOf all.length) all.length 1) = endOf all) := rfl
  have hbl : (blockOf (blocksOf all (fullOf all.length)) all (4096 * fullOf all.length) all.length 1).length ≤ (endOf all).length := by
    rw [← HEA.out, aligned_length]
    omega
  obtain ⟨T, eT⟩ : ∃ T, (outOf all).length / 8 = T := ⟨_, rfl⟩
  have ET := Lib.hid eT
  rw [eT] at KB
  generalize blockOf (blocksOf all (fullOf all.length)) all (4096 * fullOf all.length) all.length 1 = L at *
  have HEL := Lib.hid hel
  have HBL := Lib.hid hbl
  clear hh hmid hpack hne h8 hw eT hel hbl q0 q5 q6
  go_enter Tryd.func11, Tryd.ntmps11
  go_wp2_with fail
  go_at_call 22
  refine hst.mono ?_
  rintro e w' ⟨rfl, rfl⟩
  clear hst
  go_wp2_with fail
  go_at_call 23
  refine KB.mono ?_
  rintro e w5 ⟨rfl, zs, f, hR⟩
  have KA := hR.align (by have := HEL.out; have := HBL.out; omega)
  rw [HEA.out] at KA
  obtain ⟨c0, _, _, _, _⟩ := hR.cells
  have hh5 := (World.cell?_of_block (w := W) (a := ⟨h, 0, none⟩) (hR.past.block h HHL.out HNE.out)).trans HH0.out
  clear KB hR hh0
  go_wp2_with fail
  go_at_call 17
  refine KA.mono ?_
  rintro e w6 ⟨rfl, hR⟩
  have KT := hR.take (by have := HEL.out; omega) (by have := HEL.out; have := ET.out; omega)
  obtain ⟨c0, _, _, _, _⟩ := hR.cells
  have hh6 := (World.cell?_of_block (w := W) (a := ⟨h, 0, none⟩) (hR.past.block h HHL.out HNE.out)).trans HH0.out
  clear KA hR hh5
  go_wp2_with fail
  go_at_call 18
  refine KT.mono ?_
  rintro e w7 ⟨u, O7, rfl, j1, j2, j3, j4, j5⟩
  obtain ⟨uo, ul, uc, eu⟩ : ∃ o n c, u = .slice o n c := by
    obtain ⟨o, c, h⟩ := listed_length j1
    exact ⟨o, _, c, h⟩
  have hh7 := (World.cell?_of_block (w := W) (a := ⟨h, 0, none⟩) (j5.block h HHL.out HNE.out)).trans HH0.out
  obtain ⟨hg7, x1, x2, x3, x4, x5, hb7⟩ := j2.blk
  have hgh : g ≠ h := by
    rintro rfl
    exact HNE.out HPG.out
  have b0 := cell_of_block hb7 0
  have b1 := cell_of_block hb7 1
  have b2 := cell_of_block hb7 2
  have b3 := cell_of_block hb7 3
  have b4 := cell_of_block hb7 4
  have b5 := cell_of_block hb7 5
  have b6 := cell_of_block hb7 6
  have f0 := unfrozen_of_block hb7 0
  have f1 := unfrozen_of_block hb7 1
  have f2 := unfrozen_of_block hb7 2
  have f3 := unfrozen_of_block hb7 3
  have f4 := unfrozen_of_block hb7 4
  have f5 := unfrozen_of_block hb7 5
  have f6 := unfrozen_of_block hb7 6
  have J := Lib.hid (And.intro j1 (And.intro j3 (And.intro j5 (And.intro hg7 (And.intro hb7 hgh)))))
  subst eu
  clear KT j1 j2 j3 j4 j5 hg7 hb7 hh6
  go_wp2_with fail
  obtain ⟨j1, j3, j5, hg7, hb7, _⟩ := J.out
  refine bodyPost_ret (v := .tuple #[.slice uo ul uc, .int .i64 0]) (by simp [results, Tryd.results11, asAddr, go_sem]) rfl ?_
  have hb8 := block_setCell (i := 6) (block_setCell (i := 5) (block_setCell (i := 4) (block_setCell (i := 3) (block_setCell (i := 2) (block_setCell (i := 1) (block_setCell (i := 0) hb7 (.pointer none)) (.slice none 0 0)) (.int .i64 0)) (.slice none 0 0)) (.map none)) (.int .i64 0)) (.bool true)
  have hp8 := seven_past w7 g (.pointer none) (.slice none 0 0) (.int .i64 0) (.slice none 0 0) (.map none) (.int .i64 0) (.bool true)
  refine ⟨.slice uo ul uc, _, rfl, ?_, fun b hb => ?_, ⟨h, g, rfl, ?_, ⟨_, _, hb8, by simp⟩, rfl⟩, ?_, ?_⟩
  · rw [ET.out]
    exact listed_past j1 hp8 (fun b hb e => (j3 b hb).2 (by rw [e]; exact hg7))
  · obtain ⟨a1, a2⟩ := j3 b hb
    refine ⟨a1.elim (fun h2 => .inl (.inr h2)) .inr, fun h2 => h2.elim (fun h3 => ?_) (fun h3 => a2 (by rw [h3]; exact hg7))⟩
    subst h3
    rcases a1 with a1 | a1
    · exact HNE.out a1
    · have := HHL.out
      omega
  · exact (hp8.block h (by have := j5.size; have := HHL.out; omega) (fun e => hgh e.symm)).trans ((j5.block h HHL.out HNE.out).trans HH.out)
  · rintro b (rfl | rfl)
    · exact .inl rfl
    · exact .inr HPG.out
  · refine Past.trans (O := fun k => k = h ∨ OP k) ⟨j5.os, j5.tape, j5.output, j5.size, fun k hk hn => j5.block k hk (fun h2 => hn (.inr h2))⟩ hp8 (fun b hb => .inl (.inr (by rw [hb]; exact HPG.out)))
theorem alloc_second (w : World) (o1 o2 : Obj) : ((w.alloc o1).alloc o2).heap[w.heap.size + 1]? = some o2 := by
  have hs1 : (w.alloc o1).heap.size = w.heap.size + 1 := by
    show (w.heap.push _).size = _
    simp
  rw [← hs1]
  exact heap_alloc_new _ _
theorem newWindow_code (w : World) : Calls Tryd.prog 21 #[] w fun e w' => e = .returned (.agg #[.slice none 0 0, .int .i64 0, .slice none 0 0, .map (some (w.heap.size + 1))]) ∧ w'.heap[w.heap.size + 1]? = some (.map #[] 0) ∧ Below w.heap.size w w' := by
  have hmm := @run_makeMap Tryd.prog
  go_enter Tryd.func21, Tryd.ntmps21
  go_wp2_with fail
  have hb0 : ((w.alloc (.cells #[.slice none 0 0, .int .i64 0, .slice none 0 0, .map (some (w.heap.size + 1))] 54)).alloc (.map #[] 0)).heap[w.heap.size]? = some (.cells #[.slice none 0 0, .int .i64 0, .slice none 0 0, .map (some (w.heap.size + 1))] 54 (0, 0)) := alloc_old (heap_alloc_new w _)
  have hs1 : (w.alloc (.cells #[.slice none 0 0, .int .i64 0, .slice none 0 0, .map (some (w.heap.size + 1))] 54)).heap.size = w.heap.size + 1 := by
    show (w.heap.push _).size = _
    simp
  have hm1 : ((w.alloc (.cells #[.slice none 0 0, .int .i64 0, .slice none 0 0, .map (some (w.heap.size + 1))] 54)).alloc (.map #[] 0)).heap[w.heap.size + 1]? = some (.map #[] 0) := alloc_second w _ _
  have p0 := cell_of_block hb0 0
  have p1 := cell_of_block hb0 1
  have p2 := cell_of_block hb0 2
  have p3 := cell_of_block hb0 3
  exact bodyPost_ret (v := .agg #[.slice none 0 0, .int .i64 0, .slice none 0 0, .map (some (w.heap.size + 1))]) (by simp [results, Tryd.results21, asAddr, Result.andThen, go_sem, p0, p1, p2, p3]) rfl ⟨rfl, hm1, ((Below.refl _ _).alloc (Nat.le_refl _) _).alloc (by rw [hs1]; omega) _⟩
theorem owns_empty {w : World} {m : Nat} (hb : w.heap[m]? = some (.map #[] 0)) (k : TypeId) (R : Value → Option (Book × List MemPlace)) : w.ownsMap Tryd.prog k R m 0 (.map []) :=
  ⟨#[], 0, hb, ⟨by simp, MapKept.stamped_empty 0, by simp⟩, Nat.le_refl _, rfl⟩
theorem outOf_nil : outOf [] = [] := rfl
/-- A new writer. -/
theorem new_code (W : World) : Calls Tryd.prog 8 #[] W fun e w' => ∃ v O, e = .returned v ∧ isDW w' v [] O ∧ (∀ k, O k → W.heap.size ≤ k) ∧ Below W.heap.size W w' := by
  go_enter Tryd.func8, Tryd.ntmps8
  go_wp2_with (go_at_call 15; refine (wnew_any W).mono ?_; rintro e w1 ⟨v, O, rfl, k1, k2, k3⟩)
  refine (newWindow_code w1).mono ?_
  rintro e w2 ⟨rfl, m1, m2⟩
  obtain ⟨va, rfl⟩ := isW_ptr k1
  have K := Lib.hid (And.intro k1 (And.intro k2 (And.intro k3 (And.intro m1 m2))))
  clear k1 k2 k3 m1 m2
  go_wp2_with fail
  obtain ⟨k1, k2, k3, m1, m2⟩ := K.out
  have hs2 := m2.size
  have hs3 := k3.size
  have hmlt := (Array.getElem?_eq_some_iff.1 m1).1
  have hOlt := isW_lt _ _ _ _ _ k1
  obtain ⟨C, eC⟩ : ∃ C, C = #[Value.pointer va, .slice none 0 0, .int .i64 0, .slice none 0 0, .map (some (w1.heap.size + 1)), .int .i64 0, .bool false] := ⟨_, rfl⟩
  rw [← eC]
  have hsa : (w2.alloc (.cells C 57)).heap.size = w2.heap.size + 1 := by
    show (w2.heap.push _).size = _
    simp
  have hba : Below w2.heap.size w2 ((w2.alloc (.cells C 57)).alloc (.cells #[.pointer (some ⟨w2.heap.size, 0, none⟩)] 59)) := ((Below.refl _ _).alloc (Nat.le_refl _) _).alloc (by rw [hsa]; omega) _
  have hg : ((w2.alloc (.cells C 57)).alloc (.cells #[.pointer (some ⟨w2.heap.size, 0, none⟩)] 59)).heap[w2.heap.size]? = some (.cells C 57 (0, 0)) := alloc_old (heap_alloc_new w2 _)
  have hh : ((w2.alloc (.cells C 57)).alloc (.cells #[.pointer (some ⟨w2.heap.size, 0, none⟩)] 59)).heap[w2.heap.size + 1]? = some (.cells #[.pointer (some ⟨w2.heap.size, 0, none⟩)] 59 (0, 0)) := by
    rw [← hsa]
    exact heap_alloc_new _ _
  have hm : ((w2.alloc (.cells C 57)).alloc (.cells #[.pointer (some ⟨w2.heap.size, 0, none⟩)] 59)).heap[w1.heap.size + 1]? = some (.map #[] 0) := (hba.block _ (by omega)).trans m1
  generalize ((w2.alloc (.cells C 57)).alloc (.cells #[.pointer (some ⟨w2.heap.size, 0, none⟩)] 59)) = Z at *
  have hW : isW Z (.pointer va) [] 0 O := isW_keep _ _ _ _ _ _ k1 (by have := hba.size; omega) (fun k hk => (hba.block k (by have := hOlt k hk; omega)).trans (m2.block k (hOlt k hk)))
  subst eC
  have hK : isK Z w2.heap.size (.pointer va) [] 0 0 (blocksK w2.heap.size (.slice none 0 0) (.slice none 0 0) (w1.heap.size + 1)) :=
    ⟨.slice none 0 0, .slice none 0 0, w1.heap.size + 1, [], .map [], ⟨hg, World.ownsRow_nil _ _ _ _, World.ownsRow_nil _ _ _ _, owns_empty hm _ _, Lasts.start 0, by simp [Value.ownBlock], by simp [Value.ownBlock], by simp [Value.ownBlock]⟩, Steps.start, rfl, rfl⟩
  have hKO : ∀ k, blocksK w2.heap.size (.slice none 0 0) (.slice none 0 0) (w1.heap.size + 1) k → k = w2.heap.size ∨ k = w1.heap.size + 1 := fun k hk => by
    rcases hk with h | h | h | h
    · exact .inl h
    · simp [Value.ownBlock] at h
    · simp [Value.ownBlock] at h
    · exact .inr h
  have hP : Pack Z w2.heap.size (.pointer va) (outOf []) ((outOf []).length / 8) (([] : List Nat).drop (firstOf (fullOf ([] : List Nat).length))) (firstOf (fullOf ([] : List Nat).length)) (([] : List Nat).length - 4096 * fullOf ([] : List Nat).length) _ := ⟨O, _, hW, hK, fun k hk hk2 => by have := hOlt k hk; have := hKO k hk2; omega, rfl⟩
  refine bodyPost_ret (v := .pointer (some ⟨w2.heap.size + 1, 0, none⟩)) (by simp [results, Tryd.results8, asAddr, go_sem]) rfl ⟨_, _, rfl, isDW_mk hh hP (fun hk => ?_), fun k hk => ?_, (k3.trans (m2.mono hs3)).trans (hba.mono (by omega))⟩
  · rcases hk with hk | hk
    · have := hOlt _ hk
      omega
    · have := hKO _ hk
      omega
  · rcases hk with rfl | hk | hk
    · omega
    · exact k2 k hk
    · have := hKO _ hk
      omega
/-- Write behind End. -/
theorem writeOver_code (W : World) (v bv : Value) (O : Nat → Prop) (hd : isDE W v O) : Calls Tryd.prog 10 #[v, bv] W fun e w' => e = .returned (.tuple #[.slice none 0 0, .int .i64 23]) ∧ W = w' := by
  obtain ⟨h, g, rfl, hh, ⟨cs, ty, hg, h6⟩, rfl⟩ := hd
  have K := state_code h g true W (cell_of_block hh 0) ((cell_of_block hg 6).trans h6)
  clear hh hg h6
  go_enter Tryd.func10, Tryd.ntmps10
  go_wp2_with fail
  go_at_call 22
  refine K.mono ?_
  rintro e w' ⟨rfl, rfl⟩
  go_wp2_with fail
  exact bodyPost_ret (v := .tuple #[.slice none 0 0, .int .i64 23]) (by simp [results, Tryd.results10, asAddr, go_sem]) rfl ⟨rfl, rfl⟩
/-- End behind End. -/
theorem endOver_code (W : World) (v : Value) (O : Nat → Prop) (hd : isDE W v O) : Calls Tryd.prog 11 #[v] W fun e w' => e = .returned (.tuple #[.slice none 0 0, .int .i64 23]) ∧ W = w' := by
  obtain ⟨h, g, rfl, hh, ⟨cs, ty, hg, h6⟩, rfl⟩ := hd
  have K := state_code h g true W (cell_of_block hh 0) ((cell_of_block hg 6).trans h6)
  clear hh hg h6
  go_enter Tryd.func11, Tryd.ntmps11
  go_wp2_with fail
  go_at_call 22
  refine K.mono ?_
  rintro e w' ⟨rfl, rfl⟩
  go_wp2_with fail
  exact bodyPost_ret (v := .tuple #[.slice none 0 0, .int .i64 23]) (by simp [results, Tryd.results11, asAddr, go_sem]) rfl ⟨rfl, rfl⟩
/-- A writer that New did not make: none, or one without a packer. -/
def noDW (w : World) (v : Value) : Prop := v = .pointer none ∨ ∃ h, v = .pointer (some ⟨h, 0, none⟩) ∧ w.cell? ⟨h, 0, none⟩ = some (.pointer none)
theorem stateNo_code (w : World) (v : Value) (hv : noDW w v) : Calls Tryd.prog 22 #[v] w fun e w' => e = .returned (.int .i64 1) ∧ w = w' := by
  rcases hv with rfl | ⟨h, rfl, hh⟩
  · exact stateNone_code w
  · exact stateBare_code h w hh
theorem writeNone_code (W : World) (v bv : Value) (hv : noDW W v) : Calls Tryd.prog 10 #[v, bv] W fun e w' => e = .returned (.tuple #[.slice none 0 0, .int .i64 1]) ∧ W = w' := by
  have K := stateNo_code W v hv
  obtain ⟨va, rfl⟩ : ∃ a, v = .pointer a := by rcases hv with rfl | ⟨h, rfl, _⟩ <;> exact ⟨_, rfl⟩
  clear hv
  go_enter Tryd.func10, Tryd.ntmps10
  go_wp2_with fail
  go_at_call 22
  refine K.mono ?_
  rintro e w' ⟨rfl, rfl⟩
  go_wp2_with fail
  exact bodyPost_ret (v := .tuple #[.slice none 0 0, .int .i64 1]) (by simp [results, Tryd.results10, asAddr, go_sem]) rfl ⟨rfl, rfl⟩
theorem endNone_code (W : World) (v : Value) (hv : noDW W v) : Calls Tryd.prog 11 #[v] W fun e w' => e = .returned (.tuple #[.slice none 0 0, .int .i64 1]) ∧ W = w' := by
  have K := stateNo_code W v hv
  obtain ⟨va, rfl⟩ : ∃ a, v = .pointer a := by rcases hv with rfl | ⟨h, rfl, _⟩ <;> exact ⟨_, rfl⟩
  clear hv
  go_enter Tryd.func11, Tryd.ntmps11
  go_wp2_with fail
  go_at_call 22
  refine K.mono ?_
  rintro e w' ⟨rfl, rfl⟩
  go_wp2_with fail
  exact bodyPost_ret (v := .tuple #[.slice none 0 0, .int .i64 1]) (by simp [results, Tryd.results11, asAddr, go_sem]) rfl ⟨rfl, rfl⟩
end Go.Proofs.YtbhmjppnhlmefaaDoor.Fx
