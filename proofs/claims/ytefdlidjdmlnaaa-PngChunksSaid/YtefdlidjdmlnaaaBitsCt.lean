/-
  Writer's other calls, as landed: what it refuses, Align, Take; the structure Does. The conditions stand in each.
-/
import Derived.Test.YtefdlidjdmlnaaaBitsCp
namespace Go
/-- A builtin's call in a region, by its run. -/
theorem step_append_eq {P : Program} {ops : Array Oper} {o : Oper} {a : Act} {w : World} {K : Act → World → Prop} {Q : Exit → Act → World → Prop} {E : Prop}
    (hg : o.guard = none) (s x : Operand) (t : TypeId) (hop : o.op = Op.call { callee := Callee.builtin Builtin.append, args := #[s, x], argTypes := #[t, t] })
    (v u v' : Value) (w' : World) (hs : a.eval s = v) (hx : a.eval x = u) (hrun : (Builtin.append_ #[t, t] o.type #[v, u]).run P w = .ok v' w') (hK : K (a.put o.dst v') w') :
    if Region.wanted o (yielded ops a.tmps) = true then Oper.wp P o a w K Q else E := by
  have hw : Region.wanted o (yielded ops a.tmps) = true := by simp [Region.wanted, hg]
  rw [if_pos hw]
  unfold Oper.wp
  simp [execOp, hop, resolve, invoke, builtin, hs, hx, hrun, Result.andThen]
  exact hK
end Go
namespace Go.Proofs.Ytefdlidjdmlnaaa.Fx
open Go Go.RowKit Go.Joins
set_option linter.unusedVariables false
theorem putBad_code (w : World) (v : Value) (l : List Bool) (t : Nat) (O : Nat → Prop) (n k : Int) (h : isW w v l t O) (hn : 0 ≤ n ∧ n ≤ 4294967295) (hk : -9223372036854775808 ≤ k ∧ k ≤ 9223372036854775807) (hb : k < 0 ∨ 32 < k ∨ 2 ^ k.toNat ≤ n) :
    Calls Try.prog 69 #[v, .int .u32 n, .int .i64 k] w fun e w' => ∃ O', e = .returned (.int .i64 2) ∧ isW w' v l t O' ∧ (∀ b, O' b → O b ∨ w.heap.size ≤ b) ∧ Past O w w' := by
  have H := Lib.hid h
  obtain ⟨g, g', s, hh, _⟩ := h
  obtain ⟨rfl, h1, h2, h3⟩ := hh
  have q0 := cell_of_block h1 0
  have q1 := cell_of_block h2 1
  clear h1 h2 h3
  rcases Int.lt_or_le k 0 with h0 | h0
  · have hd : decide (k < 0) = true := decide_eq_true h0
    go_enter Try.func69, Try.ntmps69
    go_wp2_with fail
    go_ret
    exact ⟨O, rfl, H.out, fun b hb => .inl hb, Past.refl _ _⟩
  · have hd : decide (k < 0) = false := decide_eq_false (by omega)
    rcases Int.lt_or_le 32 k with h4 | h4
    · have hd2 : decide (32 < k) = true := decide_eq_true (by omega)
      go_enter Try.func69, Try.ntmps69
      go_wp2_with fail
      go_ret
      exact ⟨O, rfl, H.out, fun b hb => .inl hb, Past.refl _ _⟩
    · have hd2 : decide (32 < k) = false := decide_eq_false (by omega)
      obtain ⟨k', rfl⟩ : ∃ q : Nat, k = (q : Int) := ⟨k.toNat, by omega⟩
      obtain ⟨n', rfl⟩ : ∃ q : Nat, n = (q : Int) := ⟨n.toNat, by omega⟩
      rw [Int.toNat_natCast] at hb
      have hle : 2 ^ k' ≤ n' := by
        rcases hb with h | h | h
        · omega
        · omega
        · have e : (2 : Int) ^ k' = ((2 ^ k' : Nat) : Int) := pow_int k'
          rw [e] at h
          omega
      have hsh := shr_nat n' k'
      have hpos : 0 < n' / 2 ^ k' := Nat.div_pos hle (Nat.pow_pos (by decide))
      have hub : n' / 2 ^ k' ≤ n' := Nat.div_le_self _ _
      obtain ⟨Z, eZ⟩ : ∃ Z, n' / 2 ^ k' = Z := ⟨_, rfl⟩
      rw [eZ] at hsh hpos hub
      clear eZ hb hle
      have hz : ((Z : Int) != 0) = true := by simp; omega
      have hz2 : decide ((Z : Int) = 0) = false := decide_eq_false (by omega)
      go_enter Try.func69, Try.ntmps69
      go_wp2_with fail
      go_ret
      exact ⟨O, rfl, H.out, fun b hb => .inl hb, Past.refl _ _⟩
theorem bitsOf_zero (k : Nat) : bitsOf 0 k = List.replicate k false := by
  induction k with
  | zero => rfl
  | succ k ih =>
    rw [bitsOf, ih, List.replicate_succ]
    rfl
theorem align_code (w : World) (v : Value) (l : List Bool) (t : Nat) (O : Nat → Prop) (h : isW w v l t O) (hl : l.length ≤ 1099511627776) :
    Calls Try.prog 58 #[v] w fun e w' => ∃ O', e = .returned (.int .i64 0) ∧ isW w' v (aligned l) t O' ∧ (∀ b, O' b → O b ∨ w.heap.size ≤ b) ∧ Past O w w' := by
  have H := Lib.hid h
  obtain ⟨g, g', s, hh, _⟩ := h
  obtain ⟨rfl, h1, h2, h3⟩ := hh
  have q0 := cell_of_block h1 0
  have q1 := cell_of_block h2 1
  clear h1 h2 h3
  have HA : Hid (aligned l = l ++ bitsOf 0 ((8 - l.length % 8) % 8)) := by
    show _ = _
    rw [bitsOf_zero]
    rfl
  have KW := toWhole_any g' l.length w (by simpa using q1) (by omega)
  have KP := put_code w _ l t O 0 ((8 - l.length % 8) % 8) H.out hl (by omega) (Nat.pow_pos (by decide))
  have HL := Lib.hid hl
  clear hl
  generalize (8 - l.length % 8) % 8 = S at *
  generalize l.length = n at *
  go_enter Try.func58, Try.ntmps58
  go_wp2_with (first | (go_at_call 76; refine KW.mono ?_; rintro e w' ⟨rfl, rfl⟩) | (go_at_call 69; refine KP.mono ?_; rintro e w' ⟨O', rfl, k1, k2, k3⟩))
  go_ret
  exact ⟨O', rfl, by rw [HA.out]; exact k1, k2, k3⟩
theorem add_zero (a : Addr) : a.add 0 = a := by
  obtain ⟨b, o, sp⟩ := a
  cases sp <;> simp [Addr.add]
set_option maxRecDepth 100000 in
theorem size_one (w : World) : (sizeOf (Try.prog.elem 36)).run Try.prog w = .ok 1 w := by rfl
set_option maxRecDepth 100000 in
theorem slice_high (o : Option Addr) (n cap m : Nat) (h : m ≤ cap) (w : World) : (Instr.slice 36 (.slice o n cap) none (some (.int .i64 (m : Int))) none).run Try.prog w = .ok (.slice o m cap) w := by
  rw [run_slice_h w 36 o n cap Try.underlying36 .i64 m (by omega) (by omega), size_one]
  cases o <;> simp [sliced, Result.andThen, add_zero]
set_option maxRecDepth 100000 in
theorem slice_low (b n cap m : Nat) (h : m ≤ n) (hc : n ≤ cap) (w : World) : (Instr.slice 36 (.slice (some ⟨b, 0, none⟩) n cap) (some (.int .i64 (m : Int))) none none).run Try.prog w = .ok (.slice (some (if cap = m then ⟨b, 0, none⟩ else ⟨b, m, none⟩)) (n - m) (cap - m)) w := by
  rw [run_slice_l w 36 (some ⟨b, 0, none⟩) n cap Try.underlying36 .i64 m (by omega) (by omega), size_one]
  have hadd : (⟨b, 0, none⟩ : Addr).add m = ⟨b, m, none⟩ := by unfold Addr.add; split <;> simp_all
  by_cases h1 : cap = m
  · subst h1
    obtain rfl : n = cap := by omega
    simp [sliced, Result.andThen]
  · simp [sliced, Result.andThen, hadd, h1]
/-- What is left of a writer's bytes: a row of the same block, or a new one. -/
theorem isW_took {w1 w2 : World} {g g' : Nat} {s v' : Value} {l : List Bool} {t : Nat} (hobj : w1.heap[g]? = some (.cells #[.pointer (some ⟨g', 0, none⟩)] 122 (0, 0))) (hline : w1.heap[g']? = some (.cells #[s, .int .i64 (l.length : Int)] 120 (0, 0))) (hne : g ≠ g')
    (ha : s.ownBlock ≠ some g ∧ s.ownBlock ≠ some g') (hgrow : w1.grownBy w2 s.ownBlock) (hown : w2.ownsRow 0 5 1 v' (pend l.length (l.length / 8)) ((bytesAt l (l.length / 8) (pend l.length (l.length / 8))).map byteVal)) (hwhere : ∀ k, v'.ownBlock = some k → s.ownBlock = some k ∨ w1.heap.size ≤ k) :
    isW (w2.setCell ⟨g', 0, none⟩ v') (.pointer (some ⟨g, 0, none⟩)) l (l.length / 8) (fun k => k = g ∨ k = g' ∨ v'.ownBlock = some k) ∧ Past (fun k => k = g ∨ k = g' ∨ s.ownBlock = some k) w1 (w2.setCell ⟨g', 0, none⟩ v') := by
  have h0 := (Array.getElem?_eq_some_iff.1 hobj).1
  have h1 := (Array.getElem?_eq_some_iff.1 hline).1
  have hap : v'.ownBlock ≠ some g ∧ v'.ownBlock ≠ some g' := by
    refine ⟨fun e => ?_, fun e => ?_⟩
    · rcases hwhere g e with h3 | h3
      · exact ha.1 h3
      · omega
    · rcases hwhere g' e with h3 | h3
      · exact ha.2 h3
      · omega
  have hl2 : w2.heap[g']? = _ := (hgrow.block g' h1 (fun e => ha.2 e.symm)).trans hline
  refine ⟨⟨g, g', v', ⟨rfl, ?_, block_setCell hl2 _, hne⟩, ownsRow_same hown (fun k hk => Below.heap_setCell _ _ _ k (fun e => hap.2 (by rw [hk]; exact congrArg some e))), hap.1, hap.2, by omega, rfl⟩, ⟨hgrow.os, hgrow.tape, hgrow.output, by simpa using hgrow.size, fun k hk hO => ?_⟩⟩
  · rw [Below.heap_setCell _ _ _ g hne]
    exact (hgrow.block g h0 (fun e => ha.1 e.symm)).trans hobj
  · rw [Below.heap_setCell _ _ _ k (fun e => hO (.inr (.inl e)))]
    exact hgrow.block k hk (fun e => hO (.inr (.inr e.symm)))
theorem take_end {w0 w1 w2 : World} {g g' : Nat} {s u v' : Value} {l : List Bool} {t r : Nat} {zs : List Nat} {NEWS : List Value} (K1 : bytesIn w1 u zs) (K2 : ∀ b, inBlock u b → w0.heap.size ≤ b) (K3 : Below w0.heap.size w0 w1) (hz : zs = bytesAt l t (l.length / 8 - t))
    (hobj : w1.heap[g]? = some (.cells #[.pointer (some ⟨g', 0, none⟩)] 122 (0, 0))) (hline : w1.heap[g']? = some (.cells #[s, .int .i64 (l.length : Int)] 120 (0, 0))) (hne : g ≠ g')
    (h0 : g < w0.heap.size) (h1 : g' < w0.heap.size) (hb : ∀ k, s.ownBlock = some k → k < w0.heap.size) (ha : s.ownBlock ≠ some g ∧ s.ownBlock ≠ some g') (hr : pend l.length (l.length / 8) = r) (hN : (bytesAt l (l.length / 8) r).map byteVal = NEWS) (hgrow : w1.drew.grownBy w2 s.ownBlock) (hown : w2.ownsRow 0 5 1 v' (0 + r) ([] ++ NEWS)) (hwhere : ∀ k, v'.ownBlock = some k → s.ownBlock = some k ∨ w1.drew.heap.size ≤ k) :
    ∃ O', bytesIn (w2.setCell ⟨g', 0, none⟩ v') u (bytesAt l t (l.length / 8 - t)) ∧ (∀ b, inBlock u b → ((b = g ∨ b = g' ∨ s.ownBlock = some b) ∨ w0.heap.size ≤ b) ∧ ¬ O' b) ∧ isW (w2.setCell ⟨g', 0, none⟩ v') (.pointer (some ⟨g, 0, none⟩)) l (l.length / 8) O' ∧ (∀ b, O' b → (b = g ∨ b = g' ∨ s.ownBlock = some b) ∨ w0.heap.size ≤ b) ∧ Past (fun k => k = g ∨ k = g' ∨ s.ownBlock = some k) w0 (w2.setCell ⟨g', 0, none⟩ v') := by
  rw [Nat.zero_add, List.nil_append, ← hN, ← hr] at hown
  have hg2 : w1.grownBy w2 s.ownBlock := ⟨hgrow.os, hgrow.tape, hgrow.output, hgrow.size, hgrow.block⟩
  obtain ⟨h2, h3⟩ := isW_took (t := t) hobj hline hne ha hg2 hown hwhere
  have hs1 := K3.size
  refine ⟨_, ?_, fun b hb2 => ⟨.inr (K2 b hb2), ?_⟩, h2, ?_, (Past.of_below K3).trans h3 (fun b hb => .inl hb)⟩
  · rw [← hz]
    refine listed_kept K1 h3.size (fun b hb2 => h3.block b (inBlock_lt K1 hb2) ?_)
    have := K2 b hb2
    rintro (rfl | rfl | e)
    · omega
    · omega
    · have := hb b e
      omega
  · have h4 := K2 b hb2
    have h5 := inBlock_lt K1 hb2
    rintro (rfl | rfl | e)
    · omega
    · omega
    · rcases hwhere b e with h6 | h6
      · have := hb b h6
        omega
      · have : w1.heap.size ≤ b := h6
        omega
  · rintro b (rfl | rfl | e)
    · exact .inl (.inl rfl)
    · exact .inl (.inr (.inl rfl))
    · rcases hwhere b e with h6 | h6
      · exact .inl (.inr (.inr h6))
      · have : w1.heap.size ≤ b := h6
        exact .inr (by omega)
theorem row_any {w : World} {v : Value} {c : Nat} {xs : List Value} (h : w.ownsRow 0 5 1 v c xs) : ∃ o cap, v = .slice o c cap := by
  rcases h.2 with ⟨rfl, rfl⟩ | ⟨b, cap, cur, rfl, _⟩
  · exact ⟨none, 0, rfl⟩
  · exact ⟨_, cap, rfl⟩
set_option maxRecDepth 100000 in
/-- The parts of a writer's bytes: what is taken, what is left, and where this goes. -/
theorem take_parts {w : World} {s : Value} {l : List Bool} {t n m r : Nat} (ho : w.ownsRow 0 5 1 s (m + r) ((bytesAt l t m).map byteVal ++ (bytesAt l (n / 8) r).map byteVal)) (hr1 : r ≤ 1) :
    ∃ (V0 SM V1 : Value), (∀ w, (Instr.slice 36 s none (some (.int .i64 0)) none).run Try.prog w = .ok V0 w) ∧ (∀ w, (Instr.slice 36 s none (some (.int .i64 (m : Int))) none).run Try.prog w = .ok SM w) ∧ (∀ w, (Instr.slice 36 s (some (.int .i64 (m : Int))) none none).run Try.prog w = .ok V1 w) ∧
      (∀ w, (Builtin.len_ #[36] 3 #[s]).run Try.prog w = .ok (.int .i64 ((m + r : Nat) : Int)) w) ∧ bytesIn w SM (bytesAt l t m) ∧
      (∀ w1, Below w.heap.size w w1 → ∃ v' w2, (Builtin.append_ #[36, 36] 36 #[V0, V1]).run Try.prog w1.drew = .ok v' w2 ∧ w2.ownsRow 0 5 1 v' (0 + r) ([] ++ (bytesAt l (n / 8) r).map byteVal) ∧ w1.drew.grownBy w2 s.ownBlock ∧ (∀ k, v'.ownBlock = some k → s.ownBlock = some k ∨ w1.drew.heap.size ≤ k)) := by
  obtain ⟨i0, hi, hz0, hz1, hz2⟩ := info_parts info8
  rcases ho.2 with ⟨rfl, hz⟩ | ⟨b, cap, cur, rfl, _, hb, hcc, hcm, hcs, hct⟩
  · obtain rfl : m = 0 := by omega
    obtain rfl : r = 0 := by omega
    refine ⟨.slice none 0 0, .slice none 0 0, .slice none 0 0, fun w => slice_high none 0 0 0 (Nat.le_refl _) w, fun w => slice_high none 0 0 0 (Nat.le_refl _) w, fun w => ?_, fun w => run_len_slice w _ _ none 0 0 Try.underlying36, listed_none _ _, fun w1 hb => ⟨.slice none 0 0, w1.drew, ?_, World.ownsRow_nil _ _ _ _, ⟨rfl, rfl, rfl, Nat.le_refl _, fun _ _ _ => rfl⟩, fun k hk => by simp [Value.ownBlock] at hk⟩⟩
    · rw [run_slice_l w 36 none 0 0 Try.underlying36 .i64 ((0 : Nat) : Int) (by omega) (by omega), size_one]
      simp [sliced, Result.andThen]
    · exact run_append_owned_none (P := Try.prog) (w := w1.drew) 0 _ _ 5 i0 1 Try.underlying36 hi (.slice none 0 0) 0 [] (World.ownsRow_nil _ _ _ _)
  · refine ⟨.slice (some ⟨b, 0, none⟩) 0 cap, .slice (some ⟨b, 0, none⟩) m cap, _, fun w => slice_high (some ⟨b, 0, none⟩) (m + r) cap 0 (by omega) w, fun w => slice_high (some ⟨b, 0, none⟩) (m + r) cap m (by omega) w, fun w => slice_low b (m + r) cap m (by omega) hcc w, fun w => run_len_slice w _ _ _ (m + r) cap Try.underlying36, ?_, fun w1 hb1 => ?_⟩
    · refine .inr ⟨b, 0, cap, by rw [bytesAt_length], (Array.getElem?_eq_some_iff.1 hb).1, by rw [bytesAt_length]; omega, fun j z hz => ?_⟩
      have hj := ho.cells rfl j (byteVal z) (by rw [List.getElem?_append_left (by have := (List.getElem?_eq_some_iff.mp hz).1; simpa using this), List.getElem?_map, hz]; rfl)
      rwa [Addr.add_lit] at hj
    · have hltb := (Array.getElem?_eq_some_iff.1 hb).1
      have hb2 : w1.heap[b]? = some (.cells cur 5 (0, 0)) := (hb1.block b hltb).trans hb
      rw [Nat.add_sub_cancel_left]
      have hown0 : w1.drew.ownsRow 0 5 1 (.slice (some ⟨b, 0, none⟩) 0 cap) 0 [] := ⟨rfl, .inr ⟨b, cap, cur, rfl, Nat.zero_le _, hb2, Nat.zero_le _, hcm, by simpa using hcs, by simp⟩⟩
      refine run_append_where (P := Try.prog) w1.drew 0 _ _ 5 i0 (.int .u8 0) 1 1 Try.underlying36 hi hz0 hz1 hz2 rfl (by decide) (.slice (some ⟨b, 0, none⟩) 0 cap) 0 [] hown0 (if cap = m then ⟨b, 0, none⟩ else ⟨b, m, none⟩) r (cap - m) _ (by simp [bytesAt_length]) (fun j u hu => ?_) (fun u hu => ?_) (by unfold maxLen; omega) (by omega) (Nat.zero_le _)
      · have hj : j < r := by have := (List.getElem?_eq_some_iff.mp hu).1; simpa [bytesAt_length] using this
        have := ho.cells rfl (m + j) u (by rw [List.getElem?_append_right (by simp [bytesAt_length])]; simpa [bytesAt_length] using hu)
        rw [Addr.add_lit] at this
        rw [if_neg (by omega), Addr.add_lit]
        exact (World.cell?_of_block (w := w) (w' := w1.drew) (a := ⟨b, m + j, none⟩) (hb1.block b hltb)).trans (by simpa using this)
      · obtain ⟨x, _, rfl⟩ := List.mem_map.1 hu
        rfl
set_option maxHeartbeats 4000000 in
set_option maxRecDepth 100000 in
theorem take_code (w : World) (v : Value) (l : List Bool) (t : Nat) (O : Nat → Prop) (h : isW w v l t O) (hl : l.length ≤ 1099511627776) (ht : 8 * t ≤ l.length) :
    Calls Try.prog 57 #[v] w fun e w' => ∃ u O', e = .returned u ∧ bytesIn w' u (bytesAt l t (l.length / 8 - t)) ∧ (∀ b, inBlock u b → (O b ∨ w.heap.size ≤ b) ∧ ¬ O' b) ∧ isW w' v l (l.length / 8) O' ∧ (∀ b, O' b → O b ∨ w.heap.size ≤ b) ∧ Past O w w' := by
  obtain ⟨g, g', s, hh, ho, hs1, hs2, ht8, rfl⟩ := h
  obtain ⟨rfl, h1, h2, h3⟩ := hh
  have HBL : Hid (∀ k, s.ownBlock = some k → k < w.heap.size) := fun k hk => (ho.lt k hk).2
  obtain ⟨n, en⟩ : ∃ n, l.length = n := ⟨_, rfl⟩
  obtain ⟨m, em⟩ : ∃ m, n / 8 - t = m := ⟨_, rfl⟩
  obtain ⟨r, er⟩ : ∃ r, pend n (n / 8) = r := ⟨_, rfl⟩
  have hr1 : r ≤ 1 := by unfold pend at er; omega
  have hpe : pend n t = m + r := by unfold pend at er ⊢; omega
  have htm : t + m = n / 8 := by omega
  rw [en, hpe, bytesAt_add, htm, List.map_append] at ho
  obtain ⟨V0, SM, V1, hsl0, hsl1, hsl2, hlen, hpre, KAP⟩ := take_parts ho hr1
  have KAP := Lib.hid KAP
  have q0 := cell_of_block h1 0
  have q1 := cell_of_block h2 0
  have q2 := cell_of_block h2 1
  rw [en] at q2
  have H1 := Lib.hid h1
  have H2 := Lib.hid h2
  have hlt0 := (Array.getElem?_eq_some_iff.1 h1).1
  have hlt1 := (Array.getElem?_eq_some_iff.1 h2).1
  have hr8 : (if n % 8 = 0 then 0 else 1) = r := by unfold pend at er; split <;> omega
  have hone : s.oneCell' = true := by obtain ⟨o, c, rfl⟩ := row_any ho; rfl
  have KC := clone_any _ _ w hpre (by rw [bytesAt_length]; omega)
  have HA : Hid (s.ownBlock ≠ some g ∧ s.ownBlock ≠ some g') := ⟨hs1, hs2⟩
  have HEN := Lib.hid en
  have HER := Lib.hid (show pend l.length (l.length / 8) = r by rw [en]; exact er)
  have HL8 := Lib.hid (show bytesAt l t m = bytesAt l t (l.length / 8 - t) by rw [en, em])
  have hn40 : n ≤ 1099511627776 := by omega
  have hm40 : m ≤ 137438953472 := by omega
  obtain ⟨o0, c0, hs0⟩ := row_any ho
  obtain ⟨N, eN⟩ : ∃ N, m + r = N := ⟨_, rfl⟩
  rw [eN] at hlen hs0
  clear ho hpre h1 h2 hpe htm em er en hl hs1 hs2 hone
  subst hs0
  go_enter Try.func57, Try.ntmps57
  go_upto_if 30 with fail
  go_cut [3] (fun s3 wx => s3 = .int .i64 (m : Int) ∧ wx = w)
  case first =>
    by_cases h8 : n % 8 = 0
    · rw [if_pos h8] at hr8
      subst hr8
      have hd : decide ((0 : Int) < (n : Int) % 8) = false := decide_eq_false (by omega)
      have hNm : N = m := by omega
      subst hNm
      go_wp2_with fail
      go_meet
      exact ⟨rfl, rfl⟩
    · rw [if_neg h8] at hr8
      subst hr8
      have hd : decide ((0 : Int) < (n : Int) % 8) = true := decide_eq_true (by omega)
      have hNm : (N : Int) - 1 = (m : Int) := by omega
      have hwm : IntKind.i64.wrap (m : Int) = (m : Int) := by rw [IntKind.wrap_i64]; omega
      go_wp2_with fail
      go_meet
      exact ⟨rfl, rfl⟩
  case rest =>
    obtain ⟨rfl, rfl⟩ := hcut
    clear eN hr8
    go_upto_region 7 with (go_at_call 75; refine KC.mono ?_; rintro e w1 ⟨u, rfl, k1, k2, k3⟩)
    obtain ⟨uo, uc, rfl⟩ := listed_length k1
    have hg1 := k3.size
    obtain ⟨v', w2, hrun, hown, hgrow, hwhere⟩ := KAP.out w1 k3
    rw [Nat.zero_add, List.nil_append] at hown
    obtain ⟨o2, c2, rfl⟩ := row_any hown
    have hB0 := (k3.block g hlt0).trans H1.out
    have hB1 := (k3.block g' hlt1).trans H2.out
    have HEND := Lib.hid (take_end (r := r) k1 k2 k3 HL8.out hB0 hB1 h3 hlt0 hlt1 HBL.out HA.out HER.out rfl hgrow (by rw [Nat.zero_add, List.nil_append, HEN.out]; exact hown) hwhere)
    have hx0 := (hgrow.block g (show g < w1.heap.size by omega) (fun e => HA.out.1 e.symm)).trans hB0
    have hx1 := (hgrow.block g' (show g' < w1.heap.size by omega) (fun e => HA.out.2 e.symm)).trans hB1
    clear q0 q1 q2
    have q0 := cell_of_block hB0 0
    have q1 := cell_of_block hB1 0
    have r0 := cell_of_block hx0 0
    have r1 := cell_of_block hx1 0
    have r2 := unfrozen_of_block hx1 0
    clear hx0 hx1 hB0 hB1 hown hgrow hwhere k1 k2 k3 hsl1
    obtain ⟨Z, eZ⟩ : ∃ Z, (bytesAt l t m).length = Z := ⟨_, rfl⟩
    rw [eZ] at HEND ⊢
    clear eZ
    have HRUN := Lib.hid hrun
    clear hrun
    go_cut [4] (fun s4 wx => s4 = .slice uo Z uc ∧ wx = w2.setCell ⟨g', 0, none⟩ (.slice o2 r c2))
    case first =>
      clear HEND
      go_region_law (refine step_append_eq rfl (.tmp 54) (.tmp 63) 36 rfl V0 V1 (.slice o2 r c2) w2 (by simp [Act.eval, Act.put]) (by simp [Act.eval, Act.put]) HRUN.out ?_)
      all_goals go_wp2_with fail
      all_goals go_meet
      all_goals exact ⟨rfl, rfl⟩
    case rest =>
      obtain ⟨rfl, rfl⟩ := hcut
      go_wp2_with fail
      go_ret
      obtain ⟨O', e1, e2, e3, e4, e5⟩ := HEND.out
      exact ⟨_, O', rfl, e1, e2, e3, e4, e5⟩
end Go.Proofs.Ytefdlidjdmlnaaa.Fx
