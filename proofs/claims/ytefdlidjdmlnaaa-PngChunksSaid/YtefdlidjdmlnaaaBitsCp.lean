/-
  Writer's Put, as landed. The conditions stand in each.
-/
import Derived.Deep.RegionLaw
import Derived.ArgAppend
import Derived.StillTailTactics
import Derived.Test.YtefdlidjdmlnaaaBitsCg
namespace Go
/-- 'append' to a row of the call's own: where the new row lies is told. -/
theorem run_append_where {P : Program} (w : World) (base : Nat) (t ty e : TypeId) (i : TypeInfo) (z : Value) (size bytes : Nat) (ht : P.underlying t = some (.slice e)) (hi : P.info? e = some i) (hz : i.zero = some z)
    (hsize : i.size = size) (hby : i.bytes = bytes) (hzs : z.cells.size = size) (hsz : 0 < size)
    (v : Value) (n : Nat) (xs : List Value) (hown : w.ownsRow base e size v n xs)
    (a : Addr) (m c : Nat) (news : List Value) (hl : news.length = m * size) (hnews : ∀ j u, news[j]? = some u → w.cell? (a.add j) = some u) (h1 : ∀ u ∈ news, u.oneCell' = true)
    (h63 : n + m ≤ maxLen) (hbytes : (n + m) * bytes ≤ 140737488355328) (hbase : base ≤ w.heap.size) :
    ∃ v' w', (Builtin.append_ #[t, t] ty #[v, .slice (some a) m c]).run P w = .ok v' w' ∧ w'.ownsRow base e size v' (n + m) (xs ++ news) ∧ w.grownBy w' v.ownBlock ∧ (∀ k, v'.ownBlock = some k → v.ownBlock = some k ∨ w.heap.size ≤ k) := by
  obtain ⟨v', w', hrun, r1, r2, _⟩ := run_append_own (P := P) w base t ty e i z size bytes ht hi hz hsize hby hzs hsz v n xs hown a m c news hl hnews h1 h63 hbytes hbase
  refine ⟨v', w', hrun, r1, r2, fun k hk => ?_⟩
  rcases hown.2 with ⟨rfl, rfl⟩ | ⟨g, cap, cur, rfl, hb, hg, hn, hm, hs, htk⟩
  · obtain rfl : xs = [] := List.eq_nil_of_length_eq_zero (by simpa using hown.1)
    obtain ⟨v'', w'', hrun', q1, _, _⟩ := run_append_own (P := P) w w.heap.size t ty e i z size bytes ht hi hz hsize hby hzs hsz (.slice none 0 0) 0 [] (World.ownsRow_nil w _ e size) a m c news hl hnews h1 h63 hbytes (Nat.le_refl _)
    rw [hrun] at hrun'
    obtain ⟨rfl, rfl⟩ : v' = v'' ∧ w' = w'' := by simpa using hrun'
    exact .inr (q1.lt k hk).1
  · by_cases hr : n + m ≤ cap
    · subst hsize
      have hfit : n * i.size + news.length ≤ cur.size := by rw [hl, hs, ← Nat.add_mul]; exact Nat.mul_le_mul_right _ hr
      have hrun' := run_append_room (P := P) w t ty e i ht hi g n cap cur hg a m c news hl hnews h1 hr hfit
      rw [hrun] at hrun'
      have e1 : v' = .slice (some ⟨g, 0, none⟩) (n + m) cap := by
        have := congrArg (fun r => match r with | Result.ok a _ => a | _ => undef) hrun'
        simpa using this
      subst e1
      exact .inl hk
    · have hlo : xs.length = n * size := hown.1
      obtain ⟨v'', w'', hrun', q1, _⟩ := run_append_arg_grows (P := P) w t ty e i z size bytes ht hi hz hsize hby hzs hsz ⟨g, 0, none⟩ n cap xs hlo (fun j u hj => hown.cells rfl j u hj) a m c news hl hnews (by omega) h63 hbytes
      rw [hrun] at hrun'
      obtain ⟨rfl, rfl⟩ : v' = v'' ∧ w' = w'' := by simpa using hrun'
      exact .inr (q1.lt k hk).1
theorem step_append_own' {P : Program} {ops : Array Oper} {o : Oper} {a : Act} {w : World} {K : Act → World → Prop} {Q : Exit → Act → World → Prop} {E : Prop}
    (hg : o.guard = none) (s x : Operand) (t : TypeId) (hop : o.op = Op.call { callee := Callee.builtin Builtin.append, args := #[s, x], argTypes := #[t, t] })
    (base : Nat) (e : TypeId) (i : TypeInfo) (z : Value) (size bytes : Nat) (h1 : P.underlying t = some (.slice e)) (h2 : P.info? e = some i) (h3 : i.zero = some z) (h4 : i.size = size) (h5 : i.bytes = bytes) (h6 : z.cells.size = size) (h7 : 0 < size)
    (v : Value) (n : Nat) (xs : List Value) (hs : a.eval s = v) (hown : w.ownsRow base e size v n xs)
    (ad : Addr) (m c : Nat) (news : List Value) (hx : a.eval x = .slice (some ad) m c) (hn : news.length = m * size) (hc : ∀ j u, news[j]? = some u → w.cell? (ad.add j) = some u) (h1c : ∀ u ∈ news, u.oneCell' = true)
    (b1 : n + m ≤ maxLen) (b2 : (n + m) * bytes ≤ 140737488355328) (hb : base ≤ w.heap.size)
    (hK : ∀ v' w', w'.ownsRow base e size v' (n + m) (xs ++ news) → w.grownBy w' v.ownBlock → (∀ k, v'.ownBlock = some k → v.ownBlock = some k ∨ w.heap.size ≤ k) → K (a.put o.dst v') w') :
    if Region.wanted o (yielded ops a.tmps) = true then Oper.wp P o a w K Q else E := by
  have hw : Region.wanted o (yielded ops a.tmps) = true := by simp [Region.wanted, hg]
  rw [if_pos hw]
  obtain ⟨v', w', hrun, r1, r2, r3⟩ := run_append_where (P := P) w base t o.type e i z size bytes h1 h2 h3 h4 h5 h6 h7 v n xs hown ad m c news hn hc h1c b1 b2 hb
  unfold Oper.wp
  simp [execOp, hop, resolve, invoke, builtin, hs, hx, hrun, Result.andThen]
  exact hK v' w' r1 r2 r3
end Go
namespace Go.Proofs.Ytefdlidjdmlnaaa.Fx
open Go Go.RowKit Go.Joins
set_option linter.unusedVariables false
theorem bytesAt_more (l X : List Bool) (i m : Nat) (h : 8 * (i + m) ≤ l.length) : bytesAt (l ++ X) i m = bytesAt l i m := by
  induction m generalizing i with
  | zero => rfl
  | succ m ih =>
    rw [bytesAt, bytesAt, ih (i + 1) (by omega)]
    congr 1
    unfold numAt
    rw [List.drop_append_of_le_length (by omega), List.take_append_of_le_length (by rw [List.length_drop]; omega)]
theorem numAt_end (l X : List Bool) (f : Nat) (h : f ≤ l.length) (h8 : l.length + X.length ≤ f + 8) : numAt (l ++ X) f 8 = numAt l f 8 + 2 ^ (l.length - f) * numOf X := by
  unfold numAt
  rw [List.drop_append_of_le_length h, List.take_of_length_le (by rw [List.length_append, List.length_drop]; omega), List.take_of_length_le (by rw [List.length_drop]; omega), numOf_append, List.length_drop]
theorem numAt_end_below (l : List Bool) (f : Nat) (h : f ≤ l.length) (h8 : l.length ≤ f + 8) : numAt l f 8 < 2 ^ (l.length - f) := by
  unfold numAt
  have := numOf_below ((l.drop f).take 8)
  rwa [List.length_take, List.length_drop, Nat.min_eq_right (by omega)] at this
theorem numAt_past (l : List Bool) (f k : Nat) (h : l.length ≤ f) : numAt l f k = 0 := by
  unfold numAt
  rw [List.drop_eq_nil_of_le h, List.take_nil]
  rfl
/-- A number's bits, laid into a byte behind others. -/
theorem or_byte (B M a m : Nat) (hB : B < 2 ^ a) (ha : a < 8) (hm : a + m ≤ 8) (hM : m = 8 - a ∨ M < 2 ^ m) : ∃ Y y : Nat, IntKind.u32.wrap ((M : Int) * (2 : Int) ^ a) = (Y : Int) ∧ Y ≤ 4294967295 ∧ IntKind.u8.wrap (Y : Int) = (y : Int) ∧ y ≤ 255 ∧ bits .or .u8 (B : Int) (y : Int) = ((B + 2 ^ a * (M % 2 ^ m) : Nat) : Int) ∧ B + 2 ^ a * (M % 2 ^ m) ≤ 255 := by
  have e8 : 256 = 2 ^ a * 2 ^ (8 - a) := by rw [← Nat.pow_add, show a + (8 - a) = 8 by omega]
  have hp : 0 < 2 ^ a := Nat.pow_pos (by decide)
  have hq : 0 < 2 ^ (8 - a) := Nat.pow_pos (by decide)
  have hmod : M % 2 ^ (8 - a) = M % 2 ^ m := by
    rcases hM with rfl | h
    · rfl
    · have : 2 ^ m ≤ 2 ^ (8 - a) := Nat.pow_le_pow_right (by decide) (by omega)
      rw [Nat.mod_eq_of_lt h, Nat.mod_eq_of_lt (by omega)]
  have hy : M * 2 ^ a % 4294967296 % 256 = 2 ^ a * (M % 2 ^ m) := by
    rw [Nat.mod_mod_of_dvd _ (by decide : 256 ∣ 4294967296), e8, Nat.mul_comm M, Nat.mul_mod_mul_left, hmod]
  have hb : 2 ^ a * (M % 2 ^ m) + 2 ^ a ≤ 256 := by
    rw [← hmod, e8, ← Nat.mul_succ]
    exact Nat.mul_le_mul_left _ (Nat.mod_lt _ hq)
  refine ⟨M * 2 ^ a % 4294967296, 2 ^ a * (M % 2 ^ m), ?_, by omega, ?_, by omega, ?_, by omega⟩
  · rw [pow_int, IntKind.wrap_u32', ← Int.natCast_mul]
    omega
  · rw [IntKind.wrap_u8', ← hy]
    omega
  · rw [u8_or_nat B _ (by omega) (by omega), Nat.or_comm, nat_join a _ _ (Nat.mul_mod_right _ _) hB, Nat.add_comm]
theorem row_set {w : World} {b cap c : Nat} {cur : Array Value} {ys : List Nat} {z R : Nat} (hb : w.heap[b]? = some (.cells cur 5 (0, 0))) (hc : c + 1 ≤ cap) (hm : cap ≤ maxLen) (hs : cur.size = cap) (hy : ys.length = c) (ht : cur.toList.take (c + 1) = (ys ++ [z]).map byteVal) :
    (w.setCell ⟨b, c, none⟩ (.int .u8 (R : Int))).ownsRow 0 5 1 (.slice (some ⟨b, 0, none⟩) (c + 1) cap) (c + 1) ((ys ++ [R]).map byteVal) := by
  refine ⟨by simp [hy], .inr ⟨b, cap, _, rfl, Nat.zero_le _, block_setCell hb _, hc, hm, by simpa using hs, ?_⟩⟩
  have h1 : cur.toList.take c = ys.map byteVal := by
    have := congrArg (List.take c) ht
    rw [List.take_take, Nat.min_eq_left (by omega), List.map_append, List.take_append_of_le_length (by simp [hy]), List.take_of_length_le (l := ys.map byteVal) (by simp [hy])] at this
    exact this
  rw [Nat.mul_one, Array.toList_setIfInBounds, List.take_add_one, List.take_set_of_le (Nat.le_refl _), h1, List.map_append]
  congr 1
  rw [List.getElem?_set_self (by rw [Array.length_toList]; omega)]
  rfl
theorem row_form {w : World} {v : Value} {c : Nat} {xs : List Value} (h : w.ownsRow 0 5 1 v (c + 1) xs) : ∃ b cap, v = .slice (some ⟨b, 0, none⟩) (c + 1) cap ∧ c + 1 ≤ cap := by
  rcases h.2 with ⟨_, h⟩ | ⟨b, cap, cur, rfl, _, _, hc, _⟩
  · omega
  · exact ⟨b, cap, rfl, hc⟩
/-- What holds between the rounds of Put. -/
structure Puts (w wr : World) (g g' : Nat) (s s' : Value) (L : List Bool) (t : Nat) (m : Nat) : Prop where
  os : wr.os = w.os
  tape : wr.tape = w.tape
  output : wr.output = w.output
  size : w.heap.size ≤ wr.heap.size
  old : ∀ k, k < w.heap.size → k ≠ g' → s.ownBlock ≠ some k → wr.heap[k]? = w.heap[k]?
  obj : wr.heap[g]? = some (.cells #[.pointer (some ⟨g', 0, none⟩)] 122 (0, 0))
  line : wr.heap[g']? = some (.cells #[s', .int .i64 (L.length : Int)] 120 (0, 0))
  row : wr.ownsRow 0 5 1 s' m ((bytesAt L t m).map byteVal)
  own : ∀ k, s'.ownBlock = some k → s.ownBlock = some k ∨ w.heap.size ≤ k
  apart : s'.ownBlock ≠ some g ∧ s'.ownBlock ≠ some g'
theorem Puts.lts {w wr : World} {g g' : Nat} {s s' : Value} {L : List Bool} {t m : Nat} (h : Puts w wr g g' s s' L t m) : g < wr.heap.size ∧ g' < wr.heap.size ∧ g ≠ g' := by
  refine ⟨(Array.getElem?_eq_some_iff.1 h.obj).1, (Array.getElem?_eq_some_iff.1 h.line).1, fun e => ?_⟩
  have h1 := h.obj
  rw [e, h.line] at h1
  simp at h1
/-- A byte of no bits, laid behind the others: the two blocks behind the append; then the line holds the new slice. -/
theorem Puts.appended {w wr w2 : World} {g g' : Nat} {s s' v' : Value} {L : List Bool} {t m : Nat} {XS : List Value} {arr : Obj} (h : Puts w wr g g' s s' L t m) (hg : (wr.alloc arr).drew.grownBy w2 s'.ownBlock) :
    w2.heap[g]? = some (.cells #[.pointer (some ⟨g', 0, none⟩)] 122 (0, 0)) ∧ w2.heap[g']? = some (.cells #[s', .int .i64 (L.length : Int)] 120 (0, 0)) := by
  obtain ⟨h0, h1, h2⟩ := h.lts
  have hz : (wr.alloc arr).drew.heap.size = wr.heap.size + 1 := by show (wr.alloc arr).heap.size = _; simp
  exact ⟨(hg.block g (by omega) (fun e => h.apart.1 e.symm)).trans (alloc_old h.obj), (hg.block g' (by omega) (fun e => h.apart.2 e.symm)).trans (alloc_old h.line)⟩
theorem Puts.stored {w wr w2 : World} {g g' : Nat} {s s' v' : Value} {L : List Bool} {t m : Nat} {XS : List Value} {arr : Obj} (h : Puts w wr g g' s s' L t m) (hg : (wr.alloc arr).drew.grownBy w2 s'.ownBlock)
    (hX : (bytesAt L t m).map byteVal = XS) (ho : w2.ownsRow 0 5 1 v' (m + 1) (XS ++ [.int .u8 0])) (hw : ∀ k, v'.ownBlock = some k → s'.ownBlock = some k ∨ (wr.alloc arr).drew.heap.size ≤ k) (hL : L.length ≤ 8 * (t + m)) :
    Puts w (w2.setCell ⟨g', 0, none⟩ v') g g' s v' L t (m + 1) := by
  obtain ⟨h0, h1, h2⟩ := h.lts
  obtain ⟨hobj, hline⟩ := h.appended (XS := XS) (v' := v') hg
  have hz : (wr.alloc arr).drew.heap.size = wr.heap.size + 1 := by show (wr.alloc arr).heap.size = _; simp
  have hap : v'.ownBlock ≠ some g ∧ v'.ownBlock ≠ some g' := by
    refine ⟨fun e => ?_, fun e => ?_⟩
    · rcases hw g e with h3 | h3
      · exact h.apart.1 h3
      · omega
    · rcases hw g' e with h3 | h3
      · exact h.apart.2 h3
      · omega
  refine ⟨hg.os.trans h.os, hg.tape.trans h.tape, hg.output.trans h.output, ?_, fun k hk hk1 hk2 => ?_, ?_, block_setCell hline _, ?_, fun k hk => ?_, hap⟩
  · have := hg.size
    have := h.size
    simp
    omega
  · have hkk : s'.ownBlock ≠ some k := fun e => by
      rcases h.own k e with h3 | h3
      · exact hk2 h3
      · omega
    have := h.size
    rw [Below.heap_setCell _ _ _ k hk1, hg.block k (by omega) (fun e => hkk e.symm)]
    exact (Below.heap_alloc _ _ _ (by omega)).trans (h.old k hk hk1 hk2)
  · rw [Below.heap_setCell _ _ _ g h2]
    exact hobj
  · rw [bytesAt_next, numAt_past _ _ _ hL, List.map_append, hX]
    exact ownsRow_same ho (fun k hk => Below.heap_setCell _ _ _ k (fun e => hap.2 (by rw [hk]; exact congrArg some e)))
  · rcases hw k hk with h3 | h3
    · exact h.own k h3
    · have := h.size
      exact .inr (by omega)
/-- A byte's further bits are put: the byte, then the place. -/
theorem Puts.put {w wr : World} {g g' b cap c : Nat} {s : Value} {L X : List Bool} {t R : Nat} {P' : Int} (h : Puts w wr g g' s (.slice (some ⟨b, 0, none⟩) (c + 1) cap) L t (c + 1)) (hc : 8 * (t + c) ≤ L.length) (hR : numAt (L ++ X) (8 * (t + c)) 8 = R) (hP : P' = ((L ++ X).length : Int)) :
    Puts w ((wr.setCell ⟨b, c, none⟩ (.int .u8 (R : Int))).setCell ⟨g', 1, none⟩ (.int .i64 P')) g g' s (.slice (some ⟨b, 0, none⟩) (c + 1) cap) (L ++ X) t (c + 1) := by
  subst hP
  obtain ⟨h0, h1, h2⟩ := h.lts
  have hbg : b ≠ g := fun e => h.apart.1 (by rw [← e]; rfl)
  have hbg' : b ≠ g' := fun e => h.apart.2 (by rw [← e]; rfl)
  have hrow := h.row
  rcases hrow.2 with ⟨he, _⟩ | ⟨b', cap', cur, he, _, hb2, hcc, hcm, hcs, hct⟩
  · cases he
  · simp only [Value.slice.injEq, Option.some.injEq, Addr.mk.injEq] at he
    obtain ⟨⟨rfl, _⟩, _, rfl⟩ := he
    rw [Nat.mul_one, bytesAt_next] at hct
    rw [Nat.mul_one] at hcs
    have hnew := row_set (R := R) hb2 hcc hcm hcs (bytesAt_length L t c) hct
    refine ⟨h.os, h.tape, h.output, by simpa using h.size, fun k hk hk1 hk2 => ?_, ?_, ?_, ?_, h.own, h.apart⟩
    · have hkb : k ≠ b := fun e => by
        rcases h.own b rfl with h3 | h3
        · exact hk2 (by rw [h3, e])
        · omega
      rw [Below.heap_setCell _ _ _ k hk1, Below.heap_setCell _ _ _ k hkb]
      exact h.old k hk hk1 hk2
    · rw [Below.heap_setCell _ _ _ g h2, Below.heap_setCell _ _ _ g hbg.symm]
      exact h.obj
    · have hl : (wr.setCell ⟨b, c, none⟩ (.int .u8 (R : Int))).heap[g']? = _ := (Below.heap_setCell _ _ _ g' hbg'.symm).trans h.line
      exact block_setCell hl _
    · rw [bytesAt_next, hR, bytesAt_more _ _ _ _ hc]
      exact ownsRow_same hnew (fun k hk => by
        obtain rfl : b = k := by simpa [Value.ownBlock] using hk
        exact Below.heap_setCell _ _ _ b hbg')
theorem Puts.drew {w wr : World} {g g' : Nat} {s s2 : Value} {L : List Bool} {t m : Nat} (h : Puts w wr g g' s s2 L t m) : Puts w wr.drew g g' s s2 L t m := ⟨h.os, h.tape, h.output, h.size, h.old, h.obj, h.line, h.row, h.own, h.apart⟩
theorem Puts.last {w wr : World} {g g' : Nat} {s s2 : Value} {L : List Bool} {t c : Nat} (h : Puts w wr g g' s s2 L t (c + 1)) : ∃ b cap, s2 = .slice (some ⟨b, 0, none⟩) (c + 1) cap ∧ wr.cell? ⟨b, c, none⟩ = some (.int .u8 (numAt L (8 * (t + c)) 8 : Nat)) ∧ wr.frozen? ⟨b, c, none⟩ = false ∧ c + 1 ≤ 9223372036854775807 := by
  rcases h.row.2 with ⟨he, h2⟩ | ⟨b, cap, cur, he, _, hb2, hcc, hcm, hcs, hct⟩
  · omega
  · refine ⟨b, cap, he, ?_, unfrozen_of_block hb2 c, by unfold maxLen at hcm; omega⟩
    rw [cell_of_block hb2 c]
    have := congrArg (fun l => l[c]?) hct
    simp only [Nat.mul_one] at this
    rw [List.getElem?_take, if_pos (by omega), bytesAt_next, List.map_append, List.getElem?_append_right (by simp [bytesAt_length])] at this
    simpa [bytesAt_length, byteVal] using this
set_option maxHeartbeats 4000000 in
set_option maxRecDepth 100000 in
theorem put_code (w : World) (v : Value) (l : List Bool) (t : Nat) (O : Nat → Prop) (n k : Nat) (h : isW w v l t O) (hl : l.length ≤ 1099511627776) (hk : k ≤ 32) (hn : n < 2 ^ k) :
    Calls Try.prog 69 #[v, .int .u32 (n : Int), .int .i64 (k : Int)] w fun e w' => ∃ O', e = .returned (.int .i64 0) ∧ isW w' v (l ++ bitsOf n k) t O' ∧ (∀ b, O' b → O b ∨ w.heap.size ≤ b) ∧ Past O w w' := by
  obtain ⟨g, g', s, hh, ho, hs1, hs2, ht8, rfl⟩ := h
  obtain ⟨rfl, h1, h2, h3⟩ := hh
  have q0 := cell_of_block h1 0
  have q1 := cell_of_block h2 1
  have hst : Puts w w g g' s s l t (pend l.length t) := ⟨rfl, rfl, rfl, Nat.le_refl _, fun _ _ _ _ => rfl, h1, h2, ho, fun _ h => .inl h, hs1, hs2⟩
  have HLT := Lib.hid (And.intro (Array.getElem?_eq_some_iff.1 h1).1 (Array.getElem?_eq_some_iff.1 h2).1)
  have HO := Lib.hid ho
  clear h1 h2 ho hs1 hs2
  have bk := pow_le k hk
  have hsh0 : (n : Int) / (2 : Int) ^ k = 0 := by rw [shr_nat, Nat.div_eq_of_lt hn]; rfl
  have hn32 : n ≤ 4294967295 := by omega
  have HN := Lib.hid hn
  have hd1 : decide ((k : Int) < 0) = false := decide_eq_false (by omega)
  have hd2 : decide ((32 : Int) < (k : Int)) = false := decide_eq_false (by omega)
  clear hn bk
  go_enter Try.func69, Try.ntmps69
  go_wp2_with fail
  go_loopw [1, 2] (fun x i wr => ∃ (j : Nat) (s' : Value), j ≤ k ∧ x = .int .u32 (n / 2 ^ j : Nat) ∧ i = .int .i64 (k - j : Nat) ∧ Puts w wr g g' s s' (l ++ bitsOf n j) t (pend (l.length + j) t)) (fun _ i _ => (intOf i).toNat)
  case atStart => exact ⟨0, s, Nat.zero_le _, by rw [Nat.pow_zero, Nat.div_one], rfl, by rw [bitsOf, List.append_nil]; exact hst⟩
  case round =>
    clear hst q0 q1 hsh0 hd1 hd2
    obtain ⟨j, s', hj, rfl, rfl, hm⟩ := hrel
    have q0 := cell_of_block hm.obj 0
    have q1 := cell_of_block hm.line 0
    have q2 := cell_of_block hm.line 1
    have f1 := unfrozen_of_block hm.line 0
    have f2 := unfrozen_of_block hm.line 1
    have HM := Lib.hid hm
    have HL : Hid ((l ++ bitsOf n j).length = l.length + j) := by
      show _ = _
      rw [List.length_append, bitsOf_length]
    rw [HL.out] at q2
    clear hm
    obtain ⟨d, ed⟩ : ∃ d, k - j = d := ⟨_, rfl⟩
    rw [ed]
    by_cases hjk : j < k
    · have hd1 : decide ((0 : Int) < (d : Int)) = true := decide_eq_true (by omega)
      obtain ⟨p, ep⟩ : ∃ p, l.length + j = p := ⟨_, rfl⟩
      obtain ⟨a, ea⟩ : ∃ a, p % 8 = a := ⟨_, rfl⟩
      obtain ⟨m, em⟩ : ∃ m, min d (8 - a) = m := ⟨_, rfl⟩
      rw [ep] at q2 HM HL
      have HB : Hid (bitsOf n (j + m) = bitsOf n j ++ bitsOf (n / 2 ^ j) m) := bitsOf_add n j m
      have HQ : Hid (n / 2 ^ (j + m) = n / 2 ^ j / 2 ^ m) := by
        show _ = _
        rw [Nat.pow_add, Nat.div_div_eq_div_mul]
      have hMb : n / 2 ^ j < 2 ^ d := by
        rw [Nat.div_lt_iff_lt_mul (Nat.pow_pos (by decide)), ← Nat.pow_add, show d + j = k by omega]
        exact HN.out
      have hM32 : n / 2 ^ j ≤ 4294967295 := Nat.le_trans (Nat.div_le_self _ _) hn32
      obtain ⟨M, eM⟩ : ∃ M, n / 2 ^ j = M := ⟨_, rfl⟩
      rw [eM] at HB HQ hMb hM32 ⊢
      clear eM
      have ha : a < 8 := by omega
      have hm1 : 0 < m := by omega
      have hm2 : m ≤ d := by omega
      have hm3 : a + m ≤ 8 := by omega
      have hp40 : p ≤ 1099511627808 := by omega
      have hMm : m = 8 - a ∨ M < 2 ^ m := by
        by_cases h : m = 8 - a
        · exact .inl h
        · obtain rfl : m = d := by omega
          exact .inr hMb
      have KW : Hid (∀ w', w'.cell? ⟨g', 1, none⟩ = some (.int .i64 (p : Int)) → Calls Try.prog 88 #[.pointer (some ⟨g', 0, none⟩), .int .i64 (d : Int)] w' fun e w'' => e = .returned (.int .i64 (m : Int)) ∧ w' = w'') := fun w' hc => by
        have := within_any g' p d w' hc (by omega) (by omega)
        rwa [ea, em] at this
      have HMM := Lib.hid hMm
      have HMB := Lib.hid hMb
      clear hMm hMb
      have htp : 8 * t ≤ p := by omega
      go_upto_if 46 with (go_at_call 88; refine (KW.out _ (by simpa using q2)).mono ?_; rintro e w' ⟨rfl, rfl⟩)
      go_cut [7] (fun s7 wx => s7 = .int .i64 (m : Int) ∧ ∃ s2, Hid (Puts w wx g g' s s2 (l ++ bitsOf n j) t (p / 8 - t + 1)))
      case first =>
        by_cases ha0 : a = 0
        · have hd2 : ((p : Int) % 8 == 0) = true := by simp; omega
          have hd3 : decide ((p : Int) % 8 = 0) = true := decide_eq_true (by omega)
          have hrem : (p : Int) % 8 = 0 := by omega
          have htm : (p : Int).tmod 8 = 0 := by rw [Int.tmod_eq_emod_of_nonneg (by omega)]; omega
          obtain ⟨i0, hi, hz0, hz1, hz2⟩ := info_parts info8
          obtain ⟨c, ec⟩ : ∃ c, p / 8 - t = c := ⟨_, rfl⟩
          have hpc : pend p t = c := by unfold pend; omega
          rw [hpc] at HM
          have EC := Lib.hid ec
          have hcb : c + 1 ≤ 140737488355328 := by omega
          have hcl : p ≤ 8 * (t + c) := by omega
          obtain ⟨XS, eX⟩ : ∃ XS, (bytesAt (l ++ bitsOf n j) t c).map byteVal = XS := ⟨_, rfl⟩
          have HROW := Lib.hid HM.out.row
          rw [eX] at HROW
          have HX := Lib.hid eX
          clear eX hpc ec em ea ep ed
          have hlt0 := HLT.out.1
          have hlt1 := HLT.out.2
          go_wp2_with fail
          have a0 := fun o => cell_of_block (alloc_old (o' := o) HM.out.obj) 0
          have a1 := fun o => cell_of_block (alloc_old (o' := o) HM.out.line) 0
          go_region_law (refine step_append_own' rfl (.tmp 57) (.tmp 58) 36 rfl 0 5 i0 (.int .u8 0) 1 1 Try.underlying36 hi hz0 hz1 hz2 rfl (by decide) s' c XS (by simp [Act.eval]) (HROW.out.alloc _) ⟨wr.heap.size, 0, none⟩ 1 1 [.int .u8 0] (by simp [Act.eval]) rfl (by intro j u hu; cases j <;> simp at hu; subst hu; simp [Addr.add]) (by simp [Value.oneCell']) (by unfold maxLen; omega) (by omega) (Nat.zero_le _) ?_; intro v' w2 hown hgrow hwhere; obtain ⟨b2, cap, rfl, hcc⟩ := row_form hown; obtain ⟨hx0, hx1⟩ := HM.out.appended (XS := XS) (v' := .slice (some ⟨b2, 0, none⟩) (c + 1) cap) hgrow; have HP2 := Lib.hid (HM.out.stored hgrow HX.out hown hwhere (by rw [HL.out]; exact hcl)); have r0 := cell_of_block hx0 0; have r1 := cell_of_block hx1 0; have r2 := unfrozen_of_block hx1 0)
          all_goals go_wp2_with fail
          all_goals go_meet
          all_goals exact ⟨rfl, _, by rw [EC.out]; exact HP2⟩
        · have hd2 : ((p : Int) % 8 == 0) = false := by simp; omega
          have hd3 : decide ((p : Int) % 8 = 0) = false := decide_eq_false (by omega)
          have HPX : Hid (Puts w wr g g' s s' (l ++ bitsOf n j) t (p / 8 - t + 1)) := by
            have hpc : pend p t = p / 8 - t + 1 := by unfold pend; omega
            rw [← hpc]
            exact HM
          go_wp2_with fail
          go_meet
          exact ⟨rfl, s', HPX⟩
      case rest =>
        obtain ⟨rfl, s2, HP⟩ := hcut
        obtain ⟨c, ec⟩ : ∃ c, p / 8 - t = c := ⟨_, rfl⟩
        rw [ec] at HP
        have hc8 : 8 * (t + c) + a = p := by omega
        obtain ⟨b2, cap, rfl, qb, fb, hcc⟩ := HP.out.last
        have hpl : p - 8 * (t + c) = a := by omega
        have HE := Lib.hid (numAt_end (l ++ bitsOf n j) (bitsOf M m) (8 * (t + c)) (by rw [HL.out]; omega) (by rw [HL.out, bitsOf_length]; omega))
        rw [HL.out, hpl, numOf_bitsOf] at HE
        have hBb := numAt_end_below (l ++ bitsOf n j) (8 * (t + c)) (by rw [HL.out]; omega) (by rw [HL.out]; omega)
        rw [HL.out, hpl] at hBb
        obtain ⟨Y, y, hY1, hY2, hY3, hY4, hY5, hR8⟩ := or_byte _ M a m hBb ha hm3 HMM.out
        have HR := Lib.hid HE.out
        obtain ⟨B, eB⟩ : ∃ B, numAt (l ++ bitsOf n j) (8 * (t + c)) 8 = B := ⟨_, rfl⟩
        rw [eB] at hBb hY5 hR8 HR qb
        obtain ⟨R, eR⟩ : ∃ R, B + 2 ^ a * (M % 2 ^ m) = R := ⟨_, rfl⟩
        rw [eR] at hY5 hR8 HR
        have hB8 : B ≤ 255 := by
          have := Nat.pow_le_pow_right (n := 2) (by decide) (show a ≤ 7 by omega)
          omega
        clear eB eR hBb HE
        have r0 := cell_of_block HP.out.obj 0
        have r1 := cell_of_block HP.out.line 0
        have r2 := cell_of_block HP.out.line 1
        have g2 := unfrozen_of_block HP.out.line 1
        rw [HL.out] at r2
        have hne : ¬ b2 = g' := fun e => HP.out.apart.2 (by rw [← e]; rfl)
        have hne2 : ¬ b2 = g := fun e => HP.out.apart.1 (by rw [← e]; rfl)
        obtain ⟨C, eC⟩ : ∃ C, c + 1 = C := ⟨_, rfl⟩
        have hrem : (p : Int) % 8 = (a : Int) := by omega
        have htm : (p : Int).tmod 8 = (a : Int) := by rw [Int.tmod_eq_emod_of_nonneg (by omega)]; exact hrem
        have hwa : IntKind.i64.wrap (a : Int) = (a : Int) := by rw [IntKind.wrap_i64]; omega
        have hsh := shr_nat M m
        have hM2 : M / 2 ^ m ≤ 4294967295 := Nat.le_trans (Nat.div_le_self _ _) hM32
        have HQ2 : Hid (n / 2 ^ (j + m) = M / 2 ^ m) := HQ
        obtain ⟨M2, eM2⟩ : ∃ M2, M / 2 ^ m = M2 := ⟨_, rfl⟩
        rw [eM2] at hsh hM2 HQ2
        have hpm : IntKind.i64.wrap ((p : Int) + (m : Int)) = (p : Int) + (m : Int) := by rw [IntKind.wrap_i64]; omega
        have hdm : IntKind.i64.wrap ((d : Int) - (m : Int)) = (d : Int) - (m : Int) := by rw [IntKind.wrap_i64]; omega
        have hlc : IntKind.i64.wrap ((C : Int) - 1) = (c : Int) := by rw [IntKind.wrap_i64]; omega
        have hc0 : (0 : Int) ≤ (c : Int) := by omega
        have hmin32 : min m 32 = m := by omega
        have hcC : (c : Int) < (C : Int) := by omega
        have HALL : Hid (j + m ≤ k ∧ (d : Int) - (m : Int) = ((k - (j + m) : Nat) : Int) ∧ (p : Int) + (m : Int) = ((p + m : Nat) : Int) ∧ pend (l.length + (j + m)) t = c + 1 ∧ (k - (j + m) < d)) := ⟨by omega, by omega, by omega, by unfold pend; omega, by omega⟩
        have HPM : Hid ((l ++ bitsOf n j ++ bitsOf M m).length = p + m) := by
          show _ = _
          rw [List.length_append, HL.out, bitsOf_length]
        have HC8 : Hid (8 * (t + c) ≤ (l ++ bitsOf n j).length) := by
          show _ ≤ _
          rw [HL.out]
          omega
        have ECC := Lib.hid eC
        rw [eC] at r1
        clear ec ep ea em ed eC hc8 hpl eM2 q0 q1 q2 f1 f2 htp hM32 hm3 ha hcc
        go_wp2_with fail
        refine wp_region_still_tail 31 (by kernel_rfl) (by kernel_rfl) ?_
        simp only [List.take_succ_cons, List.take_zero, List.drop_succ_cons, List.drop_zero]
        repeat still_step
        refine wpStill_nil ?_
        change wpList _ _ _ _ _ wc.drew
        go_wp2_with fail
        go_roundw
        case rel =>
          have hput := HP.out.put (X := bitsOf M m) (P' := (p : Int) + (m : Int)) HC8.out HR.out (by rw [HPM.out]; exact HALL.out.2.2.1)
          refine ⟨j + m, .slice (some ⟨b2, 0, none⟩) (c + 1) cap, HALL.out.1, by rw [HQ2.out], by rw [HALL.out.2.1], ?_⟩
          rw [HB.out, ← List.append_assoc, HALL.out.2.2.2.1]
          exact hput.drew
        case measure =>
          have h1 := HALL.out.2.1
          have h2 := HALL.out.2.2.2.2
          simp only [intOf]
          omega
    · have hd1 : decide ((0 : Int) < (d : Int)) = false := decide_eq_false (by omega)
      obtain rfl : j = k := by omega
      go_wp2_with fail
      go_ret
      have hM := HM.out
      refine ⟨_, rfl, ⟨g, g', s', ⟨rfl, hM.obj, hM.line, h3⟩, by rw [HL.out]; exact hM.row, hM.apart.1, hM.apart.2, by rw [HL.out]; omega, rfl⟩, ?_, ⟨hM.os, hM.tape, hM.output, hM.size, fun q hq hO => hM.old q hq (fun e => hO (.inr (.inl e))) (fun e => hO (.inr (.inr e)))⟩⟩
      rintro q (rfl | rfl | hq)
      · exact .inl (.inl rfl)
      · exact .inl (.inr (.inl rfl))
      · rcases hM.own q hq with h | h
        · exact .inl (.inr (.inr h))
        · exact .inr h
end Go.Proofs.Ytefdlidjdmlnaaa.Fx
