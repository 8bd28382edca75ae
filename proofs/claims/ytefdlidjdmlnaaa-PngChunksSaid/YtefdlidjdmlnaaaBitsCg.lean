/-
  The small calls of package bits, as landed: what an object's memory looks like; places, copies, new ones. The conditions stand in each.
  Reader's Get, as landed. The conditions stand in each.
-/
import Derived.Lib.LazyBuf
import Derived.StillTailTactics
import Derived.Test.YtefdlidjdmlnaaaBitsO
namespace Go.Proofs.Ytefdlidjdmlnaaa.Fx
open Go Go.RowKit Go.Joins
set_option linter.unusedVariables false
/-- An object: its block, its line's block, the slice and the place that this holds. -/
structure Held (ty : TypeId) (w : World) (v : Value) (g g' : Nat) (s : Value) (p : Nat) : Prop where
  val : v = .pointer (some ⟨g, 0, none⟩)
  obj : w.heap[g]? = some (.cells #[.pointer (some ⟨g', 0, none⟩)] ty (0, 0))
  line : w.heap[g']? = some (.cells #[s, .int .i64 (p : Int)] 120 (0, 0))
  ne : g ≠ g'
/-- How many of its bytes a writer holds. -/
def pend (n t : Nat) : Nat := (n + 7) / 8 - t
def isW (w : World) (v : Value) (l : List Bool) (t : Nat) (O : Nat → Prop) : Prop :=
  ∃ g g' s, Held 122 w v g g' s l.length ∧ w.ownsRow 0 5 1 s (pend l.length t) ((bytesAt l t (pend l.length t)).map byteVal) ∧ s.ownBlock ≠ some g ∧ s.ownBlock ≠ some g' ∧ 8 * t ≤ l.length ∧ O = fun k => k = g ∨ k = g' ∨ s.ownBlock = some k
theorem Held.kept {ty : TypeId} {w w' : World} {v : Value} {g g' : Nat} {s : Value} {p : Nat} (h : Held ty w v g g' s p) (h0 : w'.heap[g]? = w.heap[g]?) (h1 : w'.heap[g']? = w.heap[g']?) : Held ty w' v g g' s p := ⟨h.val, h0.trans h.obj, h1.trans h.line, h.ne⟩
theorem Held.lt {ty : TypeId} {w : World} {v : Value} {g g' : Nat} {s : Value} {p : Nat} (h : Held ty w v g g' s p) : g < w.heap.size ∧ g' < w.heap.size := ⟨(Array.getElem?_eq_some_iff.1 h.obj).1, (Array.getElem?_eq_some_iff.1 h.line).1⟩
theorem isW_lt (w : World) (v : Value) (l : List Bool) (t : Nat) (O : Nat → Prop) (h : isW w v l t O) : ∀ k, O k → k < w.heap.size := by
  obtain ⟨g, g', s, hh, ho, _, _, _, rfl⟩ := h
  rintro k (rfl | rfl | hk)
  · exact hh.lt.1
  · exact hh.lt.2
  · exact (ho.lt k hk).2
theorem ownsRow_same {w w' : World} {base : Nat} {e : TypeId} {v : Value} {n : Nat} {xs : List Value} (h : w.ownsRow base e 1 v n xs) (hk : ∀ k, v.ownBlock = some k → w'.heap[k]? = w.heap[k]?) : w'.ownsRow base e 1 v n xs := by
  refine ⟨h.1, ?_⟩
  rcases h.2 with hn | ⟨g, cap, cur, rfl, hb, hg, rest⟩
  · exact .inl hn
  · exact .inr ⟨g, cap, cur, rfl, hb, (hk g rfl).trans hg, rest⟩
theorem isW_keep (w w' : World) (v : Value) (l : List Bool) (t : Nat) (O : Nat → Prop) (h : isW w v l t O) (hs : w.heap.size ≤ w'.heap.size) (hk : ∀ k, O k → w'.heap[k]? = w.heap[k]?) : isW w' v l t O := by
  obtain ⟨g, g', s, hh, ho, h1, h2, h3, rfl⟩ := h
  exact ⟨g, g', s, hh.kept (hk g (.inl rfl)) (hk g' (.inr (.inl rfl))), ownsRow_same ho (fun k h => hk k (.inr (.inr h))), h1, h2, h3, rfl⟩
theorem inBlock_lt {w : World} {s : Value} {zs : List Nat} (h : bytesIn w s zs) {b : Nat} (hb : inBlock s b) : b < w.heap.size := by
  obtain ⟨off, n, cap, rfl, hn⟩ := hb
  rcases h with ⟨⟨o, c', h, _⟩, _⟩ | ⟨b', off', cap', h, hlt, _⟩
  · simp only [Value.slice.injEq] at h
    omega
  · simp only [Value.slice.injEq, Option.some.injEq, Addr.mk.injEq] at h
    obtain ⟨⟨rfl, _⟩, _⟩ := h
    exact hlt
theorem i64_and7 (n : Int) : bits .and .i64 n 7 = n % 8 := by
  have h7 : (BitVec.ofInt 64 7).toNat = 2 ^ 3 - 1 := by decide
  have key : (BitVec.ofInt 64 n &&& BitVec.ofInt 64 7).toNat = (n % ((2 ^ 64 : Nat) : Int)).toNat % 2 ^ 3 := by
    rw [BitVec.toNat_and, BitVec.toNat_ofInt, h7, Nat.and_two_pow_sub_one_eq_mod]
  show IntKind.i64.wrap ((BitVec.ofInt 64 n &&& BitVec.ofInt 64 7).toNat : Nat) = n % 8
  rw [key, IntKind.wrap_i64]
  omega
theorem min_two (a b : Int) (w : World) : (Builtin.min_ #[3, 3] 3 #[.int .i64 a, .int .i64 b]).run Try.prog w = .ok (.int .i64 (min a b)) w := by
  have e : min a b = if b < a then b else a := by omega
  rw [e]
  simp [Builtin.min_, Builtin.min2]
theorem within_any (g' p k : Nat) (w : World) (hc : w.cell? ⟨g', 1, none⟩ = some (.int .i64 (p : Int))) (hp : p ≤ 8796093022208) (hk : k ≤ 32) :
    Calls Try.prog 88 #[.pointer (some ⟨g', 0, none⟩), .int .i64 (k : Int)] w fun e w' => e = .returned (.int .i64 ((min k (8 - p % 8) : Nat) : Int)) ∧ w = w' := by
  have hmin := fun w => min_two (k : Int) (8 - (p : Int) % 8) w
  have e : min (k : Int) (8 - (p : Int) % 8) = ((min k (8 - p % 8) : Nat) : Int) := by omega
  rw [e] at hmin
  clear e
  generalize min k (8 - p % 8) = m at *
  go_enter Try.func88, Try.ntmps88
  go_wp2
  go_ret
  first | exact ⟨rfl, rfl⟩ | simp
theorem toWhole_any (g' p : Nat) (w : World) (hc : w.cell? ⟨g', 1, none⟩ = some (.int .i64 (p : Int))) (hp : p ≤ 8796093022208) :
    Calls Try.prog 76 #[.pointer (some ⟨g', 0, none⟩)] w fun e w' => e = .returned (.int .i64 (((8 - p % 8) % 8 : Nat) : Int)) ∧ w = w' := by
  have ha := i64_and7 (-(p : Int))
  have e : (-(p : Int)) % 8 = (((8 - p % 8) % 8 : Nat) : Int) := by omega
  rw [e] at ha
  clear e
  generalize (8 - p % 8) % 8 = m at *
  go_enter Try.func76, Try.ntmps76
  go_wp2
  go_ret
  first | exact ⟨rfl, rfl⟩ | simp
set_option maxHeartbeats 1000000 in
theorem clone_any (s : Value) (zs : List Nat) (W : World) (hr : bytesIn W s zs) (hl : zs.length ≤ 140737488355328) :
    Calls Try.prog 75 #[s] W fun e w' => ∃ u, e = .returned u ∧ bytesIn w' u zs ∧ (∀ b, inBlock u b → W.heap.size ≤ b) ∧ Below W.heap.size W w' := by
  by_cases hn : s = .slice none 0 0
  · subst hn
    have hz : zs = [] := by
      rcases hr with ⟨_, rfl⟩ | ⟨b, off, cap, h, _⟩
      · rfl
      · cases h
    subst hz
    have hnil := fun w => run_eql_slice_nil (P := Try.prog) w 36 5 none 0 0 Try.underlying36
    go_enter Try.func75, Try.ntmps75
    go_wp2_with fail
    go_ret
    exact ⟨_, rfl, listed_none _ _, fun b hb => (by obtain ⟨off, n, cap, h, _⟩ := hb; cases h), Below.refl _ _⟩
  · obtain ⟨a, cap, rfl⟩ : ∃ a cap, s = .slice (some a) zs.length cap := by
      rcases hr with ⟨⟨o, cap, rfl, ho⟩, rfl⟩ | ⟨b, off, cap, rfl, _⟩
      · cases o with
        | none =>
          obtain rfl := ho rfl
          exact absurd rfl hn
        | some a => exact ⟨a, cap, rfl⟩
      · exact ⟨_, cap, rfl⟩
    clear hn
    have HR := Lib.hid hr
    have HL := Lib.hid hl
    obtain ⟨n, en⟩ : ∃ n, zs.length = n := ⟨_, rfl⟩
    have EN := Lib.hid en
    rw [en] at HR ⊢
    clear hr hl en
    have hnil := fun w => run_eql_slice_nil (P := Try.prog) w 36 5 (some a) n cap Try.underlying36
    go_enter Try.func75, Try.ntmps75
    go_wp2_with (at_builtin; refine wpList_append_listed (c := byteVal) rfl _ _ 36 rfl W.heap.size 5 (.int .u8 0) Try.underlying36 info8 rfl (fun _ => rfl) _ 0 [] rfl (World.ownsRow_made W #[] 0 (Nat.le_refl _) (by decide) rfl) _ zs rfl (listed_on HR.out ((Below.refl _ _).alloc (Nat.le_refl _) _)) (by have := HL.out; omega) (by simp) ?_)
    intro v' w' hown hgrow
    have hb := ((Below.refl W.heap.size W).alloc (Nat.le_refl _) (.cells #[] 5)).grown hgrow (by simp) (fun q hq => by simp [Value.ownBlock] at hq; omega)
    have hown : w'.ownsRow W.heap.size 5 1 v' zs.length (zs.map byteVal) := by first | exact hown | (rw [Nat.zero_add, List.nil_append] at hown; exact hown)
    go_wp2_with fail
    go_ret
    exact ⟨_, rfl, own_listed hown, fun b hb => own_fresh hown b hb, hb⟩
theorem two_new (W : World) (s p x : Value) (ty : TypeId) : ((W.alloc (.cells #[s, p] 120)).alloc (.cells #[x] ty)).heap[W.heap.size + 1]? = some (.cells #[x] ty (0, 0)) ∧ ((W.alloc (.cells #[s, p] 120)).alloc (.cells #[x] ty)).heap[W.heap.size]? = some (.cells #[s, p] 120 (0, 0)) ∧ Below W.heap.size W ((W.alloc (.cells #[s, p] 120)).alloc (.cells #[x] ty)) := by
  have hs0 : (W.alloc (.cells #[s, p] 120)).heap.size = W.heap.size + 1 := by
    show (W.heap.push _).size = _
    simp
  refine ⟨?_, alloc_old (heap_alloc_new W _), ((Below.refl _ _).alloc (Nat.le_refl _) _).alloc (by rw [hs0]; omega) _⟩
  rw [← hs0]
  exact heap_alloc_new _ _
theorem wnew_any (w : World) : Calls Try.prog 52 #[] w fun e w' => ∃ v O, e = .returned v ∧ isW w' v [] 0 O ∧ (∀ k, O k → w.heap.size ≤ k) ∧ Below w.heap.size w w' := by
  go_enter Try.func52, Try.ntmps52
  go_wp2_with fail
  go_ret
  obtain ⟨h1, h2, h3⟩ := two_new w (.slice none 0 0) (.int .i64 0) (.pointer (some ⟨w.heap.size, 0, none⟩)) 122
  refine ⟨_, _, rfl, ⟨w.heap.size + 1, w.heap.size, .slice none 0 0, ⟨by simp, h1, h2, by omega⟩, World.ownsRow_nil _ _ _ _, by simp [Value.ownBlock], by simp [Value.ownBlock], Nat.le_refl _, rfl⟩, ?_, h3⟩
  rintro k (rfl | rfl | hk)
  · omega
  · omega
  · simp [Value.ownBlock] at hk
theorem bits_code (w : World) (v : Value) (l : List Bool) (t : Nat) (O : Nat → Prop) (h : isW w v l t O) : Calls Try.prog 89 #[v] w fun e w' => ∃ O', e = .returned (.int .i64 (l.length : Int)) ∧ isW w' v l t O' ∧ (∀ b, O' b → O b ∨ w.heap.size ≤ b) ∧ Past O w w' := by
  have H := Lib.hid h
  obtain ⟨g, g', s, hh, _⟩ := h
  obtain ⟨rfl, h1, h2, h3⟩ := hh
  have q0 := cell_of_block h1 0
  have q1 := cell_of_block h2 1
  clear h1 h2 h3
  generalize l.length = n at *
  go_enter Try.func89, Try.ntmps89
  go_wp2_with fail
  go_ret
  exact ⟨O, rfl, H.out, fun b hb => .inl hb, Past.refl _ _⟩
end Go.Proofs.Ytefdlidjdmlnaaa.Fx
namespace Go.Proofs.Ytefdlidjdmlnaaa.Fx
open Go Go.RowKit Go.Joins
set_option linter.unusedVariables false
theorem numAt_add (l : List Bool) (t j m : Nat) (h : t + j ≤ l.length) : numAt l t (j + m) = numAt l t j + 2 ^ j * numAt l (t + j) m := by
  unfold numAt
  rw [List.take_add, numOf_append, List.length_take, List.length_drop, Nat.min_eq_left (by omega), List.drop_drop]
theorem bitsOf_take (n k j : Nat) (h : j ≤ k) : (bitsOf n k).take j = bitsOf n j := by
  obtain ⟨d, rfl⟩ : ∃ d, k = j + d := ⟨k - j, by omega⟩
  rw [bitsOf_add, List.take_left' (bitsOf_length n j)]
theorem bitsOf_drop (n k j : Nat) (h : j ≤ k) : (bitsOf n k).drop j = bitsOf (n / 2 ^ j) (k - j) := by
  obtain ⟨d, rfl⟩ : ∃ d, k = j + d := ⟨k - j, by omega⟩
  rw [bitsOf_add, List.drop_left' (bitsOf_length n j), Nat.add_sub_cancel_left]
theorem bitsOfBytes_drop (zs : List Nat) (q : Nat) : (bitsOfBytes zs).drop (8 * q) = bitsOfBytes (zs.drop q) := by
  induction q generalizing zs with
  | zero => simp
  | succ q ih =>
    cases zs with
    | nil => simp [bitsOfBytes]
    | cons z zs =>
      have e : bitsOfBytes (z :: zs) = bitsOf z 8 ++ bitsOfBytes zs := by
        unfold bitsOfBytes
        rw [List.flatMap_cons]
      rw [e, show 8 * (q + 1) = 8 + 8 * q by omega, ← List.drop_drop, List.drop_left' (bitsOf_length z 8), ih, List.drop_succ_cons]
theorem numAt_byte (zs : List Nat) (q a m z : Nat) (hz : zs[q]? = some z) (ha : a + m ≤ 8) : numAt (bitsOfBytes zs) (8 * q + a) m = z / 2 ^ a % 2 ^ m := by
  have hq : q < zs.length := (List.getElem?_eq_some_iff.mp hz).1
  have he : zs[q] = z := (List.getElem?_eq_some_iff.mp hz).2
  have e : bitsOfBytes (zs.drop q) = bitsOf z 8 ++ bitsOfBytes (zs.drop (q + 1)) := by
    rw [List.drop_eq_getElem_cons hq, he]
    unfold bitsOfBytes
    rw [List.flatMap_cons]
  unfold numAt
  rw [← List.drop_drop, bitsOfBytes_drop, e, List.drop_append_of_le_length (by rw [bitsOf_length]; omega), bitsOf_drop _ _ _ (by omega), List.take_append_of_le_length (by rw [bitsOf_length]; omega), bitsOf_take _ _ _ (by omega), numOf_bitsOf]
theorem pow8 (m : Nat) (h : m ≤ 8) : 2 ^ m ≤ 256 := by
  have := Nat.pow_le_pow_right (n := 2) (by decide) h
  omega
theorem pow_int (m : Nat) : (2 : Int) ^ m = ((2 ^ m : Nat) : Int) := by
  rw [Int.natCast_pow]
  rfl
theorem mask8 (m : Nat) (h1 : 0 < m) (h : m ≤ 8) : ∃ b : Nat, IntKind.u8.wrap ((2 : Int) ^ m) = (b : Int) ∧ b < 256 ∧ IntKind.u8.wrap ((b : Int) - 1) = ((2 ^ m - 1 : Nat) : Int) := by
  have : m = 1 ∨ m = 2 ∨ m = 3 ∨ m = 4 ∨ m = 5 ∨ m = 6 ∨ m = 7 ∨ m = 8 := by omega
  rcases this with rfl | rfl | rfl | rfl | rfl | rfl | rfl | rfl
  · exact ⟨2, by decide, by decide, by decide⟩
  · exact ⟨4, by decide, by decide, by decide⟩
  · exact ⟨8, by decide, by decide, by decide⟩
  · exact ⟨16, by decide, by decide, by decide⟩
  · exact ⟨32, by decide, by decide, by decide⟩
  · exact ⟨64, by decide, by decide, by decide⟩
  · exact ⟨128, by decide, by decide, by decide⟩
  · exact ⟨0, by decide, by decide, by decide⟩
theorem shr_nat (z a : Nat) : (z : Int) / (2 : Int) ^ a = ((z / 2 ^ a : Nat) : Int) := by
  rw [pow_int, Int.natCast_ediv]
theorem and_mask8 (y m : Nat) (hy : y < 256) (hm : m ≤ 8) : bits .and .u8 (y : Int) ((2 ^ m - 1 : Nat) : Int) = ((y % 2 ^ m : Nat) : Int) := by
  have := pow8 m hm
  rw [u8_and_nat y _ hy (by omega), Nat.and_two_pow_sub_one_eq_mod]
/-- Lower bits and higher ones: joined by 'or'. -/
theorem or_join32 (n x j k : Nat) (hn : n < 2 ^ j) (hx : x < 2 ^ (k - j)) (hj : j ≤ k) (hk : k ≤ 32) : ∃ X : Nat, IntKind.u32.wrap ((x : Int) * (2 : Int) ^ j) = (X : Int) ∧ X ≤ 4294967295 ∧ bits .or .u32 (n : Int) (X : Int) = ((n + 2 ^ j * x : Nat) : Int) := by
  have e : 2 ^ k = 2 ^ j * 2 ^ (k - j) := by rw [← Nat.pow_add]; congr 1; omega
  have h1 : 2 ^ j * x + 2 ^ j ≤ 2 ^ k := by
    rw [e, ← Nat.mul_succ]
    exact Nat.mul_le_mul_left _ hx
  have h2 := pow_le k hk
  have h3 : 0 < 2 ^ j := Nat.pow_pos (by decide)
  refine ⟨2 ^ j * x, ?_, by omega, ?_⟩
  · rw [pow_int, IntKind.wrap_u32']
    have : (x : Int) * ((2 ^ j : Nat) : Int) = ((2 ^ j * x : Nat) : Int) := by rw [← Int.natCast_mul, Nat.mul_comm]
    rw [this]
    omega
  · rw [u32_or_nat n _ (by omega) (by omega), Nat.or_comm, nat_join j _ _ (Nat.mul_mod_right _ _) hn, Nat.add_comm]
/-- A world in which the line's place alone is another one. -/
structure Moved (w wr : World) (g' : Nat) (s : Value) (p : Nat) : Prop where
  os : wr.os = w.os
  tape : wr.tape = w.tape
  output : wr.output = w.output
  size : wr.heap.size = w.heap.size
  same : ∀ k, k ≠ g' → wr.heap[k]? = w.heap[k]?
  line : wr.heap[g']? = some (.cells #[s, .int .i64 (p : Int)] 120 (0, 0))
theorem Moved.past {w wr : World} {g' : Nat} {s : Value} {p : Nat} {O : Nat → Prop} (h : Moved w wr g' s p) (hO : O g') : Past O w wr := ⟨h.os, h.tape, h.output, Nat.le_of_eq h.size.symm, fun k _ hk => h.same k (fun e => hk (e ▸ hO))⟩
theorem Moved.start {w : World} {g' : Nat} {s : Value} {p : Nat} (h : w.heap[g']? = some (.cells #[s, .int .i64 (p : Int)] 120 (0, 0))) : Moved w w g' s p := ⟨rfl, rfl, rfl, rfl, fun _ _ => rfl, h⟩
theorem Moved.on {w wr : World} {g' : Nat} {s : Value} {p p' : Nat} (h : Moved w wr g' s p) : Moved w (wr.setCell ⟨g', 1, none⟩ (.int .i64 (p' : Int))) g' s p' := ⟨h.os, h.tape, h.output, by simpa using h.size, fun k hk => (Below.heap_setCell _ _ _ k hk).trans (h.same k hk), block_setCell h.line _⟩
theorem Moved.drew {w wr : World} {g' : Nat} {s : Value} {p : Nat} (h : Moved w wr g' s p) : Moved w wr.drew g' s p := ⟨h.os, h.tape, h.output, h.size, h.same, h.line⟩
end Go.Proofs.Ytefdlidjdmlnaaa.Fx
