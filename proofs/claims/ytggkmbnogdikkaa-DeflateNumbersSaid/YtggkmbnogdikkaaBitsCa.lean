/-
  The small calls of package bits, as landed: what an object's memory looks like; places, copies, new ones. The conditions stand in each.
-/
import Derived.Lib.LazyBuf
import Derived.StillTailTactics
import Derived.Test.YtggkmbnogdikkaaBitsD
namespace Go.Proofs.Ytggkmbnogdikkaa.Fx
open Go Go.RowKit Go.Joins
set_option linter.unusedVariables false
/-- An object: its block, its line's block, the slice and the place that this holds. -/
structure Held (ty : TypeId) (w : World) (v : Value) (g g' : Nat) (s : Value) (p : Nat) : Prop where
  val : v = .pointer (some ⟨g, 0, none⟩)
  obj : w.heap[g]? = some (.cells #[.pointer (some ⟨g', 0, none⟩)] ty (0, 0))
  line : w.heap[g']? = some (.cells #[s, .int .i64 (p : Int)] 97 (0, 0))
  ne : g ≠ g'
/-- How many of its bytes a writer holds. -/
def pend (n t : Nat) : Nat := (n + 7) / 8 - t
def isW (w : World) (v : Value) (l : List Bool) (t : Nat) (O : Nat → Prop) : Prop :=
  ∃ g g' s, Held 99 w v g g' s l.length ∧ w.ownsRow 0 5 1 s (pend l.length t) ((bytesAt l t (pend l.length t)).map byteVal) ∧ s.ownBlock ≠ some g ∧ s.ownBlock ≠ some g' ∧ 8 * t ≤ l.length ∧ O = fun k => k = g ∨ k = g' ∨ s.ownBlock = some k
theorem Held.kept {ty : TypeId} {w w' : World} {v : Value} {g g' : Nat} {s : Value} {p : Nat} (h : Held ty w v g g' s p) (h0 : w'.heap[g]? = w.heap[g]?) (h1 : w'.heap[g']? = w.heap[g']?) : Held ty w' v g g' s p := ⟨h.val, h0.trans h.obj, h1.trans h.line, h.ne⟩
theorem Held.lt {ty : TypeId} {w : World} {v : Value} {g g' : Nat} {s : Value} {p : Nat} (h : Held ty w v g g' s p) : g < w.heap.size ∧ g' < w.heap.size := ⟨(Array.getElem?_eq_some_iff.1 h.obj).1, (Array.getElem?_eq_some_iff.1 h.line).1⟩
theorem isW_lt (w : World) (v : Value) (l : List Bool) (t : Nat) (O : Nat → Prop) (h : isW w v l t O) : ∀ k, O k → k < w.heap.size := by
  obtain ⟨g, g', s, hh, ho, _, _, _, rfl⟩ := h
  rintro k (rfl | rfl | hk)
  · exact hh.lt.1
  · exact hh.lt.2
  · exact (ho.lt k hk).2
theorem ownsRow_same {w w' : World} {base : Nat} {e : TypeId} {v : Value} {n : Nat} {xs : List Value} (h : w.ownsRow base e 1 v n xs) (hk : ∀ k, v.ownBlock = some k → w'.heap[k]? = w.heap[k]?) : w'.ownsRow base e 1 v n xs := by
  refine ⟨h.1, ?_⟩
  rcases h.2 with hn | ⟨g, cap, cur, rfl, hb, hg, rest⟩
  · exact .inl hn
  · exact .inr ⟨g, cap, cur, rfl, hb, (hk g rfl).trans hg, rest⟩
theorem isW_keep (w w' : World) (v : Value) (l : List Bool) (t : Nat) (O : Nat → Prop) (h : isW w v l t O) (hs : w.heap.size ≤ w'.heap.size) (hk : ∀ k, O k → w'.heap[k]? = w.heap[k]?) : isW w' v l t O := by
  obtain ⟨g, g', s, hh, ho, h1, h2, h3, rfl⟩ := h
  exact ⟨g, g', s, hh.kept (hk g (.inl rfl)) (hk g' (.inr (.inl rfl))), ownsRow_same ho (fun k h => hk k (.inr (.inr h))), h1, h2, h3, rfl⟩
theorem inBlock_lt {w : World} {s : Value} {zs : List Nat} (h : bytesIn w s zs) {b : Nat} (hb : inBlock s b) : b < w.heap.size := by
  obtain ⟨off, n, cap, rfl, hn⟩ := hb
  rcases h with ⟨⟨o, c', h, _⟩, _⟩ | ⟨b', off', cap', h, hlt, _⟩
  · simp only [Value.slice.injEq] at h
    omega
  · simp only [Value.slice.injEq, Option.some.injEq, Addr.mk.injEq] at h
    obtain ⟨⟨rfl, _⟩, _⟩ := h
    exact hlt
theorem i64_and7 (n : Int) : bits .and .i64 n 7 = n % 8 := by
  have h7 : (BitVec.ofInt 64 7).toNat = 2 ^ 3 - 1 := by decide
  have key : (BitVec.ofInt 64 n &&& BitVec.ofInt 64 7).toNat = (n % ((2 ^ 64 : Nat) : Int)).toNat % 2 ^ 3 := by
    rw [BitVec.toNat_and, BitVec.toNat_ofInt, h7, Nat.and_two_pow_sub_one_eq_mod]
  show IntKind.i64.wrap ((BitVec.ofInt 64 n &&& BitVec.ofInt 64 7).toNat : Nat) = n % 8
  rw [key, IntKind.wrap_i64]
  omega
theorem min_two (a b : Int) (w : World) : (Builtin.min_ #[3, 3] 3 #[.int .i64 a, .int .i64 b]).run Try.prog w = .ok (.int .i64 (min a b)) w := by
  have e : min a b = if b < a then b else a := by omega
  rw [e]
  simp [Builtin.min_, Builtin.min2]
theorem within_any (g' p k : Nat) (w : World) (hc : w.cell? ⟨g', 1, none⟩ = some (.int .i64 (p : Int))) (hp : p ≤ 8796093022208) (hk : k ≤ 32) :
    Calls Try.prog 69 #[.pointer (some ⟨g', 0, none⟩), .int .i64 (k : Int)] w fun e w' => e = .returned (.int .i64 ((min k (8 - p % 8) : Nat) : Int)) ∧ w = w' := by
  have hmin := fun w => min_two (k : Int) (8 - (p : Int) % 8) w
  have e : min (k : Int) (8 - (p : Int) % 8) = ((min k (8 - p % 8) : Nat) : Int) := by omega
  rw [e] at hmin
  clear e
  generalize min k (8 - p % 8) = m at *
  go_enter Try.func69, Try.ntmps69
  go_wp2
  go_ret
  first | exact ⟨rfl, rfl⟩ | simp
theorem toWhole_any (g' p : Nat) (w : World) (hc : w.cell? ⟨g', 1, none⟩ = some (.int .i64 (p : Int))) (hp : p ≤ 8796093022208) :
    Calls Try.prog 60 #[.pointer (some ⟨g', 0, none⟩)] w fun e w' => e = .returned (.int .i64 (((8 - p % 8) % 8 : Nat) : Int)) ∧ w = w' := by
  have ha := i64_and7 (-(p : Int))
  have e : (-(p : Int)) % 8 = (((8 - p % 8) % 8 : Nat) : Int) := by omega
  rw [e] at ha
  clear e
  generalize (8 - p % 8) % 8 = m at *
  go_enter Try.func60, Try.ntmps60
  go_wp2
  go_ret
  first | exact ⟨rfl, rfl⟩ | simp
set_option maxHeartbeats 1000000 in
theorem clone_any (s : Value) (zs : List Nat) (W : World) (hr : bytesIn W s zs) (hl : zs.length ≤ 140737488355328) :
    Calls Try.prog 55 #[s] W fun e w' => ∃ u, e = .returned u ∧ bytesIn w' u zs ∧ (∀ b, inBlock u b → W.heap.size ≤ b) ∧ Below W.heap.size W w' := by
  by_cases hn : s = .slice none 0 0
  · subst hn
    have hz : zs = [] := by
      rcases hr with ⟨_, rfl⟩ | ⟨b, off, cap, h, _⟩
      · rfl
      · cases h
    subst hz
    have hnil := fun w => run_eql_slice_nil (P := Try.prog) w 25 5 none 0 0 Try.underlying25
    go_enter Try.func55, Try.ntmps55
    go_wp2_with fail
    go_ret
    exact ⟨_, rfl, listed_none _ _, fun b hb => (by obtain ⟨off, n, cap, h, _⟩ := hb; cases h), Below.refl _ _⟩
  · obtain ⟨a, cap, rfl⟩ : ∃ a cap, s = .slice (some a) zs.length cap := by
      rcases hr with ⟨⟨o, cap, rfl, ho⟩, rfl⟩ | ⟨b, off, cap, rfl, _⟩
      · cases o with
        | none =>
          obtain rfl := ho rfl
          exact absurd rfl hn
        | some a => exact ⟨a, cap, rfl⟩
      · exact ⟨_, cap, rfl⟩
    clear hn
    have HR := Lib.hid hr
    have HL := Lib.hid hl
    obtain ⟨n, en⟩ : ∃ n, zs.length = n := ⟨_, rfl⟩
    have EN := Lib.hid en
    rw [en] at HR ⊢
    clear hr hl en
    have hnil := fun w => run_eql_slice_nil (P := Try.prog) w 25 5 (some a) n cap Try.underlying25
    go_enter Try.func55, Try.ntmps55
    go_wp2_with (at_builtin; refine wpList_append_listed (c := byteVal) rfl _ _ 25 rfl W.heap.size 5 (.int .u8 0) Try.underlying25 info8 rfl (fun _ => rfl) _ 0 [] rfl (World.ownsRow_made W #[] 0 (Nat.le_refl _) (by decide) rfl) _ zs rfl (listed_on HR.out ((Below.refl _ _).alloc (Nat.le_refl _) _)) (by have := HL.out; omega) (by simp) ?_)
    intro v' w' hown hgrow
    have hb := ((Below.refl W.heap.size W).alloc (Nat.le_refl _) (.cells #[] 5)).grown hgrow (by simp) (fun q hq => by simp [Value.ownBlock] at hq; omega)
    have hown : w'.ownsRow W.heap.size 5 1 v' zs.length (zs.map byteVal) := by first | exact hown | (rw [Nat.zero_add, List.nil_append] at hown; exact hown)
    go_wp2_with fail
    go_ret
    exact ⟨_, rfl, own_listed hown, fun b hb => own_fresh hown b hb, hb⟩
theorem two_new (W : World) (s p x : Value) (ty : TypeId) : ((W.alloc (.cells #[s, p] 97)).alloc (.cells #[x] ty)).heap[W.heap.size + 1]? = some (.cells #[x] ty (0, 0)) ∧ ((W.alloc (.cells #[s, p] 97)).alloc (.cells #[x] ty)).heap[W.heap.size]? = some (.cells #[s, p] 97 (0, 0)) ∧ Below W.heap.size W ((W.alloc (.cells #[s, p] 97)).alloc (.cells #[x] ty)) := by
  have hs0 : (W.alloc (.cells #[s, p] 97)).heap.size = W.heap.size + 1 := by
    show (W.heap.push _).size = _
    simp
  refine ⟨?_, alloc_old (heap_alloc_new W _), ((Below.refl _ _).alloc (Nat.le_refl _) _).alloc (by rw [hs0]; omega) _⟩
  rw [← hs0]
  exact heap_alloc_new _ _
theorem wnew_any (w : World) : Calls Try.prog 30 #[] w fun e w' => ∃ v O, e = .returned v ∧ isW w' v [] 0 O ∧ (∀ k, O k → w.heap.size ≤ k) ∧ Below w.heap.size w w' := by
  go_enter Try.func30, Try.ntmps30
  go_wp2_with fail
  go_ret
  obtain ⟨h1, h2, h3⟩ := two_new w (.slice none 0 0) (.int .i64 0) (.pointer (some ⟨w.heap.size, 0, none⟩)) 99
  refine ⟨_, _, rfl, ⟨w.heap.size + 1, w.heap.size, .slice none 0 0, ⟨by simp, h1, h2, by omega⟩, World.ownsRow_nil _ _ _ _, by simp [Value.ownBlock], by simp [Value.ownBlock], Nat.le_refl _, rfl⟩, ?_, h3⟩
  rintro k (rfl | rfl | hk)
  · omega
  · omega
  · simp [Value.ownBlock] at hk
theorem bits_code (w : World) (v : Value) (l : List Bool) (t : Nat) (O : Nat → Prop) (h : isW w v l t O) : Calls Try.prog 70 #[v] w fun e w' => ∃ O', e = .returned (.int .i64 (l.length : Int)) ∧ isW w' v l t O' ∧ (∀ b, O' b → O b ∨ w.heap.size ≤ b) ∧ Past O w w' := by
  have H := Lib.hid h
  obtain ⟨g, g', s, hh, _⟩ := h
  obtain ⟨rfl, h1, h2, h3⟩ := hh
  have q0 := cell_of_block h1 0
  have q1 := cell_of_block h2 1
  clear h1 h2 h3
  generalize l.length = n at *
  go_enter Try.func70, Try.ntmps70
  go_wp2_with fail
  go_ret
  exact ⟨O, rfl, H.out, fun b hb => .inl hb, Past.refl _ _⟩
end Go.Proofs.Ytggkmbnogdikkaa.Fx
