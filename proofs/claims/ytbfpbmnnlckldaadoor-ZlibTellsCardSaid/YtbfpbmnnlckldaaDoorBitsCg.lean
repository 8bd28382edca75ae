/-
  The small calls of package bits, as landed: what an object's memory looks like; places, copies, new ones. The conditions stand in each.
  Reader's Get, as landed. The conditions stand in each.
-/
import Derived.Lib.LazyBuf
import Derived.StillTailTactics
import Derived.Test.YtbfpbmnnlckldaaDoorBitsO
namespace Go.Proofs.YtbfpbmnnlckldaaDoor.Fx
open Go Go.RowKit Go.Joins
set_option linter.unusedVariables false
/-- An object: its block, its line's block, the slice and the place that this holds. -/
structure Held (ty : TypeId) (w : World) (v : Value) (g g' : Nat) (s : Value) (p : Nat) : Prop where
  val : v = .pointer (some ⟨g, 0, none⟩)
  obj : w.heap[g]? = some (.cells #[.pointer (some ⟨g', 0, none⟩)] ty (0, 0))
  line : w.heap[g']? = some (.cells #[s, .int .i64 (p : Int)] 107 (0, 0))
  ne : g ≠ g'
/-- How many of its bytes a writer holds. -/
def pend (n t : Nat) : Nat := (n + 7) / 8 - t
def isW (w : World) (v : Value) (l : List Bool) (t : Nat) (O : Nat → Prop) : Prop :=
  ∃ g g' s, Held 109 w v g g' s l.length ∧ w.ownsRow 0 5 1 s (pend l.length t) ((bytesAt l t (pend l.length t)).map byteVal) ∧ s.ownBlock ≠ some g ∧ s.ownBlock ≠ some g' ∧ 8 * t ≤ l.length ∧ O = fun k => k = g ∨ k = g' ∨ s.ownBlock = some k
def isR (w : World) (v : Value) (l : List Bool) (t : Nat) (O : Nat → Prop) : Prop :=
  ∃ g g' s zs, Held 126 w v g g' s t ∧ bytesIn w s zs ∧ (∀ x ∈ zs, x < 256) ∧ l = bitsOfBytes zs ∧ (∀ b, inBlock s b → b ≠ g ∧ b ≠ g') ∧ t ≤ l.length ∧ O = fun k => k = g ∨ k = g' ∨ inBlock s k
theorem Held.kept {ty : TypeId} {w w' : World} {v : Value} {g g' : Nat} {s : Value} {p : Nat} (h : Held ty w v g g' s p) (h0 : w'.heap[g]? = w.heap[g]?) (h1 : w'.heap[g']? = w.heap[g']?) : Held ty w' v g g' s p := ⟨h.val, h0.trans h.obj, h1.trans h.line, h.ne⟩
theorem Held.lt {ty : TypeId} {w : World} {v : Value} {g g' : Nat} {s : Value} {p : Nat} (h : Held ty w v g g' s p) : g < w.heap.size ∧ g' < w.heap.size := ⟨(Array.getElem?_eq_some_iff.1 h.obj).1, (Array.getElem?_eq_some_iff.1 h.line).1⟩
theorem isW_lt (w : World) (v : Value) (l : List Bool) (t : Nat) (O : Nat → Prop) (h : isW w v l t O) : ∀ k, O k → k < w.heap.size := by
  obtain ⟨g, g', s, hh, ho, _, _, _, rfl⟩ := h
  rintro k (rfl | rfl | hk)
  · exact hh.lt.1
  · exact hh.lt.2
  · exact (ho.lt k hk).2
theorem ownsRow_same {w w' : World} {base : Nat} {e : TypeId} {v : Value} {n : Nat} {xs : List Value} (h : w.ownsRow base e 1 v n xs) (hk : ∀ k, v.ownBlock = some k → w'.heap[k]? = w.heap[k]?) : w'.ownsRow base e 1 v n xs := by
  refine ⟨h.1, ?_⟩
  rcases h.2 with hn | ⟨g, cap, cur, rfl, hb, hg, rest⟩
  · exact .inl hn
  · exact .inr ⟨g, cap, cur, rfl, hb, (hk g rfl).trans hg, rest⟩
theorem isW_keep (w w' : World) (v : Value) (l : List Bool) (t : Nat) (O : Nat → Prop) (h : isW w v l t O) (hs : w.heap.size ≤ w'.heap.size) (hk : ∀ k, O k → w'.heap[k]? = w.heap[k]?) : isW w' v l t O := by
  obtain ⟨g, g', s, hh, ho, h1, h2, h3, rfl⟩ := h
  exact ⟨g, g', s, hh.kept (hk g (.inl rfl)) (hk g' (.inr (.inl rfl))), ownsRow_same ho (fun k h => hk k (.inr (.inr h))), h1, h2, h3, rfl⟩
theorem inBlock_lt {w : World} {s : Value} {zs : List Nat} (h : bytesIn w s zs) {b : Nat} (hb : inBlock s b) : b < w.heap.size := by
  obtain ⟨off, n, cap, rfl, hn⟩ := hb
  rcases h with ⟨⟨o, c', h, _⟩, _⟩ | ⟨b', off', cap', h, hlt, _⟩
  · simp only [Value.slice.injEq] at h
    omega
  · simp only [Value.slice.injEq, Option.some.injEq, Addr.mk.injEq] at h
    obtain ⟨⟨rfl, _⟩, _⟩ := h
    exact hlt
theorem isR_lt (w : World) (v : Value) (l : List Bool) (t : Nat) (O : Nat → Prop) (h : isR w v l t O) : ∀ k, O k → k < w.heap.size := by
  obtain ⟨g, g', s, zs, hh, ho, _, _, _, _, rfl⟩ := h
  rintro k (rfl | rfl | hk)
  · exact hh.lt.1
  · exact hh.lt.2
  · exact inBlock_lt ho hk
theorem isR_keep (w w' : World) (v : Value) (l : List Bool) (t : Nat) (O : Nat → Prop) (h : isR w v l t O) (hs : w.heap.size ≤ w'.heap.size) (hk : ∀ k, O k → w'.heap[k]? = w.heap[k]?) : isR w' v l t O := by
  obtain ⟨g, g', s, zs, hh, ho, h1, h2, h3, h4, rfl⟩ := h
  exact ⟨g, g', s, zs, hh.kept (hk g (.inl rfl)) (hk g' (.inr (.inl rfl))), listed_kept ho hs (fun b hb => hk b (.inr (.inr hb))), h1, h2, h3, h4, rfl⟩
theorem i64_and7 (n : Int) : bits .and .i64 n 7 = n % 8 := by
  have h7 : (BitVec.ofInt 64 7).toNat = 2 ^ 3 - 1 := by decide
  have key : (BitVec.ofInt 64 n &&& BitVec.ofInt 64 7).toNat = (n % ((2 ^ 64 : Nat) : Int)).toNat % 2 ^ 3 := by
    rw [BitVec.toNat_and, BitVec.toNat_ofInt, h7, Nat.and_two_pow_sub_one_eq_mod]
  show IntKind.i64.wrap ((BitVec.ofInt 64 n &&& BitVec.ofInt 64 7).toNat : Nat) = n % 8
  rw [key, IntKind.wrap_i64]
  omega
theorem min_two (a b : Int) (w : World) : (Builtin.min_ #[3, 3] 3 #[.int .i64 a, .int .i64 b]).run Tryd.prog w = .ok (.int .i64 (min a b)) w := by
  have e : min a b = if b < a then b else a := by omega
  rw [e]
  simp [Builtin.min_, Builtin.min2]
theorem within_any (g' p k : Nat) (w : World) (hc : w.cell? ⟨g', 1, none⟩ = some (.int .i64 (p : Int))) (hp : p ≤ 8796093022208) (hk : k ≤ 32) :
    Calls Tryd.prog 76 #[.pointer (some ⟨g', 0, none⟩), .int .i64 (k : Int)] w fun e w' => e = .returned (.int .i64 ((min k (8 - p % 8) : Nat) : Int)) ∧ w = w' := by
  have hmin := fun w => min_two (k : Int) (8 - (p : Int) % 8) w
  have e : min (k : Int) (8 - (p : Int) % 8) = ((min k (8 - p % 8) : Nat) : Int) := by omega
  rw [e] at hmin
  clear e
  generalize min k (8 - p % 8) = m at *
  go_enter Tryd.func76, Tryd.ntmps76
  go_wp2
  go_ret
  first | exact ⟨rfl, rfl⟩ | simp
theorem toWhole_any (g' p : Nat) (w : World) (hc : w.cell? ⟨g', 1, none⟩ = some (.int .i64 (p : Int))) (hp : p ≤ 8796093022208) :
    Calls Tryd.prog 62 #[.pointer (some ⟨g', 0, none⟩)] w fun e w' => e = .returned (.int .i64 (((8 - p % 8) % 8 : Nat) : Int)) ∧ w = w' := by
  have ha := i64_and7 (-(p : Int))
  have e : (-(p : Int)) % 8 = (((8 - p % 8) % 8 : Nat) : Int) := by omega
  rw [e] at ha
  clear e
  generalize (8 - p % 8) % 8 = m at *
  go_enter Tryd.func62, Tryd.ntmps62
  go_wp2
  go_ret
  first | exact ⟨rfl, rfl⟩ | simp
set_option maxHeartbeats 1000000 in
theorem clone_any (s : Value) (zs : List Nat) (W : World) (hr : bytesIn W s zs) (hl : zs.length ≤ 140737488355328) :
    Calls Tryd.prog 61 #[s] W fun e w' => ∃ u, e = .returned u ∧ bytesIn w' u zs ∧ (∀ b, inBlock u b → W.heap.size ≤ b) ∧ Below W.heap.size W w' := by
  by_cases hn : s = .slice none 0 0
  · subst hn
    have hz : zs = [] := by
      rcases hr with ⟨_, rfl⟩ | ⟨b, off, cap, h, _⟩
      · rfl
      · cases h
    subst hz
    have hnil := fun w => run_eql_slice_nil (P := Tryd.prog) w 24 5 none 0 0 Tryd.underlying24
    go_enter Tryd.func61, Tryd.ntmps61
    go_wp2_with fail
    go_ret
    exact ⟨_, rfl, listed_none _ _, fun b hb => (by obtain ⟨off, n, cap, h, _⟩ := hb; cases h), Below.refl _ _⟩
  · obtain ⟨a, cap, rfl⟩ : ∃ a cap, s = .slice (some a) zs.length cap := by
      rcases hr with ⟨⟨o, cap, rfl, ho⟩, rfl⟩ | ⟨b, off, cap, rfl, _⟩
      · cases o with
        | none =>
          obtain rfl := ho rfl
          exact absurd rfl hn
        | some a => exact ⟨a, cap, rfl⟩
      · exact ⟨_, cap, rfl⟩
    clear hn
    have HR := Lib.hid hr
    have HL := Lib.hid hl
    obtain ⟨n, en⟩ : ∃ n, zs.length = n := ⟨_, rfl⟩
    have EN := Lib.hid en
    rw [en] at HR ⊢
    clear hr hl en
    have hnil := fun w => run_eql_slice_nil (P := Tryd.prog) w 24 5 (some a) n cap Tryd.underlying24
    go_enter Tryd.func61, Tryd.ntmps61
    go_wp2_with (at_builtin; refine wpList_append_listed (c := byteVal) rfl _ _ 24 rfl W.heap.size 5 (.int .u8 0) Tryd.underlying24 info8 rfl (fun _ => rfl) _ 0 [] rfl (World.ownsRow_made W #[] 0 (Nat.le_refl _) (by decide) rfl) _ zs rfl (listed_on HR.out ((Below.refl _ _).alloc (Nat.le_refl _) _)) (by have := HL.out; omega) (by simp) ?_)
    intro v' w' hown hgrow
    have hb := ((Below.refl W.heap.size W).alloc (Nat.le_refl _) (.cells #[] 5)).grown hgrow (by simp) (fun q hq => by simp [Value.ownBlock] at hq; omega)
    have hown : w'.ownsRow W.heap.size 5 1 v' zs.length (zs.map byteVal) := by first | exact hown | (rw [Nat.zero_add, List.nil_append] at hown; exact hown)
    go_wp2_with fail
    go_ret
    exact ⟨_, rfl, own_listed hown, fun b hb => own_fresh hown b hb, hb⟩
theorem two_new (W : World) (s p x : Value) (ty : TypeId) : ((W.alloc (.cells #[s, p] 107)).alloc (.cells #[x] ty)).heap[W.heap.size + 1]? = some (.cells #[x] ty (0, 0)) ∧ ((W.alloc (.cells #[s, p] 107)).alloc (.cells #[x] ty)).heap[W.heap.size]? = some (.cells #[s, p] 107 (0, 0)) ∧ Below W.heap.size W ((W.alloc (.cells #[s, p] 107)).alloc (.cells #[x] ty)) := by
  have hs0 : (W.alloc (.cells #[s, p] 107)).heap.size = W.heap.size + 1 := by
    show (W.heap.push _).size = _
    simp
  refine ⟨?_, alloc_old (heap_alloc_new W _), ((Below.refl _ _).alloc (Nat.le_refl _) _).alloc (by rw [hs0]; omega) _⟩
  rw [← hs0]
  exact heap_alloc_new _ _
theorem wnew_any (w : World) : Calls Tryd.prog 37 #[] w fun e w' => ∃ v O, e = .returned v ∧ isW w' v [] 0 O ∧ (∀ k, O k → w.heap.size ≤ k) ∧ Below w.heap.size w w' := by
  go_enter Tryd.func37, Tryd.ntmps37
  go_wp2_with fail
  go_ret
  obtain ⟨h1, h2, h3⟩ := two_new w (.slice none 0 0) (.int .i64 0) (.pointer (some ⟨w.heap.size, 0, none⟩)) 109
  refine ⟨_, _, rfl, ⟨w.heap.size + 1, w.heap.size, .slice none 0 0, ⟨by simp, h1, h2, by omega⟩, World.ownsRow_nil _ _ _ _, by simp [Value.ownBlock], by simp [Value.ownBlock], Nat.le_refl _, rfl⟩, ?_, h3⟩
  rintro k (rfl | rfl | hk)
  · omega
  · omega
  · simp [Value.ownBlock] at hk
theorem rnew_code (w : World) (b : Value) (zs : List Nat) (hr : bytesIn w b zs) (h8 : ∀ x ∈ zs, x < 256) (hl : zs.length ≤ 34359738368) :
    Calls Tryd.prog 48 #[b] w fun e w' => ∃ v O, e = .returned v ∧ isR w' v (bitsOfBytes zs) 0 O ∧ (∀ k, O k → w.heap.size ≤ k) ∧ Below w.heap.size w w' := by
  go_enter Tryd.func48, Tryd.ntmps48
  go_wp2_with fail
  go_at_call 61
  refine (clone_any b zs w hr (by omega)).mono ?_
  rintro e w1 ⟨u, rfl, h1, h2, h3⟩
  obtain ⟨uo, uc, rfl⟩ := listed_length h1
  obtain ⟨n, en⟩ : ∃ n, zs.length = n := ⟨_, rfl⟩
  have EN := Lib.hid en
  rw [en] at h1 h2 ⊢
  have H1 := Lib.hid h1
  have H2 := Lib.hid h2
  have H3 := Lib.hid h3
  have HL := Lib.hid h8
  clear h1 h2 h3 hr hl h8 en
  go_wp2_with fail
  go_ret
  obtain ⟨k1, k2, k3⟩ := two_new w1 (.slice uo n uc) (.int .i64 0) (.pointer (some ⟨w1.heap.size, 0, none⟩)) 126
  have hb := H3.out
  refine ⟨_, _, rfl, ⟨w1.heap.size + 1, w1.heap.size, .slice uo n uc, zs, ⟨by simp, k1, k2, by omega⟩, listed_on H1.out k3, HL.out, rfl, fun b hb => ?_, Nat.zero_le _, rfl⟩, ?_, hb.trans (k3.mono hb.size)⟩
  · have := inBlock_lt H1.out hb
    omega
  · have hz := hb.size
    rintro k (rfl | rfl | hk)
    · omega
    · exact hz
    · exact H2.out k hk
theorem bits_code (w : World) (v : Value) (l : List Bool) (t : Nat) (O : Nat → Prop) (h : isW w v l t O) : Calls Tryd.prog 77 #[v] w fun e w' => ∃ O', e = .returned (.int .i64 (l.length : Int)) ∧ isW w' v l t O' ∧ (∀ b, O' b → O b ∨ w.heap.size ≤ b) ∧ Past O w w' := by
  have H := Lib.hid h
  obtain ⟨g, g', s, hh, _⟩ := h
  obtain ⟨rfl, h1, h2, h3⟩ := hh
  have q0 := cell_of_block h1 0
  have q1 := cell_of_block h2 1
  clear h1 h2 h3
  generalize l.length = n at *
  go_enter Tryd.func77, Tryd.ntmps77
  go_wp2_with fail
  go_ret
  exact ⟨O, rfl, H.out, fun b hb => .inl hb, Past.refl _ _⟩
theorem place_code (w : World) (v : Value) (l : List Bool) (t : Nat) (O : Nat → Prop) (h : isR w v l t O) : Calls Tryd.prog 50 #[v] w fun e w' => ∃ O', e = .returned (.int .i64 (t : Int)) ∧ isR w' v l t O' ∧ (∀ b, O' b → O b ∨ w.heap.size ≤ b) ∧ Past O w w' := by
  have H := Lib.hid h
  obtain ⟨g, g', s, zs, hh, _⟩ := h
  obtain ⟨rfl, h1, h2, h3⟩ := hh
  have q0 := cell_of_block h1 0
  have q1 := cell_of_block h2 1
  clear h1 h2 h3
  go_enter Tryd.func50, Tryd.ntmps50
  go_wp2_with fail
  go_ret
  exact ⟨O, rfl, H.out, fun b hb => .inl hb, Past.refl _ _⟩
/-- A reader whose place alone is another one. -/
theorem isR_moved {w w' : World} {g g' : Nat} {s : Value} {zs : List Nat} {t t' : Nat} (hh : Held 126 w (.pointer (some ⟨g, 0, none⟩)) g g' s t) (hb : bytesIn w s zs) (h8 : ∀ x ∈ zs, x < 256) (hd : ∀ b, inBlock s b → b ≠ g ∧ b ≠ g') (ht : t' ≤ (bitsOfBytes zs).length)
    (hs : w'.heap.size = w.heap.size) (hk : ∀ k, k ≠ g' → w'.heap[k]? = w.heap[k]?) (hl : w'.heap[g']? = some (.cells #[s, .int .i64 (t' : Int)] 107 (0, 0))) :
    isR w' (.pointer (some ⟨g, 0, none⟩)) (bitsOfBytes zs) t' (fun k => k = g ∨ k = g' ∨ inBlock s k) :=
  ⟨g, g', s, zs, ⟨rfl, (hk g hh.ne).trans hh.obj, hl, hh.ne⟩, listed_kept hb (Nat.le_of_eq hs.symm) (fun b hb => hk b (hd b hb).2), h8, rfl, hd, ht, rfl⟩
set_option maxRecDepth 100000 in
theorem ralign_code (w : World) (v : Value) (l : List Bool) (t : Nat) (O : Nat → Prop) (h : isR w v l t O) (hl : l.length ≤ 1099511627776) (ht : t ≤ l.length) :
    Calls Tryd.prog 95 #[v] w fun e w' => ∃ O', e = .returned (.int .i64 0) ∧ isR w' v l ((t + 7) / 8 * 8) O' ∧ (∀ b, O' b → O b ∨ w.heap.size ≤ b) ∧ Past O w w' := by
  obtain ⟨g, g', s, zs, hh, hb, h8, rfl, hd, _, rfl⟩ := h
  have HH := Lib.hid hh
  obtain ⟨rfl, h1, h2, h3⟩ := hh
  have HB := Lib.hid hb
  have H8 := Lib.hid h8
  have HD := Lib.hid hd
  have HT : Hid ((t + 7) / 8 * 8 ≤ (bitsOfBytes zs).length) := by
    show _ ≤ _
    rw [bitsOfBytes_length] at ht ⊢
    omega
  have H2 := Lib.hid h2
  have q0 := cell_of_block h1 0
  have q1 := cell_of_block h2 1
  have f1 := unfrozen_of_block h2 1
  have hsum : (t : Int) + ((8 - t % 8) % 8 : Nat) = (((t + 7) / 8 * 8 : Nat) : Int) := by omega
  have hT : (t + 7) / 8 * 8 ≤ 1099511627776 + 7 := by omega
  have ht2 : t ≤ 1099511627776 := by omega
  have KW : ∀ w', w'.cell? ⟨g', 1, none⟩ = some (.int .i64 (t : Int)) → Calls Tryd.prog 62 #[.pointer (some ⟨g', 0, none⟩)] w' fun e w'' => e = .returned (.int .i64 (((8 - t % 8) % 8 : Nat) : Int)) ∧ w'' = w' := fun w' hc => (toWhole_any g' t w' hc (by omega)).mono fun e w'' h => ⟨h.1, h.2.symm⟩
  clear h1 h2 h3 hb h8 hd ht hl
  generalize (t + 7) / 8 * 8 = T at *
  have bS : (8 - t % 8) % 8 ≤ 7 := by omega
  generalize (8 - t % 8) % 8 = S at *
  go_enter Tryd.func95, Tryd.ntmps95
  go_wp2_with fail
  refine wp_region_still_tail 15 (by kernel_rfl) (by kernel_rfl) ?_
  simp only [List.take_succ_cons, List.take_zero, List.drop_succ_cons, List.drop_zero]
  repeat still_step
  still_call (KW _ (by simpa using q1))
  repeat still_step
  refine wpStill_nil ?_
  change wpList _ _ _ _ _ w.drew
  go_wp2_with fail
  go_ret
  have hn : (w.setCell ⟨g', 1, none⟩ (.int .i64 (T : Int))).heap[g']? = some (.cells #[s, .int .i64 (T : Int)] 107 (0, 0)) := block_setCell H2.out _
  refine ⟨_, rfl, isR_moved (w' := (w.setCell ⟨g', 1, none⟩ (.int .i64 (T : Int))).drew) HH.out HB.out H8.out HD.out HT.out (by simp) (fun k hk => Below.heap_setCell _ _ _ k hk) hn, fun b hb => .inl hb, ?_⟩
  exact ⟨rfl, rfl, rfl, by simp, fun k _ hk => Below.heap_setCell _ _ _ k (fun h => hk (.inr (.inl h)))⟩
end Go.Proofs.YtbfpbmnnlckldaaDoor.Fx
namespace Go.Proofs.YtbfpbmnnlckldaaDoor.Fx
open Go Go.RowKit Go.Joins
set_option linter.unusedVariables false
theorem numAt_add (l : List Bool) (t j m : Nat) (h : t + j ≤ l.length) : numAt l t (j + m) = numAt l t j + 2 ^ j * numAt l (t + j) m := by
  unfold numAt
  rw [List.take_add, numOf_append, List.length_take, List.length_drop, Nat.min_eq_left (by omega), List.drop_drop]
theorem bitsOf_take (n k j : Nat) (h : j ≤ k) : (bitsOf n k).take j = bitsOf n j := by
  obtain ⟨d, rfl⟩ : ∃ d, k = j + d := ⟨k - j, by omega⟩
  rw [bitsOf_add, List.take_left' (bitsOf_length n j)]
theorem bitsOf_drop (n k j : Nat) (h : j ≤ k) : (bitsOf n k).drop j = bitsOf (n / 2 ^ j) (k - j) := by
  obtain ⟨d, rfl⟩ : ∃ d, k = j + d := ⟨k - j, by omega⟩
  rw [bitsOf_add, List.drop_left' (bitsOf_length n j), Nat.add_sub_cancel_left]
theorem bitsOfBytes_drop (zs : List Nat) (q : Nat) : (bitsOfBytes zs).drop (8 * q) = bitsOfBytes (zs.drop q) := by
  induction q generalizing zs with
  | zero => simp
  | succ q ih =>
    cases zs with
    | nil => simp [bitsOfBytes]
    | cons z zs =>
      have e : bitsOfBytes (z :: zs) = bitsOf z 8 ++ bitsOfBytes zs := by
        unfold bitsOfBytes
        rw [List.flatMap_cons]
      rw [e, show 8 * (q + 1) = 8 + 8 * q by omega, ← List.drop_drop, List.drop_left' (bitsOf_length z 8), ih, List.drop_succ_cons]
theorem numAt_byte (zs : List Nat) (q a m z : Nat) (hz : zs[q]? = some z) (ha : a + m ≤ 8) : numAt (bitsOfBytes zs) (8 * q + a) m = z / 2 ^ a % 2 ^ m := by
  have hq : q < zs.length := (List.getElem?_eq_some_iff.mp hz).1
  have he : zs[q] = z := (List.getElem?_eq_some_iff.mp hz).2
  have e : bitsOfBytes (zs.drop q) = bitsOf z 8 ++ bitsOfBytes (zs.drop (q + 1)) := by
    rw [List.drop_eq_getElem_cons hq, he]
    unfold bitsOfBytes
    rw [List.flatMap_cons]
  unfold numAt
  rw [← List.drop_drop, bitsOfBytes_drop, e, List.drop_append_of_le_length (by rw [bitsOf_length]; omega), bitsOf_drop _ _ _ (by omega), List.take_append_of_le_length (by rw [bitsOf_length]; omega), bitsOf_take _ _ _ (by omega), numOf_bitsOf]
theorem pow8 (m : Nat) (h : m ≤ 8) : 2 ^ m ≤ 256 := by
  have := Nat.pow_le_pow_right (n := 2) (by decide) h
  omega
theorem pow_int (m : Nat) : (2 : Int) ^ m = ((2 ^ m : Nat) : Int) := by
  rw [Int.natCast_pow]
  rfl
theorem mask8 (m : Nat) (h1 : 0 < m) (h : m ≤ 8) : ∃ b : Nat, IntKind.u8.wrap ((2 : Int) ^ m) = (b : Int) ∧ b < 256 ∧ IntKind.u8.wrap ((b : Int) - 1) = ((2 ^ m - 1 : Nat) : Int) := by
  have : m = 1 ∨ m = 2 ∨ m = 3 ∨ m = 4 ∨ m = 5 ∨ m = 6 ∨ m = 7 ∨ m = 8 := by omega
  rcases this with rfl | rfl | rfl | rfl | rfl | rfl | rfl | rfl
  · exact ⟨2, by decide, by decide, by decide⟩
  · exact ⟨4, by decide, by decide, by decide⟩
  · exact ⟨8, by decide, by decide, by decide⟩
  · exact ⟨16, by decide, by decide, by decide⟩
  · exact ⟨32, by decide, by decide, by decide⟩
  · exact ⟨64, by decide, by decide, by decide⟩
  · exact ⟨128, by decide, by decide, by decide⟩
  · exact ⟨0, by decide, by decide, by decide⟩
theorem shr_nat (z a : Nat) : (z : Int) / (2 : Int) ^ a = ((z / 2 ^ a : Nat) : Int) := by
  rw [pow_int, Int.natCast_ediv]
theorem and_mask8 (y m : Nat) (hy : y < 256) (hm : m ≤ 8) : bits .and .u8 (y : Int) ((2 ^ m - 1 : Nat) : Int) = ((y % 2 ^ m : Nat) : Int) := by
  have := pow8 m hm
  rw [u8_and_nat y _ hy (by omega), Nat.and_two_pow_sub_one_eq_mod]
/-- Lower bits and higher ones: joined by 'or'. -/
theorem or_join32 (n x j k : Nat) (hn : n < 2 ^ j) (hx : x < 2 ^ (k - j)) (hj : j ≤ k) (hk : k ≤ 32) : ∃ X : Nat, IntKind.u32.wrap ((x : Int) * (2 : Int) ^ j) = (X : Int) ∧ X ≤ 4294967295 ∧ bits .or .u32 (n : Int) (X : Int) = ((n + 2 ^ j * x : Nat) : Int) := by
  have e : 2 ^ k = 2 ^ j * 2 ^ (k - j) := by rw [← Nat.pow_add]; congr 1; omega
  have h1 : 2 ^ j * x + 2 ^ j ≤ 2 ^ k := by
    rw [e, ← Nat.mul_succ]
    exact Nat.mul_le_mul_left _ hx
  have h2 := pow_le k hk
  have h3 : 0 < 2 ^ j := Nat.pow_pos (by decide)
  refine ⟨2 ^ j * x, ?_, by omega, ?_⟩
  · rw [pow_int, IntKind.wrap_u32']
    have : (x : Int) * ((2 ^ j : Nat) : Int) = ((2 ^ j * x : Nat) : Int) := by rw [← Int.natCast_mul, Nat.mul_comm]
    rw [this]
    omega
  · rw [u32_or_nat n _ (by omega) (by omega), Nat.or_comm, nat_join j _ _ (Nat.mul_mod_right _ _) hn, Nat.add_comm]
/-- A world in which the line's place alone is another one. -/
structure Moved (w wr : World) (g' : Nat) (s : Value) (p : Nat) : Prop where
  os : wr.os = w.os
  tape : wr.tape = w.tape
  output : wr.output = w.output
  size : wr.heap.size = w.heap.size
  same : ∀ k, k ≠ g' → wr.heap[k]? = w.heap[k]?
  line : wr.heap[g']? = some (.cells #[s, .int .i64 (p : Int)] 107 (0, 0))
theorem Moved.past {w wr : World} {g' : Nat} {s : Value} {p : Nat} {O : Nat → Prop} (h : Moved w wr g' s p) (hO : O g') : Past O w wr := ⟨h.os, h.tape, h.output, Nat.le_of_eq h.size.symm, fun k _ hk => h.same k (fun e => hk (e ▸ hO))⟩
theorem Moved.start {w : World} {g' : Nat} {s : Value} {p : Nat} (h : w.heap[g']? = some (.cells #[s, .int .i64 (p : Int)] 107 (0, 0))) : Moved w w g' s p := ⟨rfl, rfl, rfl, rfl, fun _ _ => rfl, h⟩
theorem Moved.on {w wr : World} {g' : Nat} {s : Value} {p p' : Nat} (h : Moved w wr g' s p) : Moved w (wr.setCell ⟨g', 1, none⟩ (.int .i64 (p' : Int))) g' s p' := ⟨h.os, h.tape, h.output, by simpa using h.size, fun k hk => (Below.heap_setCell _ _ _ k hk).trans (h.same k hk), block_setCell h.line _⟩
theorem Moved.drew {w wr : World} {g' : Nat} {s : Value} {p : Nat} (h : Moved w wr g' s p) : Moved w wr.drew g' s p := ⟨h.os, h.tape, h.output, h.size, h.same, h.line⟩
theorem getBad_code (w : World) (v : Value) (l : List Bool) (t : Nat) (O : Nat → Prop) (k : Int) (h : isR w v l t O) (hk : -9223372036854775808 ≤ k ∧ k ≤ 9223372036854775807) (hb : k < 0 ∨ 32 < k) :
    Calls Tryd.prog 86 #[v, .int .i64 k] w fun e w' => ∃ O', e = .returned (.tuple #[.int .u32 0, .int .i64 2]) ∧ isR w' v l t O' ∧ (∀ b, O' b → O b ∨ w.heap.size ≤ b) ∧ Past O w w' := by
  have H := Lib.hid h
  obtain ⟨g, g', s, zs, hh, _⟩ := h
  obtain ⟨rfl, h1, h2, h3⟩ := hh
  have q0 := cell_of_block h1 0
  have q1 := cell_of_block h2 1
  clear h1 h2 h3
  rcases Int.lt_or_le k 0 with h0 | h0
  · have hd : decide (k < 0) = true := decide_eq_true h0
    go_enter Tryd.func86, Tryd.ntmps86
    go_wp2_with fail
    refine bodyPost_ret (v := .tuple #[.int .u32 0, .int .i64 2]) (by simp [results, Tryd.results86, asAddr, go_sem]) rfl ?_
    exact ⟨O, rfl, H.out, fun b hb => .inl hb, Past.refl _ _⟩
  · have hd : decide (k < 0) = false := decide_eq_false (by omega)
    have hd2 : decide (32 < k) = true := decide_eq_true (by omega)
    go_enter Tryd.func86, Tryd.ntmps86
    go_wp2_with fail
    refine bodyPost_ret (v := .tuple #[.int .u32 0, .int .i64 2]) (by simp [results, Tryd.results86, asAddr, go_sem]) rfl ?_
    exact ⟨O, rfl, H.out, fun b hb => .inl hb, Past.refl _ _⟩
set_option maxRecDepth 100000 in
theorem getShort_code (w : World) (v : Value) (l : List Bool) (t : Nat) (O : Nat → Prop) (k : Nat) (h : isR w v l t O) (hk : k ≤ 32) (hs : l.length < t + k) (hl : l.length ≤ 1099511627776) :
    Calls Tryd.prog 86 #[v, .int .i64 (k : Int)] w fun e w' => ∃ O', e = .returned (.tuple #[.int .u32 0, .int .i64 12]) ∧ isR w' v l t O' ∧ (∀ b, O' b → O b ∨ w.heap.size ≤ b) ∧ Past O w w' := by
  have H := Lib.hid (isR_keep w w.drew v l t O h (Nat.le_refl _) (fun _ _ => rfl))
  obtain ⟨g, g', s, zs, hh, hb, h8, rfl, hd, ht, rfl⟩ := h
  obtain ⟨rfl, h1, h2, h3⟩ := hh
  have q0 := cell_of_block h1 0
  have q1 := cell_of_block h2 0
  have q2 := cell_of_block h2 1
  have hlen := fun w => listed_len (u := 3) Tryd.underlying24 hb w
  rw [bitsOfBytes_length] at hs hl ht
  clear h1 h2 h3 hb hd h8
  generalize zs.length = n at *
  have hd1 : decide ((k : Int) < 0) = false := decide_eq_false (by omega)
  have hd2 : decide ((32 : Int) < (k : Int)) = false := decide_eq_false (by omega)
  have hd3 : decide (8 * (n : Int) - (t : Int) < (k : Int)) = true := decide_eq_true (by omega)
  have hw1 : IntKind.i64.wrap (8 * (n : Int)) = 8 * (n : Int) := by rw [IntKind.wrap_i64]; omega
  have hw2 : IntKind.i64.wrap (8 * (n : Int) - (t : Int)) = 8 * (n : Int) - (t : Int) := by rw [IntKind.wrap_i64]; omega
  go_enter Tryd.func86, Tryd.ntmps86
  go_wp2_with fail
  go_still (by kernel_rfl)
  go_wp2_with fail
  refine bodyPost_ret (v := .tuple #[.int .u32 0, .int .i64 12]) (by simp [results, Tryd.results86, asAddr, go_sem]) rfl ?_
  exact ⟨_, rfl, H.out, fun b hb => .inl hb, ⟨rfl, rfl, rfl, Nat.le_refl _, fun _ _ _ => rfl⟩⟩
set_option maxHeartbeats 4000000 in
set_option maxRecDepth 100000 in
theorem get_code (w : World) (v : Value) (l : List Bool) (t : Nat) (O : Nat → Prop) (k : Nat) (h : isR w v l t O) (hk : k ≤ 32) (hs : t + k ≤ l.length) (hl : l.length ≤ 1099511627776) :
    Calls Tryd.prog 86 #[v, .int .i64 (k : Int)] w fun e w' => ∃ O', e = .returned (.tuple #[.int .u32 (numAt l t k : Nat), .int .i64 0]) ∧ isR w' v l (t + k) O' ∧ (∀ b, O' b → O b ∨ w.heap.size ≤ b) ∧ Past O w w' := by
  obtain ⟨g, g', s, zs, hh, hb, h8, rfl, hd, ht, rfl⟩ := h
  have HH := Lib.hid hh
  have HB := Lib.hid hb
  have H8 := Lib.hid h8
  have HD := Lib.hid hd
  obtain ⟨rfl, h1, h2, h3⟩ := hh
  have H1 := Lib.hid h1
  have q0 := cell_of_block h1 0
  have q1 := cell_of_block h2 0
  have q2 := cell_of_block h2 1
  have hst := Moved.start h2
  obtain ⟨so, sc, rfl⟩ := listed_length hb
  have hlen := fun w => listed_len (u := 3) Tryd.underlying24 hb w
  have HS := Lib.hid hs
  rw [bitsOfBytes_length] at hs hl ht
  have hlz : zs.length ≤ 137438953472 := by omega
  have HE : Hid ((t + k ≤ 8 * zs.length) ∧ 8 * zs.length ≤ 1099511627776) := ⟨hs, hl⟩
  clear h1 h2 hb hd h8
  obtain ⟨n, en⟩ : ∃ n, zs.length = n := ⟨_, rfl⟩
  have EN := Lib.hid en
  rw [en] at HE hs hl ht hlz HH HB HD hst hlen q1 q2 ⊢
  clear en
  have hd1 : decide ((k : Int) < 0) = false := decide_eq_false (by omega)
  have hd2 : decide ((32 : Int) < (k : Int)) = false := decide_eq_false (by omega)
  have hd3 : decide (8 * (n : Int) - (t : Int) < (k : Int)) = false := decide_eq_false (by omega)
  have hw1 : IntKind.i64.wrap (8 * (n : Int)) = 8 * (n : Int) := by rw [IntKind.wrap_i64]; omega
  have hw2 : IntKind.i64.wrap (8 * (n : Int) - (t : Int)) = 8 * (n : Int) - (t : Int) := by rw [IntKind.wrap_i64]; omega
  have hz := numAt_zero (bitsOfBytes zs) t
  go_enter Tryd.func86, Tryd.ntmps86
  go_wp2_with fail
  go_still (by kernel_rfl)
  go_wp2_with fail
  have hst := hst.drew
  go_loopw [6, 7] (fun x i wr => ∃ j : Nat, j ≤ k ∧ x = .int .u32 (numAt (bitsOfBytes zs) t j : Nat) ∧ i = .int .i64 j ∧ Moved w wr g' (.slice so n sc) (t + j)) (fun _ i _ => k - (intOf i).toNat)
  case atStart => exact ⟨0, Nat.zero_le _, by rw [hz]; rfl, rfl, hst⟩
  case round =>
    clear hst q0 q1 q2 hz hd3 hw1 hw2
    obtain ⟨j, hj, rfl, rfl, hm⟩ := hrel
    have q0 := cell_of_block ((hm.same g h3).trans H1.out) 0
    have q1 := cell_of_block hm.line 0
    have q2 := cell_of_block hm.line 1
    have f2 := unfrozen_of_block hm.line 1
    have HM := Lib.hid hm
    clear hm
    by_cases hjk : j < k
    · have hdj : decide ((j : Int) < (k : Int)) = true := decide_eq_true (by omega)
      obtain ⟨p, ep⟩ : ∃ p, t + j = p := ⟨_, rfl⟩
      obtain ⟨a, ea⟩ : ∃ a, p % 8 = a := ⟨_, rfl⟩
      obtain ⟨q, eq⟩ : ∃ q, p / 8 = q := ⟨_, rfl⟩
      obtain ⟨d, ed⟩ : ∃ d, k - j = d := ⟨_, rfl⟩
      obtain ⟨m, em⟩ : ∃ m, min d (8 - a) = m := ⟨_, rfl⟩
      have ha : a < 8 := by omega
      have hm1 : 0 < m := by omega
      have hm2 : m ≤ d := by omega
      have hm3 : a + m ≤ 8 := by omega
      have hpn : p + m ≤ t + k := by omega
      have hqn : q < n := by have := HE.out; omega
      have hp40 : p + m ≤ 1099511627776 := by have := HE.out; omega
      obtain ⟨z, ez⟩ : ∃ z, zs[q]? = some z := ⟨zs[q]'(by rw [EN.out]; exact hqn), List.getElem?_eq_getElem _⟩
      have hz8 : z < 256 := H8.out z (List.mem_of_getElem? ez)
      have hx := numAt_byte zs q a m z ez (by omega)
      rw [show 8 * q + a = p by omega] at hx
      have hsum := numAt_add (bitsOfBytes zs) t j m (by have := HS.out; omega)
      rw [ep, hx] at hsum
      obtain ⟨b, off, cap, es, hlt, hcell⟩ := listed_cell HB.out q z ez
      rw [EN.out] at es
      have hbg : b ≠ g' := (HD.out b ⟨off, n, cap, es, by omega⟩).2
      have hcell : wr.cell? ⟨b, off + q, none⟩ = some (.int .u8 (z : Int)) := (World.cell?_of_block (a := ⟨b, off + q, none⟩) (HM.out.same b hbg)).trans hcell
      simp only [Value.slice.injEq] at es
      obtain ⟨rfl, _, rfl⟩ := es
      have hsh := shr_nat z a
      have hy8 : z / 2 ^ a < 256 := Nat.lt_of_le_of_lt (Nat.div_le_self _ _) hz8
      have hand := and_mask8 (z / 2 ^ a) m hy8 (by omega)
      have hxb : z / 2 ^ a % 2 ^ m < 2 ^ (k - j) := Nat.lt_of_lt_of_le (Nat.mod_lt _ (Nat.pow_pos (by decide))) (Nat.pow_le_pow_right (by decide) (by omega))
      have hx8 : z / 2 ^ a % 2 ^ m < 256 := Nat.lt_of_le_of_lt (Nat.mod_le _ _) hy8
      obtain ⟨B, hB1, hB2, hB3⟩ := mask8 m hm1 (by omega)
      have hn32 := numAt_below (bitsOfBytes zs) t j
      obtain ⟨X, hX1, hX2, hX3⟩ := or_join32 (numAt (bitsOfBytes zs) t j) (z / 2 ^ a % 2 ^ m) j k hn32 hxb hj hk
      rw [← hsum] at hX3
      have hN1 : numAt (bitsOfBytes zs) t j ≤ 4294967295 := by have := Nat.pow_le_pow_right (n := 2) (by decide) (show j ≤ 32 by omega); omega
      have hN2 : numAt (bitsOfBytes zs) t (j + m) ≤ 4294967295 := by have := numAt_below (bitsOfBytes zs) t (j + m); have := Nat.pow_le_pow_right (n := 2) (by decide) (show j + m ≤ 32 by omega); omega
      obtain ⟨N2, eN2⟩ : ∃ N2, numAt (bitsOfBytes zs) t (j + m) = N2 := ⟨_, rfl⟩
      rw [eN2] at hX3 hN2
      have EN2 := Lib.hid eN2
      clear hsum hx hxb hn32 ez eN2
      generalize numAt (bitsOfBytes zs) t j = N at *
      generalize z / 2 ^ a % 2 ^ m = x at *
      generalize z / 2 ^ a = y at *
      obtain ⟨M, eM⟩ : ∃ M, 2 ^ m - 1 = M := ⟨_, rfl⟩
      rw [eM] at hand hB3
      clear eM
      have hwx : IntKind.u32.wrap (x : Int) = (x : Int) := by rw [IntKind.wrap_u32']; omega
      rw [ep] at q2 HM
      have KW : Hid (∀ w', w'.cell? ⟨g', 1, none⟩ = some (.int .i64 (p : Int)) → Calls Tryd.prog 76 #[.pointer (some ⟨g', 0, none⟩), .int .i64 (d : Int)] w' fun e w'' => e = .returned (.int .i64 (m : Int)) ∧ w' = w'') := fun w' hc => by
        have := within_any g' p d w' hc (by omega) (by omega)
        rwa [ea, em] at this
      have hrem : (p : Int) % 8 = (a : Int) := by omega
      have hquo : (p : Int) / 8 = (q : Int) := by omega
      have hkj : (k : Int) - (j : Int) = (d : Int) := by omega
      have hpm : IntKind.i64.wrap ((p : Int) + (m : Int)) = (p : Int) + (m : Int) := by rw [IntKind.wrap_i64]; omega
      have hjm : IntKind.i64.wrap ((j : Int) + (m : Int)) = (j : Int) + (m : Int) := by rw [IntKind.wrap_i64]; omega
      have EP := Lib.hid ep
      have ED := Lib.hid ed
      have hjm2 : j + m ≤ k := by omega
      have hd32 : d ≤ 32 := by omega
      have hqi : (q : Int) < (n : Int) := by omega
      have HE2 := HE.out
      have hp1 : p ≤ 1099511627776 := by omega
      have hwq : IntKind.i64.wrap (q : Int) = (q : Int) := by rw [IntKind.wrap_i64]; omega
      have hwa : IntKind.i64.wrap (a : Int) = (a : Int) := by rw [IntKind.wrap_i64]; omega
      have hq0 : (0 : Int) ≤ (q : Int) := by omega
      have htm : (p : Int).tmod 8 = (a : Int) := by rw [Int.tmod_eq_emod_of_nonneg (by omega)]; exact hrem
      clear HE2 ep ed em ea eq hs hl ht hlz hpn
      go_wp2_with (go_at_call 76; refine (KW.out _ (by simpa using q2)).mono ?_; rintro e w' ⟨rfl, rfl⟩)
      go_still (by kernel_rfl)
      clear hcell hand hB1 hB3 hsh htm hrem hquo hwq hwa
      go_wp2_with fail
      go_roundw
      case rel => exact ⟨j + m, hjm2, by rw [EN2.out], by go_num, by rw [show t + (j + m) = p + m by have := EP.out; omega]; first | exact HM.out.drew.on | (have h9 := (HM.out.drew).on (p' := p + m); simpa using h9)⟩
      case measure => simp [intOf]; omega
    · have hdj : decide ((j : Int) < (k : Int)) = false := decide_eq_false (by omega)
      obtain rfl : j = k := by omega
      obtain ⟨N, eN⟩ : ∃ N, numAt (bitsOfBytes zs) t j = N := ⟨_, rfl⟩
      rw [eN]
      have EN3 := Lib.hid eN
      clear eN
      go_wp2_with fail
      refine bodyPost_ret (v := .tuple #[.int .u32 (N : Int), .int .i64 0]) (by simp [results, Tryd.results86, asAddr, go_sem]) rfl ?_
      refine ⟨_, by rw [EN3.out], isR_moved HH.out HB.out H8.out HD.out HS.out HM.out.size HM.out.same HM.out.line, fun b hb => .inl hb, HM.out.past (.inr (.inl rfl))⟩
end Go.Proofs.YtbfpbmnnlckldaaDoor.Fx
