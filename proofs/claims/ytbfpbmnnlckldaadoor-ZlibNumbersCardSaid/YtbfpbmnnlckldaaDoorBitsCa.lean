/-
  The small calls of package bits, as landed: what an object's memory looks like; places, copies, new ones. The conditions stand in each.
-/
import Derived.Lib.LazyBuf
import Derived.StillTailTactics
import Derived.Test.YtbfpbmnnlckldaaDoorBitsD
namespace Go.Proofs.YtbfpbmnnlckldaaDoor.Fx
open Go Go.RowKit Go.Joins
set_option linter.unusedVariables false
/-- An object: its block, its line's block, the slice and the place that this holds. -/
structure Held (ty : TypeId) (w : World) (v : Value) (g g' : Nat) (s : Value) (p : Nat) : Prop where
  val : v = .pointer (some ⟨g, 0, none⟩)
  obj : w.heap[g]? = some (.cells #[.pointer (some ⟨g', 0, none⟩)] ty (0, 0))
  line : w.heap[g']? = some (.cells #[s, .int .i64 (p : Int)] 107 (0, 0))
  ne : g ≠ g'
/-- How many of its bytes a writer holds. -/
def pend (n t : Nat) : Nat := (n + 7) / 8 - t
def isW (w : World) (v : Value) (l : List Bool) (t : Nat) (O : Nat → Prop) : Prop :=
  ∃ g g' s, Held 109 w v g g' s l.length ∧ w.ownsRow 0 5 1 s (pend l.length t) ((bytesAt l t (pend l.length t)).map byteVal) ∧ s.ownBlock ≠ some g ∧ s.ownBlock ≠ some g' ∧ 8 * t ≤ l.length ∧ O = fun k => k = g ∨ k = g' ∨ s.ownBlock = some k
def isR (w : World) (v : Value) (l : List Bool) (t : Nat) (O : Nat → Prop) : Prop :=
  ∃ g g' s zs, Held 126 w v g g' s t ∧ bytesIn w s zs ∧ (∀ x ∈ zs, x < 256) ∧ l = bitsOfBytes zs ∧ (∀ b, inBlock s b → b ≠ g ∧ b ≠ g') ∧ t ≤ l.length ∧ O = fun k => k = g ∨ k = g' ∨ inBlock s k
theorem Held.kept {ty : TypeId} {w w' : World} {v : Value} {g g' : Nat} {s : Value} {p : Nat} (h : Held ty w v g g' s p) (h0 : w'.heap[g]? = w.heap[g]?) (h1 : w'.heap[g']? = w.heap[g']?) : Held ty w' v g g' s p := ⟨h.val, h0.trans h.obj, h1.trans h.line, h.ne⟩
theorem Held.lt {ty : TypeId} {w : World} {v : Value} {g g' : Nat} {s : Value} {p : Nat} (h : Held ty w v g g' s p) : g < w.heap.size ∧ g' < w.heap.size := ⟨(Array.getElem?_eq_some_iff.1 h.obj).1, (Array.getElem?_eq_some_iff.1 h.line).1⟩
theorem isW_lt (w : World) (v : Value) (l : List Bool) (t : Nat) (O : Nat → Prop) (h : isW w v l t O) : ∀ k, O k → k < w.heap.size := by
  obtain ⟨g, g', s, hh, ho, _, _, _, rfl⟩ := h
  rintro k (rfl | rfl | hk)
  · exact hh.lt.1
  · exact hh.lt.2
  · exact (ho.lt k hk).2
theorem ownsRow_same {w w' : World} {base : Nat} {e : TypeId} {v : Value} {n : Nat} {xs : List Value} (h : w.ownsRow base e 1 v n xs) (hk : ∀ k, v.ownBlock = some k → w'.heap[k]? = w.heap[k]?) : w'.ownsRow base e 1 v n xs := by
  refine ⟨h.1, ?_⟩
  rcases h.2 with hn | ⟨g, cap, cur, rfl, hb, hg, rest⟩
  · exact .inl hn
  · exact .inr ⟨g, cap, cur, rfl, hb, (hk g rfl).trans hg, rest⟩
theorem isW_keep (w w' : World) (v : Value) (l : List Bool) (t : Nat) (O : Nat → Prop) (h : isW w v l t O) (hs : w.heap.size ≤ w'.heap.size) (hk : ∀ k, O k → w'.heap[k]? = w.heap[k]?) : isW w' v l t O := by
  obtain ⟨g, g', s, hh, ho, h1, h2, h3, rfl⟩ := h
  exact ⟨g, g', s, hh.kept (hk g (.inl rfl)) (hk g' (.inr (.inl rfl))), ownsRow_same ho (fun k h => hk k (.inr (.inr h))), h1, h2, h3, rfl⟩
theorem inBlock_lt {w : World} {s : Value} {zs : List Nat} (h : bytesIn w s zs) {b : Nat} (hb : inBlock s b) : b < w.heap.size := by
  obtain ⟨off, n, cap, rfl, hn⟩ := hb
  rcases h with ⟨⟨o, c', h, _⟩, _⟩ | ⟨b', off', cap', h, hlt, _⟩
  · simp only [Value.slice.injEq] at h
    omega
  · simp only [Value.slice.injEq, Option.some.injEq, Addr.mk.injEq] at h
    obtain ⟨⟨rfl, _⟩, _⟩ := h
    exact hlt
theorem isR_lt (w : World) (v : Value) (l : List Bool) (t : Nat) (O : Nat → Prop) (h : isR w v l t O) : ∀ k, O k → k < w.heap.size := by
  obtain ⟨g, g', s, zs, hh, ho, _, _, _, _, rfl⟩ := h
  rintro k (rfl | rfl | hk)
  · exact hh.lt.1
  · exact hh.lt.2
  · exact inBlock_lt ho hk
theorem isR_keep (w w' : World) (v : Value) (l : List Bool) (t : Nat) (O : Nat → Prop) (h : isR w v l t O) (hs : w.heap.size ≤ w'.heap.size) (hk : ∀ k, O k → w'.heap[k]? = w.heap[k]?) : isR w' v l t O := by
  obtain ⟨g, g', s, zs, hh, ho, h1, h2, h3, h4, rfl⟩ := h
  exact ⟨g, g', s, zs, hh.kept (hk g (.inl rfl)) (hk g' (.inr (.inl rfl))), listed_kept ho hs (fun b hb => hk b (.inr (.inr hb))), h1, h2, h3, h4, rfl⟩
theorem i64_and7 (n : Int) : bits .and .i64 n 7 = n % 8 := by
  have h7 : (BitVec.ofInt 64 7).toNat = 2 ^ 3 - 1 := by decide
  have key : (BitVec.ofInt 64 n &&& BitVec.ofInt 64 7).toNat = (n % ((2 ^ 64 : Nat) : Int)).toNat % 2 ^ 3 := by
    rw [BitVec.toNat_and, BitVec.toNat_ofInt, h7, Nat.and_two_pow_sub_one_eq_mod]
  show IntKind.i64.wrap ((BitVec.ofInt 64 n &&& BitVec.ofInt 64 7).toNat : Nat) = n % 8
  rw [key, IntKind.wrap_i64]
  omega
theorem min_two (a b : Int) (w : World) : (Builtin.min_ #[3, 3] 3 #[.int .i64 a, .int .i64 b]).run Tryd.prog w = .ok (.int .i64 (min a b)) w := by
  have e : min a b = if b < a then b else a := by omega
  rw [e]
  simp [Builtin.min_, Builtin.min2]
theorem within_any (g' p k : Nat) (w : World) (hc : w.cell? ⟨g', 1, none⟩ = some (.int .i64 (p : Int))) (hp : p ≤ 8796093022208) (hk : k ≤ 32) :
    Calls Tryd.prog 76 #[.pointer (some ⟨g', 0, none⟩), .int .i64 (k : Int)] w fun e w' => e = .returned (.int .i64 ((min k (8 - p % 8) : Nat) : Int)) ∧ w = w' := by
  have hmin := fun w => min_two (k : Int) (8 - (p : Int) % 8) w
  have e : min (k : Int) (8 - (p : Int) % 8) = ((min k (8 - p % 8) : Nat) : Int) := by omega
  rw [e] at hmin
  clear e
  generalize min k (8 - p % 8) = m at *
  go_enter Tryd.func76, Tryd.ntmps76
  go_wp2
  go_ret
  first | exact ⟨rfl, rfl⟩ | simp
theorem toWhole_any (g' p : Nat) (w : World) (hc : w.cell? ⟨g', 1, none⟩ = some (.int .i64 (p : Int))) (hp : p ≤ 8796093022208) :
    Calls Tryd.prog 62 #[.pointer (some ⟨g', 0, none⟩)] w fun e w' => e = .returned (.int .i64 (((8 - p % 8) % 8 : Nat) : Int)) ∧ w = w' := by
  have ha := i64_and7 (-(p : Int))
  have e : (-(p : Int)) % 8 = (((8 - p % 8) % 8 : Nat) : Int) := by omega
  rw [e] at ha
  clear e
  generalize (8 - p % 8) % 8 = m at *
  go_enter Tryd.func62, Tryd.ntmps62
  go_wp2
  go_ret
  first | exact ⟨rfl, rfl⟩ | simp
set_option maxHeartbeats 1000000 in
theorem clone_any (s : Value) (zs : List Nat) (W : World) (hr : bytesIn W s zs) (hl : zs.length ≤ 140737488355328) :
    Calls Tryd.prog 61 #[s] W fun e w' => ∃ u, e = .returned u ∧ bytesIn w' u zs ∧ (∀ b, inBlock u b → W.heap.size ≤ b) ∧ Below W.heap.size W w' := by
  by_cases hn : s = .slice none 0 0
  · subst hn
    have hz : zs = [] := by
      rcases hr with ⟨_, rfl⟩ | ⟨b, off, cap, h, _⟩
      · rfl
      · cases h
    subst hz
    have hnil := fun w => run_eql_slice_nil (P := Tryd.prog) w 24 5 none 0 0 Tryd.underlying24
    go_enter Tryd.func61, Tryd.ntmps61
    go_wp2_with fail
    go_ret
    exact ⟨_, rfl, listed_none _ _, fun b hb => (by obtain ⟨off, n, cap, h, _⟩ := hb; cases h), Below.refl _ _⟩
  · obtain ⟨a, cap, rfl⟩ : ∃ a cap, s = .slice (some a) zs.length cap := by
      rcases hr with ⟨⟨o, cap, rfl, ho⟩, rfl⟩ | ⟨b, off, cap, rfl, _⟩
      · cases o with
        | none =>
          obtain rfl := ho rfl
          exact absurd rfl hn
        | some a => exact ⟨a, cap, rfl⟩
      · exact ⟨_, cap, rfl⟩
    clear hn
    have HR := Lib.hid hr
    have HL := Lib.hid hl
    obtain ⟨n, en⟩ : ∃ n, zs.length = n := ⟨_, rfl⟩
    have EN := Lib.hid en
    rw [en] at HR ⊢
    clear hr hl en
    have hnil := fun w => run_eql_slice_nil (P := Tryd.prog) w 24 5 (some a) n cap Tryd.underlying24
    go_enter Tryd.func61, Tryd.ntmps61
    go_wp2_with (at_builtin; refine wpList_append_listed (c := byteVal) rfl _ _ 24 rfl W.heap.size 5 (.int .u8 0) Tryd.underlying24 info8 rfl (fun _ => rfl) _ 0 [] rfl (World.ownsRow_made W #[] 0 (Nat.le_refl _) (by decide) rfl) _ zs rfl (listed_on HR.out ((Below.refl _ _).alloc (Nat.le_refl _) _)) (by have := HL.out; omega) (by simp) ?_)
    intro v' w' hown hgrow
    have hb := ((Below.refl W.heap.size W).alloc (Nat.le_refl _) (.cells #[] 5)).grown hgrow (by simp) (fun q hq => by simp [Value.ownBlock] at hq; omega)
    have hown : w'.ownsRow W.heap.size 5 1 v' zs.length (zs.map byteVal) := by first | exact hown | (rw [Nat.zero_add, List.nil_append] at hown; exact hown)
    go_wp2_with fail
    go_ret
    exact ⟨_, rfl, own_listed hown, fun b hb => own_fresh hown b hb, hb⟩
theorem two_new (W : World) (s p x : Value) (ty : TypeId) : ((W.alloc (.cells #[s, p] 107)).alloc (.cells #[x] ty)).heap[W.heap.size + 1]? = some (.cells #[x] ty (0, 0)) ∧ ((W.alloc (.cells #[s, p] 107)).alloc (.cells #[x] ty)).heap[W.heap.size]? = some (.cells #[s, p] 107 (0, 0)) ∧ Below W.heap.size W ((W.alloc (.cells #[s, p] 107)).alloc (.cells #[x] ty)) := by
  have hs0 : (W.alloc (.cells #[s, p] 107)).heap.size = W.heap.size + 1 := by
    show (W.heap.push _).size = _
    simp
  refine ⟨?_, alloc_old (heap_alloc_new W _), ((Below.refl _ _).alloc (Nat.le_refl _) _).alloc (by rw [hs0]; omega) _⟩
  rw [← hs0]
  exact heap_alloc_new _ _
theorem wnew_any (w : World) : Calls Tryd.prog 37 #[] w fun e w' => ∃ v O, e = .returned v ∧ isW w' v [] 0 O ∧ (∀ k, O k → w.heap.size ≤ k) ∧ Below w.heap.size w w' := by
  go_enter Tryd.func37, Tryd.ntmps37
  go_wp2_with fail
  go_ret
  obtain ⟨h1, h2, h3⟩ := two_new w (.slice none 0 0) (.int .i64 0) (.pointer (some ⟨w.heap.size, 0, none⟩)) 109
  refine ⟨_, _, rfl, ⟨w.heap.size + 1, w.heap.size, .slice none 0 0, ⟨by simp, h1, h2, by omega⟩, World.ownsRow_nil _ _ _ _, by simp [Value.ownBlock], by simp [Value.ownBlock], Nat.le_refl _, rfl⟩, ?_, h3⟩
  rintro k (rfl | rfl | hk)
  · omega
  · omega
  · simp [Value.ownBlock] at hk
theorem rnew_code (w : World) (b : Value) (zs : List Nat) (hr : bytesIn w b zs) (h8 : ∀ x ∈ zs, x < 256) (hl : zs.length ≤ 34359738368) :
    Calls Tryd.prog 48 #[b] w fun e w' => ∃ v O, e = .returned v ∧ isR w' v (bitsOfBytes zs) 0 O ∧ (∀ k, O k → w.heap.size ≤ k) ∧ Below w.heap.size w w' := by
  go_enter Tryd.func48, Tryd.ntmps48
  go_wp2_with fail
  go_at_call 61
  refine (clone_any b zs w hr (by omega)).mono ?_
  rintro e w1 ⟨u, rfl, h1, h2, h3⟩
  obtain ⟨uo, uc, rfl⟩ := listed_length h1
  obtain ⟨n, en⟩ : ∃ n, zs.length = n := ⟨_, rfl⟩
  have EN := Lib.hid en
  rw [en] at h1 h2 ⊢
  have H1 := Lib.hid h1
  have H2 := Lib.hid h2
  have H3 := Lib.hid h3
  have HL := Lib.hid h8
  clear h1 h2 h3 hr hl h8 en
  go_wp2_with fail
  go_ret
  obtain ⟨k1, k2, k3⟩ := two_new w1 (.slice uo n uc) (.int .i64 0) (.pointer (some ⟨w1.heap.size, 0, none⟩)) 126
  have hb := H3.out
  refine ⟨_, _, rfl, ⟨w1.heap.size + 1, w1.heap.size, .slice uo n uc, zs, ⟨by simp, k1, k2, by omega⟩, listed_on H1.out k3, HL.out, rfl, fun b hb => ?_, Nat.zero_le _, rfl⟩, ?_, hb.trans (k3.mono hb.size)⟩
  · have := inBlock_lt H1.out hb
    omega
  · have hz := hb.size
    rintro k (rfl | rfl | hk)
    · omega
    · exact hz
    · exact H2.out k hk
theorem bits_code (w : World) (v : Value) (l : List Bool) (t : Nat) (O : Nat → Prop) (h : isW w v l t O) : Calls Tryd.prog 77 #[v] w fun e w' => ∃ O', e = .returned (.int .i64 (l.length : Int)) ∧ isW w' v l t O' ∧ (∀ b, O' b → O b ∨ w.heap.size ≤ b) ∧ Past O w w' := by
  have H := Lib.hid h
  obtain ⟨g, g', s, hh, _⟩ := h
  obtain ⟨rfl, h1, h2, h3⟩ := hh
  have q0 := cell_of_block h1 0
  have q1 := cell_of_block h2 1
  clear h1 h2 h3
  generalize l.length = n at *
  go_enter Tryd.func77, Tryd.ntmps77
  go_wp2_with fail
  go_ret
  exact ⟨O, rfl, H.out, fun b hb => .inl hb, Past.refl _ _⟩
theorem place_code (w : World) (v : Value) (l : List Bool) (t : Nat) (O : Nat → Prop) (h : isR w v l t O) : Calls Tryd.prog 50 #[v] w fun e w' => ∃ O', e = .returned (.int .i64 (t : Int)) ∧ isR w' v l t O' ∧ (∀ b, O' b → O b ∨ w.heap.size ≤ b) ∧ Past O w w' := by
  have H := Lib.hid h
  obtain ⟨g, g', s, zs, hh, _⟩ := h
  obtain ⟨rfl, h1, h2, h3⟩ := hh
  have q0 := cell_of_block h1 0
  have q1 := cell_of_block h2 1
  clear h1 h2 h3
  go_enter Tryd.func50, Tryd.ntmps50
  go_wp2_with fail
  go_ret
  exact ⟨O, rfl, H.out, fun b hb => .inl hb, Past.refl _ _⟩
/-- A reader whose place alone is another one. -/
theorem isR_moved {w w' : World} {g g' : Nat} {s : Value} {zs : List Nat} {t t' : Nat} (hh : Held 126 w (.pointer (some ⟨g, 0, none⟩)) g g' s t) (hb : bytesIn w s zs) (h8 : ∀ x ∈ zs, x < 256) (hd : ∀ b, inBlock s b → b ≠ g ∧ b ≠ g') (ht : t' ≤ (bitsOfBytes zs).length)
    (hs : w'.heap.size = w.heap.size) (hk : ∀ k, k ≠ g' → w'.heap[k]? = w.heap[k]?) (hl : w'.heap[g']? = some (.cells #[s, .int .i64 (t' : Int)] 107 (0, 0))) :
    isR w' (.pointer (some ⟨g, 0, none⟩)) (bitsOfBytes zs) t' (fun k => k = g ∨ k = g' ∨ inBlock s k) :=
  ⟨g, g', s, zs, ⟨rfl, (hk g hh.ne).trans hh.obj, hl, hh.ne⟩, listed_kept hb (Nat.le_of_eq hs.symm) (fun b hb => hk b (hd b hb).2), h8, rfl, hd, ht, rfl⟩
set_option maxRecDepth 100000 in
theorem ralign_code (w : World) (v : Value) (l : List Bool) (t : Nat) (O : Nat → Prop) (h : isR w v l t O) (hl : l.length ≤ 1099511627776) (ht : t ≤ l.length) :
    Calls Tryd.prog 95 #[v] w fun e w' => ∃ O', e = .returned (.int .i64 0) ∧ isR w' v l ((t + 7) / 8 * 8) O' ∧ (∀ b, O' b → O b ∨ w.heap.size ≤ b) ∧ Past O w w' := by
  obtain ⟨g, g', s, zs, hh, hb, h8, rfl, hd, _, rfl⟩ := h
  have HH := Lib.hid hh
  obtain ⟨rfl, h1, h2, h3⟩ := hh
  have HB := Lib.hid hb
  have H8 := Lib.hid h8
  have HD := Lib.hid hd
  have HT : Hid ((t + 7) / 8 * 8 ≤ (bitsOfBytes zs).length) := by
    show _ ≤ _
    rw [bitsOfBytes_length] at ht ⊢
    omega
  have H2 := Lib.hid h2
  have q0 := cell_of_block h1 0
  have q1 := cell_of_block h2 1
  have f1 := unfrozen_of_block h2 1
  have hsum : (t : Int) + ((8 - t % 8) % 8 : Nat) = (((t + 7) / 8 * 8 : Nat) : Int) := by omega
  have hT : (t + 7) / 8 * 8 ≤ 1099511627776 + 7 := by omega
  have ht2 : t ≤ 1099511627776 := by omega
  have KW : ∀ w', w'.cell? ⟨g', 1, none⟩ = some (.int .i64 (t : Int)) → Calls Tryd.prog 62 #[.pointer (some ⟨g', 0, none⟩)] w' fun e w'' => e = .returned (.int .i64 (((8 - t % 8) % 8 : Nat) : Int)) ∧ w'' = w' := fun w' hc => (toWhole_any g' t w' hc (by omega)).mono fun e w'' h => ⟨h.1, h.2.symm⟩
  clear h1 h2 h3 hb h8 hd ht hl
  generalize (t + 7) / 8 * 8 = T at *
  have bS : (8 - t % 8) % 8 ≤ 7 := by omega
  generalize (8 - t % 8) % 8 = S at *
  go_enter Tryd.func95, Tryd.ntmps95
  go_wp2_with fail
  refine wp_region_still_tail 15 (by kernel_rfl) (by kernel_rfl) ?_
  simp only [List.take_succ_cons, List.take_zero, List.drop_succ_cons, List.drop_zero]
  repeat still_step
  still_call (KW _ (by simpa using q1))
  repeat still_step
  refine wpStill_nil ?_
  change wpList _ _ _ _ _ w.drew
  go_wp2_with fail
  go_ret
  have hn : (w.setCell ⟨g', 1, none⟩ (.int .i64 (T : Int))).heap[g']? = some (.cells #[s, .int .i64 (T : Int)] 107 (0, 0)) := block_setCell H2.out _
  refine ⟨_, rfl, isR_moved (w' := (w.setCell ⟨g', 1, none⟩ (.int .i64 (T : Int))).drew) HH.out HB.out H8.out HD.out HT.out (by simp) (fun k hk => Below.heap_setCell _ _ _ k hk) hn, fun b hb => .inl hb, ?_⟩
  exact ⟨rfl, rfl, rfl, by simp, fun k _ hk => Below.heap_setCell _ _ _ k (fun h => hk (.inr (.inl h)))⟩
end Go.Proofs.YtbfpbmnnlckldaaDoor.Fx
