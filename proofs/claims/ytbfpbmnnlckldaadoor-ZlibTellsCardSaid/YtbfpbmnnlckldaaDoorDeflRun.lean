/-
  The chapter's examples, as each statement asks them (awake). The conditions stand in each.
  A writer at work beside a row of what it has told. The conditions stand in each.
-/
import Derived.Test.YtbfpbmnnlckldaaDoorWinQ
import Derived.Test.YtbfpbmnnlckldaaDoorNums
import Derived.Test.YtbfpbmnnlckldaaDoorDeflY
namespace Go.Proofs.YtbfpbmnnlckldaaDoor.Fx
open Go Go.RowKit Go.Joins
set_option linter.unusedVariables false
theorem listed_row {α : Type} {c : α → Value} (w : World) (vals : Array Value) (ty : TypeId) (fr : Nat × Nat) (zs : List α) (cap : Nat) (hv : vals.toList = zs.map c) (hle : zs.length ≤ cap) : listed c (w.alloc (.cells vals ty fr)) (.slice (some ⟨w.heap.size, 0, none⟩) zs.length cap) zs := by
  refine .inr ⟨w.heap.size, 0, cap, rfl, ?_, hle, fun j z hj => ?_⟩
  · show _ < (w.heap.push _).size
    simp
  · rw [Nat.zero_add, cell_of_block (heap_alloc_new w _) j, ← Array.getElem?_toList, hv, List.getElem?_map, hj]
    rfl
theorem listed_drew {α : Type} {c : α → Value} {w : World} {v : Value} {zs : List α} (h : listed c w v zs) : listed c w.drew v zs := listed_on h (Below.refl _ _).drew
theorem below_one {w w' : World} {c : Obj} (h : Below (w.alloc c).heap.size (w.alloc c) w') : Below w.heap.size w w' :=
  (below_alloc1 w c).trans (h.mono (by show _ ≤ (w.heap.push _).size; simp))
theorem same_front (W w X : World) (front : Value) (a : Nat) (hf : Hid (bytesIn W front [1, 0, 1, 255, 254])) (ha : w.heap.size = a) (hX : X = w.alloc (.cells #[.int .u8 1, .int .u8 0, .int .u8 1, .int .u8 255, .int .u8 254] 5) ∨ X = (w.alloc (.cells #[.int .u8 1, .int .u8 0, .int .u8 1, .int .u8 255, .int .u8 254] 5)).drew) (hb : Below W.heap.size W w) :
    Calls Tryd.prog 12 #[front, .slice (some ⟨a, 0, none⟩) 5 5] X fun e w' => e = .returned (.bool true) ∧ X = w' := by
  subst ha
  have h1 : bytesIn X (.slice (some ⟨w.heap.size, 0, none⟩) 5 5) [1, 0, 1, 255, 254] ∧ Below w.heap.size w X := by
    rcases hX with rfl | rfl
    · exact ⟨listed_row w _ _ _ [1, 0, 1, 255, 254] 5 rfl (Nat.le_refl _), below_alloc1 w _⟩
    · exact ⟨listed_drew (listed_row w _ _ _ [1, 0, 1, 255, 254] 5 rfl (Nat.le_refl _)), (below_alloc1 w _).drew⟩
  exact same_yes _ _ _ _ (listed_on hf.out (hb.trans (h1.2.mono hb.size))) h1.1
theorem hid_step {a b c : World} (h2 : Below b.heap.size b c) (h1 : Below a.heap.size a b) : Hid (Below a.heap.size a c) := h1.trans (h2.mono h1.size)
theorem range_bytes : ∀ x ∈ List.range 256, x < 256 := fun x hx => List.mem_range.1 hx
set_option maxRecDepth 100000 in
theorem ex_front : ([1, 0, 1, 255, 254] ++ List.range 256).take 5 = [1, 0, 1, 255, 254] ∧ ([1, 0, 1, 255, 254] ++ List.range 256).drop 5 = List.range 256 ∧ ([1, 0, 1, 255, 254] ++ List.range 256).length = 261 := ⟨by rfl, by rfl, by simp⟩
end Go.Proofs.YtbfpbmnnlckldaaDoor.Fx
namespace Go.Proofs.YtbfpbmnnlckldaaDoor.Fx
open Go Go.RowKit Go.Joins
set_option linter.unusedVariables false
/-- A writer with these bytes written, and a row with these numbers. -/
def OutIs (W : World) (v ov : Value) (all out : List Nat) (w : World) : Prop :=
  ∃ O, isDW w v all O ∧ (∀ b, O b → W.heap.size ≤ b) ∧ w.ownsRow 0 5 1 ov out.length (out.map byteVal) ∧ (∀ k, ov.ownBlock = some k → W.heap.size ≤ k ∧ ¬ O k) ∧ Below W.heap.size W w
/-- Likewise, and what was told last. -/
def OutMid (W : World) (v ov : Value) (all out : List Nat) (u : Value) (xs : List Nat) (w : World) : Prop :=
  ∃ O, isDW w v all O ∧ (∀ b, O b → W.heap.size ≤ b) ∧ w.ownsRow 0 5 1 ov out.length (out.map byteVal) ∧ (∀ k, ov.ownBlock = some k → W.heap.size ≤ k ∧ ¬ O k) ∧ bytesIn w u xs ∧ (∀ b, inBlock u b → ¬ O b) ∧ Below W.heap.size W w
/-- Behind End: a row, and the last two that were told. -/
def OutFin (W : World) (ov : Value) (out : List Nat) (u : Value) (xs : List Nat) (v : Value) (ys : List Nat) (w : World) : Prop :=
  w.ownsRow 0 5 1 ov out.length (out.map byteVal) ∧ (∀ k, ov.ownBlock = some k → W.heap.size ≤ k) ∧ bytesIn w u xs ∧ bytesIn w v ys ∧ (∀ b, inBlock v b → ov.ownBlock ≠ some b) ∧ Below W.heap.size W w
theorem told_nil : toldOf [] = [] := rfl
theorem out_start {W w : World} {v : Value} {O : Nat → Prop} (h1 : isDW w v [] O) (h2 : ∀ b, O b → W.heap.size ≤ b) (h3 : Below W.heap.size W w) : OutIs W v (.slice none 0 0) [] (toldOf []) w :=
  ⟨O, h1, h2, World.ownsRow_nil _ _ _ _, fun k hk => (by cases hk), h3⟩
theorem write_run {W w : World} {v ov : Value} {all out : List Nat} (h : OutIs W v ov all out w) (bv : Value) (zs : List Nat) (hb : bytesIn w bv zs) (h8 : ∀ x ∈ all ++ zs, x < 256) (hbW : ∀ b, inBlock bv b → b < W.heap.size) (hl : (all ++ zs).length ≤ 100000000) :
    Calls Tryd.prog 23 #[v, bv] w fun e w' => ∃ u xs, e = .returned (.tuple #[u, .int .i64 0]) ∧ Hid (toldOf all ++ xs = toldOf (all ++ zs)) ∧ Hid (OutMid W v ov (all ++ zs) out u xs w') := by
  obtain ⟨O, h1, h2, h3, h4, h5⟩ := h
  refine (write_code w v bv all zs O h1 hb h8 (fun b hb ho => by have := hbW b hb; have := h2 b ho; omega) hl).mono ?_
  rintro e w' ⟨u, O', rfl, j1, j2, j3, j4, j5⟩
  have hs := h5.size
  refine ⟨u, _, rfl, told_more all zs, O', j3, fun b hb => (j4 b hb).elim (h2 b) (fun h => Nat.le_trans hs h), owns_kept h3 (fun k hk => j5.block k (h3.lt k hk).2 (h4 k hk).2), fun k hk => ⟨(h4 k hk).1, fun hO => ?_⟩, j1, fun b hb => (j2 b hb).2, past_below h5 j5 h2⟩
  rcases j4 k hO with h | h
  · exact (h4 k hk).2 h
  · have := (h3.lt k hk).2
    omega
theorem out_step {W w w' : World} {v ov ov' u : Value} {all out xs : List Nat} (h : OutMid W v ov all out u xs w) (k1 : w'.ownsRow 0 5 1 ov' (out.length + xs.length) ((out ++ xs).map byteVal)) (k2 : w.grownBy w' ov.ownBlock) (k3 : ∀ k, ov'.ownBlock = some k → ov.ownBlock = some k ∨ w.heap.size ≤ k) : OutIs W v ov' all (out ++ xs) w' := by
  obtain ⟨O, h1, h2, h3, h4, h5, h6, h7⟩ := h
  have hlt := isDW_lt _ _ _ _ h1
  refine ⟨O, isDW_keep _ _ _ _ _ h1 k2.size (fun k hk => k2.block k (hlt k hk) (fun e => (h4 k e.symm).2 hk)), h2, by rw [List.length_append]; exact k1, fun k hk => ?_, ?_⟩
  · rcases k3 k hk with h | h
    · exact h4 k h
    · exact ⟨Nat.le_trans h7.size h, fun hO => by have := hlt k hO; omega⟩
  · exact h7.grown k2 h7.size (fun q hq => (h4 q hq).1)
theorem end_run {W w : World} {v ov u : Value} {all out xs : List Nat} (h : OutMid W v ov all out u xs w) (h8 : ∀ x ∈ all, x < 256) (hl : all.length ≤ 100000000) :
    Calls Tryd.prog 24 #[v] w fun e w' => ∃ y ys, e = .returned (.tuple #[y, .int .i64 0]) ∧ Hid (toldOf all ++ ys = wholeOf all) ∧ Hid (OutFin W ov out u xs y ys w') := by
  obtain ⟨O, h1, h2, h3, h4, h5, h6, h7⟩ := h
  refine (end_code w v all O h1 h8 hl).mono ?_
  rintro e w' ⟨y, O', rfl, j1, j2, j3, j4, j5⟩
  refine ⟨y, _, rfl, told_end all, owns_kept h3 (fun k hk => j5.block k (h3.lt k hk).2 (h4 k hk).2), fun k hk => (h4 k hk).1, listed_past h5 j5 h6, j1, fun b hb e => ?_, past_below h7 j5 h2⟩
  rcases (j2 b hb).1 with h | h
  · exact (h4 b e).2 h
  · have := (h3.lt b e).2
    omega
theorem fin_step {W w w' : World} {ov ov' u v : Value} {out xs ys : List Nat} (h : OutFin W ov out u xs v ys w) (k1 : w'.ownsRow 0 5 1 ov' (out.length + xs.length) ((out ++ xs).map byteVal)) (k2 : w.grownBy w' ov.ownBlock) (k3 : ∀ k, ov'.ownBlock = some k → ov.ownBlock = some k ∨ w.heap.size ≤ k) :
    w'.ownsRow 0 5 1 ov' (out ++ xs).length ((out ++ xs).map byteVal) ∧ (∀ k, ov'.ownBlock = some k → W.heap.size ≤ k) ∧ bytesIn w' v ys ∧ Below W.heap.size W w' := by
  obtain ⟨h1, h2, h3, h4, h5, h6⟩ := h
  refine ⟨by rw [List.length_append]; exact k1, fun k hk => (k3 k hk).elim (h2 k) (fun h => Nat.le_trans h6.size h), listed_kept h4 k2.size (fun b hb => k2.block b (inBlock_lt h4 hb) (fun e => h5 b hb e.symm)), h6.grown k2 h6.size h2⟩
theorem told_length (all : List Nat) : (toldOf all).length ≤ all.length + 5 * (all.length / 4096 + 1) := by
  unfold toldOf
  rw [bytesAt_length]
  have := outOf_len all
  omega
theorem listed_low {α : Type} {c : α → Value} {W w w' : World} {v : Value} {zs : List α} (h : listed c w v zs) (hb : ∀ b, inBlock v b → b < W.heap.size) (h1 : Below W.heap.size W w) (h2 : Below W.heap.size W w') : listed c w' v zs := by
  rcases h with h | ⟨b, off, cap, rfl, hlt, hle, hc⟩
  · exact .inl h
  · by_cases h0 : zs.length = 0
    · refine .inl ⟨⟨_, cap, by rw [h0], fun h => by cases h⟩, List.eq_nil_of_length_eq_zero h0⟩
    · have hbW := hb b ⟨off, zs.length, cap, rfl, by omega⟩
      refine .inr ⟨b, off, cap, rfl, Nat.lt_of_lt_of_le hbW h2.size, hle, fun j z hz => ?_⟩
      exact (h2.cell (p := ⟨b, off + j, none⟩) hbW).trans ((h1.cell (p := ⟨b, off + j, none⟩) hbW).symm.trans (hc j z hz))
end Go.Proofs.YtbfpbmnnlckldaaDoor.Fx
