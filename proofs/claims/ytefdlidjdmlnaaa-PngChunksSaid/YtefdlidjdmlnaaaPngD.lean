/-
  What the document's Pieces does, as the laws want it; lists of numbers that are written out. The conditions stand in each.
-/
import Derived.Test.YtefdlidjdmlnaaaPngS
import Derived.Test.YtefdlidjdmlnaaaPngR
namespace Go.Proofs.Ytefdlidjdmlnaaa.Fx
open Go Go.RowKit Go.Joins
set_option linter.unusedVariables false
def piecesTo (w h : Nat) (px : Nat → Px) (k : Nat) : List (List Nat) := (List.range k).map (pieceAt w h px)
theorem piecesTo_length (w h : Nat) (px : Nat → Px) (k : Nat) : (piecesTo w h px k).length = k := by simp [piecesTo]
theorem piecesTo_next (w h : Nat) (px : Nat → Px) (k : Nat) : piecesTo w h px (k + 1) = piecesTo w h px k ++ [pieceAt w h px k] := by
  unfold piecesTo
  rw [List.range_succ, List.map_append]
  rfl
structure PDoes : Prop where
  pieces : ∀ (w h n : Nat) (px : Nat → Px) (pv : Value) (W : World), 1 ≤ w → w ≤ 1024 → 1 ≤ h → h ≤ 1024 → (∀ k, (px k).ok) → pixIn W pv n px → n ≤ w * h → n ≤ 100000 →
    Calls Try.prog 16 #[.int .i64 (w : Int), .int .i64 (h : Int), pv] W fun e w' => ∃ o c, e = .returned (.slice o n c) ∧ Hid (listsIn w' (.slice o n c) (piecesTo w h px n)) ∧ Hid (∀ q, inBlock (.slice o n c) q → W.heap.size ≤ q) ∧ Hid (Below W.heap.size W w')
theorem ints_fresh {w : World} {vals : Array Value} {ns : List Nat} {n : Nat} (c3 : vals.toList = ns.map nv) (c4 : ns.length = n) :
    numsList (w.alloc (.cells vals 3)) (.slice (some ⟨w.heap.size, 0, none⟩) n n) ns ∧ Below w.heap.size w (w.alloc (.cells vals 3)) := by
  subst c4
  refine ⟨.inr ⟨w.heap.size, 0, ns.length, rfl, ?_, Nat.le_refl _, fun j z hj => ?_⟩, (Below.refl _ _).alloc (Nat.le_refl _) _⟩
  · show _ < (w.heap.push _).size
    simp
  · rw [Nat.zero_add, cell_of_block (heap_alloc_new w _) j, ← Array.getElem?_toList, c3, List.getElem?_map, hj]
    rfl
/-- A literal held against a list that was told. -/
theorem sameints_new (W w : World) (p : Value) (vals : Array Value) (ns : List Nat) (n : Nat) (hp : numsList w p ns) (c3 : vals.toList = ns.map nv) (c4 : ns.length = n) (hl : ns.length ≤ 1000) (hb : Below W.heap.size W w) :
    Calls Try.prog 13 #[p, .slice (some ⟨w.heap.size, 0, none⟩) n n] (w.alloc (.cells vals 3)) fun e w' => e = .returned (.bool true) ∧ Hid (Below W.heap.size W w') := by
  have h1 := ints_fresh (w := w) c3 c4
  refine (sameInts_code p _ ns _ (listed_on hp h1.2) h1.1 (by omega)).mono ?_
  rintro e w' ⟨rfl, h⟩
  exact ⟨rfl, hb.trans ((h1.2.trans (h.out.mono h1.2.size)).mono hb.size)⟩
theorem piece_last (w h : Nat) (px : Nat → Px) (h1 : 1 = w * h) : 57 < (pieceAt w h px 0).length := by
  unfold pieceAt pieceOf
  have hl : decide (0 + 1 = w * h) = true := decide_eq_true h1
  rw [hl, if_pos rfl]
  have h0 : headAt w h 0 = pngHeadOf w h := rfl
  have hp : 4 ≤ (packedOf (decide (0 < 0)) (allAt w h px 0) (wroteOf (flagAt w h 0) (px 0).list) true).length := by
    unfold packedOf
    rw [if_pos rfl]
    simp only [List.length_append, fourOf_length]
    omega
  have hne : packedOf (decide (0 < 0)) (allAt w h px 0) (wroteOf (flagAt w h 0) (px 0).list) true ≠ [] := fun e => by rw [e] at hp; simp at hp
  rw [if_neg hne, List.length_append, List.length_append, h0, head_length, chunk_length _ _ rfl, chunk_length _ _ rfl]
  omega
theorem pix_fresh {w : World} {p : Px} : pixIn (w.alloc (.cells p.cells 39)) (.slice (some ⟨w.heap.size, 0, none⟩) 1 1) 1 (fun _ => p) := by
  refine .inr ⟨w.heap.size, 0, 1, rfl, Nat.le_refl _, by rw [alloc_size]; omega, fun i hi => ?_⟩
  obtain rfl : i = 0 := by omega
  have hx := heap_alloc_new w (.cells p.cells 39)
  exact ⟨cell_of_block hx 0, cell_of_block hx 1, cell_of_block hx 2, cell_of_block hx 3⟩
theorem lists_at {w : World} {o : Option Addr} {n c : Nat} {zss : List (List Nat)} (h : listsIn w (.slice o n c) zss) (k : Nat) (zs : List Nat) (hk : zss[k]? = some zs) : ∃ b off uo uc, o = some ⟨b, off, none⟩ ∧ b < w.heap.size ∧ w.cell? ⟨b, off + k, none⟩ = some (.slice uo zs.length uc) ∧ bytesIn w (.slice uo zs.length uc) zs := by
  obtain ⟨hl, hg⟩ := lists_get h
  have hkn : k < n := by rw [← hl]; exact (List.getElem?_eq_some_iff.1 hk).1
  obtain ⟨b, off, uo, uc, zs', e, hb, hz, hc, hr⟩ := hg k hkn
  rw [hk] at hz
  obtain rfl := Option.some.inj hz
  exact ⟨b, off, uo, uc, e, hb, hc, hr⟩
theorem ex32 : orderOf 3 2 = [0, 2, 1, 3, 4, 5] := by decide +kernel
theorem ex11 : orderOf 1 1 = [0] := by decide +kernel
theorem ex91 : orderOf 9 1 = [0, 8, 4, 2, 6, 1, 3, 5, 7] := by decide +kernel
def px1 : Px := ⟨1, 2, 3, 255⟩
theorem px1_small : px1.ok := by unfold px1 Px.ok; decide
theorem px1_ok : ∀ k : Nat, ((fun _ : Nat => px1) k).ok := fun _ => px1_small
end Go.Proofs.Ytefdlidjdmlnaaa.Fx
