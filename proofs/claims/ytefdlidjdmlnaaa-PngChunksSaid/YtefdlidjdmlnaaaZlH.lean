/-
  A writer of zlib at work: what it has told by then. The conditions stand in each.
-/
import Derived.Test.YtefdlidjdmlnaaaZlF
namespace Go.Proofs.Ytefdlidjdmlnaaa.Fx
open Go Go.RowKit Go.Joins
set_option linter.unusedVariables false
/-- What a writer has told by then. -/
def ztOf (all : List Nat) (begun : Bool) : List Nat := if begun then 120 :: 1 :: toldOf all else []
theorem told_none : toldOf [] = [] := rfl
theorem zt_more (all zs : List Nat) (begun : Bool) (h : begun = false → all = []) : ztOf all begun ++ (headOf begun ++ nextOf all zs) = ztOf (all ++ zs) true := by
  have hm : toldOf all ++ nextOf all zs = toldOf (all ++ zs) := told_more all zs
  cases begun with
  | true =>
    show 120 :: 1 :: toldOf all ++ ([] ++ nextOf all zs) = 120 :: 1 :: toldOf (all ++ zs)
    rw [← hm]
    rfl
  | false =>
    obtain rfl := h rfl
    show [] ++ ([120, 1] ++ nextOf [] zs) = 120 :: 1 :: toldOf ([] ++ zs)
    rw [← hm, told_none]
    rfl
theorem zt_end (all : List Nat) (begun : Bool) (h : begun = false → all = []) : ztOf all begun ++ (headOf begun ++ restOf all ++ fourOf (sumOf all)) = streamOf all := by
  have hm : toldOf all ++ restOf all = wholeOf all := told_end all
  unfold streamOf
  cases begun with
  | true =>
    show 120 :: 1 :: toldOf all ++ ([] ++ restOf all ++ fourOf (sumOf all)) = _
    rw [← hm, List.nil_append, List.append_assoc, List.cons_append, List.cons_append]
  | false =>
    obtain rfl := h rfl
    show [] ++ ([120, 1] ++ restOf [] ++ fourOf (sumOf [])) = _
    rw [← hm, told_none]
    rfl
theorem zwrite_on {W w : World} {v : Value} {all : List Nat} {begun : Bool} {O : Nat → Prop} (hd : isZW w v all begun O) (hbg : begun = false → all = []) (hO : ∀ k, O k → W.heap.size ≤ k) (hB : Below W.heap.size W w) (bv : Value) (zs : List Nat) (hb : bytesIn w bv zs) (h8 : ∀ x ∈ all ++ zs, x < 256) (hbO : ∀ b, inBlock bv b → ¬ O b) (hl : (all ++ zs).length ≤ 100000000) :
    Calls Try.prog 47 #[v, bv] w fun e w' => ∃ u xs O', e = .returned (.tuple #[u, .int .i64 0]) ∧ Hid (ztOf all begun ++ xs = ztOf (all ++ zs) true) ∧ Hid (bytesIn w' u xs) ∧ Hid (∀ b, inBlock u b → ¬ O' b) ∧ Hid (isZW w' v (all ++ zs) true O') ∧ Hid (∀ k, O' k → W.heap.size ≤ k) ∧ Hid (∀ k, O' k → O k ∨ w.heap.size ≤ k) ∧ Hid (Past O w w') ∧ Hid (Below W.heap.size W w') ∧ Hid (w'.ownsRow w.heap.size 5 1 u xs.length (xs.map byteVal) ∧ (∀ k, u.ownBlock = some k → ¬ O' k) ∧ xs.length ≤ 200000002) := by
  refine (zwrite_code w v bv all zs begun O hd hb h8 hbO hl).mono ?_
  rintro e w' ⟨u, O', rfl, j1, j2, j3, j4, j5, j6, j7⟩
  exact ⟨u, _, O', rfl, zt_more all zs begun hbg, j1, fun b hb => (j2 b hb).2, j3, fun k hk => (j4 k hk).elim (hO k) (fun h => Nat.le_trans hB.size h), j4, j5, hB.trans (j5.below hO hB.size), j6, j7, by have := headOf_two begun; have := nextOf_length all zs hl; rw [List.length_append]; omega⟩
theorem zend_on {W w : World} {v : Value} {all : List Nat} {begun : Bool} {O : Nat → Prop} (hd : isZW w v all begun O) (hbg : begun = false → all = []) (hO : ∀ k, O k → W.heap.size ≤ k) (hB : Below W.heap.size W w) (h8 : ∀ x ∈ all, x < 256) (hl : all.length ≤ 100000000) :
    Calls Try.prog 49 #[v] w fun e w' => ∃ u xs O', e = .returned (.tuple #[u, .int .i64 0]) ∧ Hid (ztOf all begun ++ xs = streamOf all) ∧ Hid (bytesIn w' u xs) ∧ Hid (∀ b, inBlock u b → ¬ O' b) ∧ Hid (isZE w' v O') ∧ Hid (∀ k, O' k → O k) ∧ Hid (Past O w w') ∧ Hid (Below W.heap.size W w') := by
  refine (zend_code w v all begun O hd h8 hl).mono ?_
  rintro e w' ⟨u, O', rfl, j1, j2, j3, j4, j5⟩
  exact ⟨u, _, O', rfl, zt_end all begun hbg, j1, fun b hb => (j2 b hb).2, j3, j4, j5, hB.trans (j5.below hO hB.size)⟩
theorem keep_over {w w' : World} {u : Value} {xs : List Nat} {O : Nat → Prop} (h : bytesIn w u xs) (hn : ∀ b, inBlock u b → ¬ O b) (k : Past O w w') : bytesIn w' u xs :=
  listed_kept h k.size (fun b hb => k.block b (inBlock_lt h hb) (hn b hb))
end Go.Proofs.Ytefdlidjdmlnaaa.Fx
