/-
  Codes in memory; whether there is one alone, how deep they are, a symbol, as landed. The conditions stand in each.
-/
import Derived.Test.YtbhmjppnhlmefaaDoorInfA
namespace Go.Proofs.YtbhmjppnhlmefaaDoor.Fx
open Go Go.RowKit Go.Joins
set_option linter.unusedVariables false
def natVal (n : Nat) : Value := .int .i64 (n : Int)
/-- Codes that lie at a place; K: the blocks that they read. -/
structure CodesAt (w : World) (b off : Nat) (c : Cds) (K : Nat → Prop) (v : Value) : Prop where
  counts : ∀ l, l < 16 → w.cell? ⟨b, off + l, none⟩ = some (.int .i64 (c.counts.getD l 0 : Nat))
  list : w.cell? ⟨b, off + 16, none⟩ = some v
  syms : listed natVal w v c.syms
  own : K = fun k => k = b ∨ inBlock v k
def isCd (w : World) (b off : Nat) (c : Cds) (K : Nat → Prop) : Prop := ∃ v, CodesAt w b off c K v
/-- Codes that are as they should be. -/
structure Fit (c : Cds) : Prop where
  len : c.counts.length = 16
  zero : c.counts.getD 0 0 = 0
  sum : c.syms.length = c.counts.sum
  few : c.counts.sum ≤ 400
  syms : ∀ x ∈ c.syms, x < 400
theorem newCds_fit (ls : List Nat) (h : ls.length ≤ 400) : Fit (newCds ls) where
  len := counts_length ls
  zero := by
    show (countsOf ls).getD 0 0 = 0
    rw [counts_get ls 0 (by decide), if_pos rfl]
  sum := newCds_length ls
  few := Nat.le_trans (counts_sum ls) h
  syms := fun x hx => Nat.lt_of_lt_of_le (newCds_below ls x hx) h
theorem inBlock_low {α : Type} {c : α → Value} {w : World} {s : Value} {zs : List α} (h : listed c w s zs) {b : Nat} (hb : inBlock s b) : b < w.heap.size := by
  obtain ⟨off, n, cap, rfl, hn⟩ := hb
  rcases h with ⟨⟨o, c', h, _⟩, _⟩ | ⟨b', off', cap', h, hlt, _⟩
  · simp only [Value.slice.injEq] at h
    omega
  · simp only [Value.slice.injEq, Option.some.injEq, Addr.mk.injEq] at h
    obtain ⟨⟨rfl, _⟩, _⟩ := h
    exact hlt
theorem isC_lt {w : World} {b off : Nat} {c : Cds} {K : Nat → Prop} (h : isCd w b off c K) : ∀ k, K k → k < w.heap.size := by
  obtain ⟨v, h⟩ := h
  intro k hk
  rw [h.own] at hk
  rcases hk with rfl | hk
  · exact World.block_lt_of_cell? w _ h.list
  · exact inBlock_low h.syms hk
theorem isC_keep {w w' : World} {b off : Nat} {c : Cds} {K : Nat → Prop} (h : isCd w b off c K) (hs : w.heap.size ≤ w'.heap.size) (hk : ∀ k, K k → w'.heap[k]? = w.heap[k]?) : isCd w' b off c K := by
  obtain ⟨v, h⟩ := h
  have ho := h.own
  subst ho
  have hb := hk b (.inl rfl)
  exact ⟨v, fun l hl => (World.cell?_of_block (a := ⟨b, off + l, none⟩) hb).trans (h.counts l hl), (World.cell?_of_block (a := ⟨b, off + 16, none⟩) hb).trans h.list, listed_kept h.syms hs (fun k hh => hk k (.inr hh)), rfl⟩
theorem isC_went {w w' : World} {b off : Nat} {c : Cds} {K O : Nat → Prop} (h : isCd w b off c K) (hp : Past O w w') (hK : ∀ k, K k → ¬ O k) : isCd w' b off c K :=
  isC_keep h hp.size (fun k hk => hp.block k (isC_lt h k hk) (hK k hk))
theorem alone_code (w : World) (b off : Nat) (c : Cds) (K : Nat → Prop) (h : isCd w b off c K) :
    Calls Tryd.prog 72 #[.pointer (some ⟨b, off, none⟩)] w fun e w' => e = .returned (.bool (decide c.alone)) ∧ w = w' := by
  obtain ⟨v, h⟩ := h
  have q1 := h.counts 1 (by decide)
  have q2 := h.list
  obtain ⟨vo, vc, rfl⟩ := listed_length h.syms
  have e : decide c.alone = (decide (c.syms.length = 1) && decide (c.counts.getD 1 0 = 1)) := by
    unfold Cds.alone
    simp
  rw [e]
  clear h e
  generalize c.syms.length = n at *
  generalize c.counts.getD 1 0 = k at *
  by_cases h1 : n = 1
  · by_cases h2 : k = 1
    · subst h1; subst h2
      go_enter Tryd.func72, Tryd.ntmps72
      go_wp2_with fail
      go_ret
      first | exact ⟨rfl, rfl⟩ | simp
    · subst h1
      have d2 : ((k : Int) == 1) = false := by simp; omega
      have d3 : decide (k = 1) = false := decide_eq_false h2
      rw [d3]
      go_enter Tryd.func72, Tryd.ntmps72
      go_wp2_with fail
      go_ret
      first | exact ⟨rfl, rfl⟩ | simp
  · have d2 : ((n : Int) == 1) = false := by simp; omega
    have d3 : decide (n = 1) = false := decide_eq_false h1
    rw [d3]
    go_enter Tryd.func72, Tryd.ntmps72
    go_wp2_with fail
    go_ret
    first | exact ⟨rfl, rfl⟩ | simp
theorem deepest_code (w : World) (b off : Nat) (c : Cds) (K : Nat → Prop) (h : isCd w b off c K) :
    Calls Tryd.prog 70 #[.pointer (some ⟨b, off, none⟩)] w fun e w' => e = .returned (.int .i64 (c.deepest : Nat)) ∧ w = w' := by
  have HA := alone_code w b off c K h
  clear h
  unfold Cds.deepest
  by_cases ha : c.alone
  · rw [decide_eq_true ha] at HA
    rw [if_pos ha]
    clear ha
    go_enter Tryd.func70, Tryd.ntmps70
    go_wp2_with fail
    go_at_call 72
    refine HA.mono ?_
    rintro e w1 ⟨rfl, rfl⟩
    go_wp2_with fail
    go_ret
    exact ⟨rfl, rfl⟩
  · rw [decide_eq_false ha] at HA
    rw [if_neg ha]
    clear ha
    go_enter Tryd.func70, Tryd.ntmps70
    go_wp2_with fail
    go_at_call 72
    refine HA.mono ?_
    rintro e w1 ⟨rfl, rfl⟩
    go_wp2_with fail
    go_ret
    exact ⟨rfl, rfl⟩
end Go.Proofs.YtbhmjppnhlmefaaDoor.Fx
