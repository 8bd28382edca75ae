/-
  Plain inflate: codes of lengths, symbols, blocks of all three kinds, as ways. No condition but those that are said.
-/
import Derived.Test.YtbfpbmnnlckldaaDoorInfW
namespace Go.Proofs.YtbfpbmnnlckldaaDoor.Fx
set_option linter.unusedVariables false
open Way
def refuseW (c : Prop) [Decidable c] (e : Nat) : Way Unit := if c then fail e else pure ()
/-! ### Codes -/
/-- How many symbols have each length, and the symbols by rising codes. -/
structure Cds where
  counts : List Nat
  syms : List Nat
def countsOf (ls : List Nat) : List Nat := (ls.foldl (fun c l => c.set l (c.getD l 0 + 1)) (List.replicate 16 0)).set 0 0
/-- Where the symbols of each length begin: n lengths from number l on, 'all' ahead of them. -/
def placesOf (counts : List Nat) : List Nat := (List.range 16).map fun l => (counts.take l).sum
def putSym (x : Nat) (l : Nat) (a : List Nat × List Nat) : List Nat × List Nat := if 0 < l then (a.1.set (a.2.getD l 0) x, a.2.set l (a.2.getD l 0 + 1)) else a
def putSyms (ls : List Nat) (counts : List Nat) : Nat → List Nat × List Nat
  | 0 => (List.replicate counts.sum 0, placesOf counts)
  | x + 1 => putSym x (ls.getD x 0) (putSyms ls counts x)
def newCds (ls : List Nat) : Cds := ⟨countsOf ls, (putSyms ls (countsOf ls) ls.length).1⟩
def Cds.alone (c : Cds) : Prop := c.syms.length = 1 ∧ c.counts.getD 1 0 = 1
instance (c : Cds) : Decidable c.alone := inferInstanceAs (Decidable (_ ∧ _))
def kraft (counts : List Nat) : Nat → Nat
  | 0 => 0
  | l + 1 => kraft counts l + counts.getD l 0 * 2 ^ (15 - l)
def Cds.mayBe (c : Cds) : Prop := kraft c.counts 16 = 32768 ∨ c.alone
instance (c : Cds) : Decidable c.mayBe := inferInstanceAs (Decidable (_ ∨ _))
def Cds.deepest (c : Cds) : Nat := if c.alone then 1 else 15
/-! ### Symbols -/
def symFrom (c : Cds) : Nat → Nat → Nat → Nat → Nat → Way Nat
  | 0, _, _, _, _ => fail 10
  | n + 1, l, code, first, place => (get 1).bind fun b =>
      if 2 * code + b < 2 * first + c.counts.getD l 0 then pure (c.syms.getD (place + (2 * code + b) - 2 * first) 0)
      else symFrom c n (l + 1) (2 * code + b) (2 * first + c.counts.getD l 0) (place + c.counts.getD l 0)
def symW (c : Cds) : Way Nat := symFrom c c.deepest 1 0 0 0
def groupedW (code group : Nat) : Way Nat := (get (code / group - 1)).bind fun b => pure ((code - group * (code / group - 1)) * 2 ^ (code / group - 1) + b)
def lengthW (x : Nat) : Way Nat := (refuseW (285 < x) 10).bind fun _ => if x = 285 then pure 258 else (groupedW (x - 257) 4).bind fun n => pure (3 + n)
def distanceW (c : Cds) : Way Nat := (symW c).bind fun x => (refuseW (30 ≤ x) 10).bind fun _ => (groupedW x 2).bind fun n => pure (1 + n)
def copyW (d : Nat) : Nat → Way Unit
  | 0 => pure ()
  | n + 1 => (put fun o => o.getD (o.length - d) 0).bind fun _ => copyW d n
def matchW (n d : Nat) : Way Unit := (behind d).bind fun _ => (room n).bind fun _ => copyW d n
def symStep (p : Cds × Cds) : Way (Unit ⊕ Unit) := (symW p.1).bind fun x =>
  if x < 256 then (room 1).bind fun _ => (put fun _ => x).bind fun _ => pure (.inl ())
  else if x = 256 then pure (.inr ())
  else (lengthW x).bind fun n => (distanceW p.2).bind fun d => (matchW n d).bind fun _ => pure (.inl ())
def symbolsW (p : Cds × Cds) : Way Unit := loop (fun _ : Unit => symStep p) ()
/-! ### Stored blocks -/
def bytesW : Nat → Way Unit
  | 0 => pure ()
  | n + 1 => (get 8).bind fun x => (put fun _ => x).bind fun _ => bytesW n
def storedW : Way Unit := align.bind fun _ => (get 16).bind fun n => (get 16).bind fun k => (refuseW (¬ k = 65535 - n) 10).bind fun _ => (room n).bind fun _ => bytesW n
/-! ### Codes of a block's own -/
def order : List Nat := [16, 17, 18, 0, 8, 7, 9, 6, 10, 5, 11, 4, 12, 3, 13, 2, 14, 1, 15]
def ownFrom : Nat → Nat → List Nat → Way (List Nat)
  | 0, _, own => pure own
  | n + 1, i, own => (get 3).bind fun x => ownFrom n (i + 1) (own.set (order.getD i 0) x)
def addW (want : Nat) (ls : List Nat) (l times : Nat) : Way (List Nat) := (refuseW (want < ls.length + times) 10).bind fun _ => pure (ls ++ List.replicate times l)
def lenStep (c : Cds) (want : Nat) (ls : List Nat) : Way (List Nat ⊕ List Nat) :=
  if ls.length < want then (symW c).bind fun x =>
    if x = 16 then (get 2).bind fun t => (refuseW (ls.length = 0) 10).bind fun _ => (addW want ls (ls.getD (ls.length - 1) 0) (3 + t)).bind fun ls' => pure (.inl ls')
    else if x = 17 then (get 3).bind fun t => (addW want ls 0 (3 + t)).bind fun ls' => pure (.inl ls')
    else if x = 18 then (get 7).bind fun t => (addW want ls 0 (11 + t)).bind fun ls' => pure (.inl ls')
    else (addW want ls x 1).bind fun ls' => pure (.inl ls')
  else pure (.inr ls)
def lengthsW (c : Cds) (want : Nat) : Way (List Nat) := loop (lenStep c want) []
def ownPairW : Way (Cds × Cds) := (get 5).bind fun a => (get 5).bind fun b => (get 4).bind fun k => (ownFrom (k + 4) 0 (List.replicate 19 0)).bind fun own =>
  (refuseW (286 < a + 257 ∨ 30 < b + 1 ∨ ¬ (newCds own).mayBe) 10).bind fun _ => (lengthsW (newCds own) (a + 257 + (b + 1))).bind fun ls =>
  (refuseW (ls.getD 256 0 = 0) 10).bind fun _ => (refuseW (¬ (newCds (ls.take (a + 257))).mayBe) 10).bind fun _ =>
  (refuseW (¬ (newCds (ls.drop (a + 257))).mayBe ∧ 0 < (newCds (ls.drop (a + 257))).syms.length) 10).bind fun _ => pure (newCds (ls.take (a + 257)), newCds (ls.drop (a + 257)))
/-! ### Blocks -/
def fixedLens : List Nat := List.replicate 144 8 ++ List.replicate 112 9 ++ List.replicate 24 7 ++ List.replicate 8 8
def fixedP : Cds × Cds := (newCds fixedLens, newCds (List.replicate 32 5))
def blockW : Way Unit := (get 2).bind fun k => if k = 0 then storedW else if k = 1 then symbolsW fixedP else if k = 2 then ownPairW.bind symbolsW else fail 10
def blocksW : Way Unit := loop (fun _ : Unit => (get 1).bind fun l => blockW.bind fun _ => if l = 0 then pure (Sum.inl ()) else pure (Sum.inr ())) ()
/-! ### Codes fit -/
theorem counts_length (ls : List Nat) : (countsOf ls).length = 16 := by
  unfold countsOf
  rw [List.length_set]
  have : ∀ (ls c : List Nat), (ls.foldl (fun c l => c.set l (c.getD l 0 + 1)) c).length = c.length := by
    intro ls
    induction ls with
    | nil => intro c; rfl
    | cons l ls ih =>
      intro c
      rw [List.foldl_cons, ih, List.length_set]
  rw [this, List.length_replicate]
theorem getD_set (l : List Nat) (i j x : Nat) : (l.set i x).getD j 0 = if i = j ∧ j < l.length then x else l.getD j 0 := by
  rw [List.getD_eq_getElem?_getD, List.getD_eq_getElem?_getD, List.getElem?_set]
  by_cases h : i = j
  · subst h
    by_cases h2 : i < l.length
    · rw [if_pos rfl, if_pos h2, if_pos ⟨rfl, h2⟩]
      rfl
    · rw [if_pos rfl, if_neg h2, if_neg (fun h => h2 h.2), List.getElem?_eq_none (by omega)]
  · rw [if_neg h, if_neg (fun h2 => h h2.1)]
theorem counts_get (ls : List Nat) (l : Nat) (hl : l < 16) : (countsOf ls).getD l 0 = if l = 0 then 0 else ls.count l := by
  have key : ∀ (ls c : List Nat), c.length = 16 → (ls.foldl (fun c l => c.set l (c.getD l 0 + 1)) c).getD l 0 = c.getD l 0 + ls.count l := by
    intro ls
    induction ls with
    | nil => intro c _; rfl
    | cons x ls ih =>
      intro c hc
      rw [List.foldl_cons, ih _ (by rw [List.length_set]; exact hc), getD_set, List.count_cons]
      by_cases hx : x = l
      · subst hx
        rw [if_pos ⟨rfl, by omega⟩]
        simp
        omega
      · rw [if_neg (fun h => hx h.1)]
        simp [hx]
  unfold countsOf
  rw [getD_set]
  have hlen : ∀ (ls c : List Nat), (ls.foldl (fun c l => c.set l (c.getD l 0 + 1)) c).length = c.length := by
    intro ls
    induction ls with
    | nil => intro c; rfl
    | cons l ls ih =>
      intro c
      rw [List.foldl_cons, ih, List.length_set]
  by_cases h0 : l = 0
  · subst h0
    rw [if_pos ⟨rfl, by rw [hlen]; decide⟩, if_pos rfl]
  · rw [if_neg (fun h => h0 h.1.symm), if_neg h0, key _ _ rfl]
    have e : (List.replicate 16 0 : List Nat).getD l 0 = 0 := by
      rw [List.getD_eq_getElem?_getD, List.getElem?_replicate]
      split <;> rfl
    rw [e, Nat.zero_add]
theorem sum_take_succ (c : List Nat) (l : Nat) : (c.take (l + 1)).sum = (c.take l).sum + c.getD l 0 := by
  rw [List.take_add_one, List.sum_append]
  congr 1
  rw [List.getD_eq_getElem?_getD]
  cases c[l]? <;> simp
theorem sum_take_le (c : List Nat) (l : Nat) : (c.take l).sum ≤ c.sum := by
  conv => rhs; rw [← List.take_append_drop l c, List.sum_append]
  omega
theorem putSyms_fits (ls c : List Nat) (x : Nat) : (putSyms ls c x).1.length = c.sum ∧ (putSyms ls c x).2.length = 16 := by
  induction x with
  | zero => exact ⟨by unfold putSyms; rw [List.length_replicate], by unfold putSyms placesOf; simp⟩
  | succ x ih =>
    unfold putSyms putSym
    split
    · exact ⟨by simp only [List.length_set]; exact ih.1, by simp only [List.length_set]; exact ih.2⟩
    · exact ih
theorem putSyms_place (ls c : List Nat) (x l : Nat) (hx : x ≤ ls.length) (h0 : 0 < l) (hl : l < 16) : (putSyms ls c x).2.getD l 0 = (c.take l).sum + (ls.take x).count l := by
  induction x with
  | zero =>
    unfold putSyms placesOf
    simp [List.getD, hl]
  | succ x ih =>
    have ih := ih (by omega)
    unfold putSyms putSym
    rw [List.take_add_one, List.count_append, List.getElem?_eq_getElem (by omega)]
    have e : ls.getD x 0 = ls[x] := by rw [List.getD_eq_getElem?_getD, List.getElem?_eq_getElem (by omega)]; rfl
    rw [e]
    by_cases hp : 0 < ls[x]
    · rw [if_pos hp]
      simp only
      rw [getD_set, (putSyms_fits ls c x).2]
      by_cases hx2 : ls[x] = l
      · rw [if_pos ⟨hx2, hl⟩, hx2, ih]
        simp
        omega
      · rw [if_neg (fun h => hx2 h.1), ih]
        simp [hx2]
    · rw [if_neg hp, ih]
      have : ls[x] ≠ l := by omega
      simp [this]
/-- A symbol's place is one. -/
theorem putSyms_room (ls : List Nat) (x : Nat) (hx : x < ls.length) (h0 : 0 < ls.getD x 0) (h15 : ls.getD x 0 ≤ 15) : (putSyms ls (countsOf ls) x).2.getD (ls.getD x 0) 0 < (countsOf ls).sum := by
  rw [putSyms_place ls _ x _ (by omega) h0 (by omega)]
  have h1 := sum_take_succ (countsOf ls) (ls.getD x 0)
  have h2 := sum_take_le (countsOf ls) (ls.getD x 0 + 1)
  rw [counts_get ls _ (by omega), if_neg (by omega)] at h1
  have h3 : (ls.take x).count (ls.getD x 0) < ls.count (ls.getD x 0) := by
    have e : ls.getD x 0 = ls[x] := by rw [List.getD_eq_getElem?_getD, List.getElem?_eq_getElem hx]; rfl
    rw [e]
    have e2 : ls.count ls[x] = (ls.take x).count ls[x] + (ls.drop x).count ls[x] := by rw [← List.count_append, List.take_append_drop]
    rw [e2, List.drop_eq_getElem_cons hx, List.count_cons]
    simp
  omega
theorem newCds_length (ls : List Nat) : (newCds ls).syms.length = (countsOf ls).sum := (putSyms_fits ls _ _).1
theorem counts_sum (ls : List Nat) : (countsOf ls).sum ≤ ls.length := by
  have key : ∀ (ls c : List Nat), (ls.foldl (fun c l => c.set l (c.getD l 0 + 1)) c).sum ≤ c.sum + ls.length := by
    intro ls
    induction ls with
    | nil => intro c; simp
    | cons x ls ih =>
      intro c
      rw [List.foldl_cons]
      have h1 := ih (c.set x (c.getD x 0 + 1))
      have h2 : (c.set x (c.getD x 0 + 1)).sum ≤ c.sum + 1 := by
        by_cases hx : x < c.length
        · rw [List.set_eq_take_append_cons_drop, if_pos hx]
          have e : c.sum = (c.take x).sum + (c.getD x 0 + (c.drop (x + 1)).sum) := by
            conv => lhs; rw [← List.take_append_drop x c, List.sum_append, List.drop_eq_getElem_cons hx, List.sum_cons]
            rw [List.getD_eq_getElem?_getD, List.getElem?_eq_getElem hx]
            rfl
          rw [List.sum_append, List.sum_cons, e]
          omega
        · rw [List.set_eq_of_length_le (by omega)]
          omega
      rw [List.length_cons]
      omega
  unfold countsOf
  have h := key ls (List.replicate 16 0)
  have h2 : ∀ c : List Nat, (c.set 0 0).sum ≤ c.sum := by
    intro c
    cases c with
    | nil => simp
    | cons a c => simp
  have h3 := h2 (ls.foldl (fun c l => c.set l (c.getD l 0 + 1)) (List.replicate 16 0))
  have h4 : (List.replicate 16 0 : List Nat).sum = 0 := by decide
  omega
theorem newCds_below (ls : List Nat) (x : Nat) (hx : x ∈ (newCds ls).syms) : x < ls.length := by
  have hp : 0 < ls.length := by
    have h1 := newCds_length ls
    have h2 := counts_sum ls
    have h3 := List.length_pos_of_mem hx
    omega
  have key : ∀ n, n ≤ ls.length → ∀ x ∈ (putSyms ls (countsOf ls) n).1, x < ls.length := by
    intro n
    induction n with
    | zero =>
      intro _ x hx
      unfold putSyms at hx
      have := List.eq_of_mem_replicate hx
      omega
    | succ n ih =>
      intro hn x hx
      unfold putSyms putSym at hx
      split at hx
      · rcases List.mem_or_eq_of_mem_set hx with h | h
        · exact ih (by omega) x h
        · omega
      · exact ih (by omega) x hx
  exact key ls.length (Nat.le_refl _) x hx
end Go.Proofs.YtbfpbmnnlckldaaDoor.Fx
