/-
  What inflate tells are bytes: plain. No condition.
-/
import Derived.Test.YtbfpbmnnlckldaaDoorInfP
namespace Go.Proofs.YtbfpbmnnlckldaaDoor.Fx
open Go
set_option linter.unusedVariables false
/-- What goes out behind bytes are bytes. -/
def Fits8 {α : Type} (x : Way α) : Prop := ∀ f L m s a t, x.run f L m s = some (.ok a t) → (∀ z ∈ s.out, z < 256) → ∀ z ∈ t.out, z < 256
theorem fits_pure {α : Type} (a : α) : Fits8 (Way.pure a) := fun f L m s b t h hs => by
  cases h
  exact hs
theorem fits_fail {α : Type} (e : Nat) : Fits8 (Way.fail e : Way α) := fun f L m s b t h hs => by cases h
theorem fits_get (k : Nat) : Fits8 (Way.get k) := fun f L m s b t h hs => by
  unfold Way.get at h
  simp only [Option.some.injEq] at h
  split at h
  · cases h
  · cases h
    exact hs
theorem fits_align : Fits8 Way.align := fun f L m s b t h hs => by
  cases h
  exact hs
theorem fits_room (n : Nat) : Fits8 (Way.room n) := fun f L m s b t h hs => by
  unfold Way.room at h
  simp only [Option.some.injEq] at h
  split at h
  · cases h
  · cases h
    exact hs
theorem fits_put (x : List Nat → Nat) (hx : ∀ o, (∀ z ∈ o, z < 256) → x o < 256) : Fits8 (Way.put x) := fun f L m s b t h hs => by
  unfold Way.put at h
  simp only [Option.some.injEq] at h
  split at h
  · cases h
  · cases h
    intro z hz
    rcases List.mem_append.1 hz with h' | h'
    · exact hs z h'
    · obtain rfl := List.mem_singleton.1 h'
      exact hx _ hs
theorem fits_behind (d : Nat) : Fits8 (Way.behind d) := fun f L m s b t h hs => by
  unfold Way.behind at h
  simp only [Option.some.injEq] at h
  split at h
  · cases h
  · cases h
    exact hs
theorem fits_bind {α β : Type} {x : Way α} {k : α → Way β} (hx : Fits8 x) (hk : ∀ a, Fits8 (k a)) : Fits8 (x.bind k) := fun f L m s b t h hs => by
  obtain ⟨a, u, h1, h2⟩ := Way.bind_ok h
  exact hk a _ _ _ _ _ _ h2 (hx _ _ _ _ _ _ h1 hs)
theorem fits_get8 {β : Type} {k : Nat → Way β} (hk : ∀ a, a < 256 → Fits8 (k a)) : Fits8 ((Way.get 8).bind k) := fun f L m s b t h hs => by
  obtain ⟨a, u, h1, h2⟩ := Way.bind_ok h
  have ha : a < 256 := by
    unfold Way.get at h1
    simp only [Option.some.injEq] at h1
    split at h1
    · cases h1
    · cases h1
      exact numAt_below L s.pos 8
  exact hk a ha _ _ _ _ _ _ h2 (fits_get 8 _ _ _ _ _ _ h1 hs)
theorem fits_loop {α β : Type} {step : β → Way (β ⊕ α)} (h : ∀ b, Fits8 (step b)) (b : β) : Fits8 (Way.loop step b) := by
  intro f L m s a t hr hs
  have key : ∀ n b s, Way.rounds step f L m n b s = some (.ok a t) → (∀ z ∈ s.out, z < 256) → ∀ z ∈ t.out, z < 256 := by
    intro n
    induction n with
    | zero => intro b s hr; cases hr
    | succ n ih =>
      intro b s hr hs
      rcases Way.rounds_ok hr with h1 | ⟨b', u, h1, h2⟩
      · exact h b _ _ _ _ _ _ h1 hs
      · exact ih b' u h2 (h b _ _ _ _ _ _ h1 hs)
  exact key f b s hr hs
theorem fits_refuse (c : Prop) [Decidable c] (e : Nat) : Fits8 (refuseW c e) := by
  unfold refuseW
  split
  · exact fits_fail e
  · exact fits_pure ()
theorem fits_sym (c : Cds) (n l code first place : Nat) : Fits8 (symFrom c n l code first place) := by
  induction n generalizing l code first place with
  | zero => exact fits_fail 10
  | succ n ih =>
    refine fits_bind (fits_get 1) fun b => ?_
    split
    · exact fits_pure _
    · exact ih _ _ _ _
theorem fits_symW (c : Cds) : Fits8 (symW c) := fits_sym c _ _ _ _ _
theorem fits_grouped (a b : Nat) : Fits8 (groupedW a b) := fits_bind (fits_get _) fun _ => fits_pure _
theorem fits_length (x : Nat) : Fits8 (lengthW x) := fits_bind (fits_refuse _ _) fun _ => by
  split
  · exact fits_pure _
  · exact fits_bind (fits_grouped _ _) fun _ => fits_pure _
theorem fits_distance (c : Cds) : Fits8 (distanceW c) := fits_bind (fits_symW c) fun _ => fits_bind (fits_refuse _ _) fun _ => fits_bind (fits_grouped _ _) fun _ => fits_pure _
theorem getD_small (o : List Nat) (i : Nat) (h : ∀ z ∈ o, z < 256) : o.getD i 0 < 256 := by
  rw [List.getD_eq_getElem?_getD]
  cases hi : o[i]? with
  | none => simp
  | some z => exact h z (List.mem_of_getElem? hi)
theorem fits_copy (d n : Nat) : Fits8 (copyW d n) := by
  induction n with
  | zero => exact fits_pure ()
  | succ n ih => exact fits_bind (fits_put _ fun o ho => getD_small o _ ho) fun _ => ih
theorem fits_match (n d : Nat) : Fits8 (matchW n d) := fits_bind (fits_behind d) fun _ => fits_bind (fits_room n) fun _ => fits_copy d n
theorem fits_symbols (p : Cds × Cds) : Fits8 (symbolsW p) := fits_loop (fun _ => fits_bind (fits_symW _) fun x => by
  split
  · rename_i hx
    exact fits_bind (fits_room 1) fun _ => fits_bind (fits_put _ fun _ _ => hx) fun _ => fits_pure _
  · split
    · exact fits_pure _
    · exact fits_bind (fits_length x) fun n => fits_bind (fits_distance _) fun d => fits_bind (fits_match n d) fun _ => fits_pure _) ()
theorem fits_bytes (n : Nat) : Fits8 (bytesW n) := by
  induction n with
  | zero => exact fits_pure ()
  | succ n ih => exact fits_get8 fun a ha => fits_bind (fits_put _ fun _ _ => ha) fun _ => ih
theorem fits_stored : Fits8 storedW := fits_bind fits_align fun _ => fits_bind (fits_get 16) fun n => fits_bind (fits_get 16) fun k => fits_bind (fits_refuse _ _) fun _ => fits_bind (fits_room n) fun _ => fits_bytes n
theorem fits_own (n i : Nat) (own : List Nat) : Fits8 (ownFrom n i own) := by
  induction n generalizing i own with
  | zero => exact fits_pure _
  | succ n ih => exact fits_bind (fits_get 3) fun _ => ih _ _
theorem fits_add (want : Nat) (ls : List Nat) (l n : Nat) : Fits8 (addW want ls l n) := fits_bind (fits_refuse _ _) fun _ => fits_pure _
theorem fits_lengths (c : Cds) (want : Nat) : Fits8 (lengthsW c want) := fits_loop (fun ls => by
  unfold lenStep
  split
  · refine fits_bind (fits_symW c) fun x => ?_
    split
    · exact fits_bind (fits_get 2) fun _ => fits_bind (fits_refuse _ _) fun _ => fits_bind (fits_add _ _ _ _) fun _ => fits_pure _
    · split
      · exact fits_bind (fits_get 3) fun _ => fits_bind (fits_add _ _ _ _) fun _ => fits_pure _
      · split
        · exact fits_bind (fits_get 7) fun _ => fits_bind (fits_add _ _ _ _) fun _ => fits_pure _
        · exact fits_bind (fits_add _ _ _ _) fun _ => fits_pure _
  · exact fits_pure _) []
theorem fits_ownPair : Fits8 ownPairW := fits_bind (fits_get 5) fun _ => fits_bind (fits_get 5) fun _ => fits_bind (fits_get 4) fun _ => fits_bind (fits_own _ _ _) fun _ => fits_bind (fits_refuse _ _) fun _ => fits_bind (fits_lengths _ _) fun _ =>
  fits_bind (fits_refuse _ _) fun _ => fits_bind (fits_refuse _ _) fun _ => fits_bind (fits_refuse _ _) fun _ => fits_pure _
theorem fits_block : Fits8 blockW := fits_bind (fits_get 2) fun k => by
  split
  · exact fits_stored
  · split
    · exact fits_symbols _
    · split
      · exact fits_bind fits_ownPair fun p => fits_symbols p
      · exact fits_fail 10
theorem fits_blocks : Fits8 blocksW := fits_loop (fun _ => fits_bind (fits_get 1) fun l => fits_bind fits_block fun _ => by
  split
  · exact fits_pure _
  · exact fits_pure _) ()
theorem told_bytes {L : List Bool} {m : Nat} {t : St} (h : Says blocksW L m ⟨0, []⟩ (.ok () t)) : ∀ z ∈ t.out, z < 256 := by
  obtain ⟨f, h⟩ := h
  exact fits_blocks _ _ _ _ _ _ h (fun z hz => by cases hz)
end Go.Proofs.YtbfpbmnnlckldaaDoor.Fx
