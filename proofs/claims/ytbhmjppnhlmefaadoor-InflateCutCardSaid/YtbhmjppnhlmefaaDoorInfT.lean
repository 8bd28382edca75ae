/-
  What deflate tells is told back: plain. No condition but those that are said.
-/
import Derived.Test.YtbhmjppnhlmefaaDoorDeflD
import Derived.Test.YtbhmjppnhlmefaaDoorInfP
namespace Go.Proofs.YtbhmjppnhlmefaaDoor.Fx
set_option linter.unusedVariables false
/-! ### Bits that are read -/
/-- These bits, wherever they stand, are read so; the bytes stay. -/
def Reads {α : Type} (x : Way α) (b : List Bool) (a : α) : Prop := ∀ (L : List Bool) (m : Nat) (s : St) (r : List Bool), s.pos ≤ L.length → L.drop s.pos = b ++ r → Says x L m s (.ok a ⟨s.pos + b.length, s.out⟩)
theorem drop_more {L b r : List Bool} {p : Nat} (hp : p ≤ L.length) (h : L.drop p = b ++ r) : L.drop (p + b.length) = r ∧ p + b.length ≤ L.length := by
  refine ⟨by rw [← List.drop_drop, h, List.drop_left' rfl], ?_⟩
  have := congrArg List.length h
  rw [List.length_drop, List.length_append] at this
  omega
theorem reads_get (n k : Nat) (h : n < 2 ^ k) : Reads (Way.get k) (bitsOf n k) n := by
  intro L m s r hp hd
  have e : numAt L s.pos k = n := by
    unfold numAt
    rw [hd, List.take_left' (bitsOf_length n k), numOf_small n k h]
  have h2 := (drop_more hp hd).2
  rw [bitsOf_length] at h2 ⊢
  have := Way.says_get (L := L) (m := m) (s := s) k h2
  rw [e] at this
  exact this
theorem reads_pure {α : Type} (a : α) : Reads (Way.pure a) [] a := fun L m s r _ _ => Way.says_pure a
theorem reads_bind {α β : Type} {x : Way α} {k : α → Way β} {b1 b2 : List Bool} {a : α} {c : β} (h1 : Reads x b1 a) (h2 : Reads (k a) b2 c) : Reads (x.bind k) (b1 ++ b2) c := by
  intro L m s r hp hd
  rw [List.append_assoc] at hd
  obtain ⟨hd2, hp2⟩ := drop_more hp hd
  refine Way.says_bind (h1 L m s _ hp hd) ?_
  have := h2 L m ⟨s.pos + b1.length, s.out⟩ r hp2 hd2
  rw [List.length_append, ← Nat.add_assoc]
  exact this
theorem reads_map {α β : Type} {x : Way α} {b : List Bool} {a : α} {f : α → β} (h : Reads x b a) : Reads (x.bind fun y => Way.pure (f y)) b (f a) := by
  have := reads_bind (k := fun y => Way.pure (f y)) h (reads_pure (f a))
  rwa [List.append_nil] at this
theorem reads_refuse {c : Prop} [Decidable c] (h : ¬ c) : Reads (refuseW c 10) [] () := by
  unfold refuseW
  rw [if_neg h]
  exact reads_pure ()
/-! ### Symbols by the fixed codes -/
def symBits (c : Cds) : Nat → Nat → Nat → Nat → Nat → List Bool → Option (Nat × List Bool)
  | n + 1, l, code, first, place, b :: r =>
    if 2 * code + (if b then 1 else 0) < 2 * first + c.counts.getD l 0 then some (c.syms.getD (place + (2 * code + (if b then 1 else 0)) - 2 * first) 0, r)
    else symBits c n (l + 1) (2 * code + (if b then 1 else 0)) (2 * first + c.counts.getD l 0) (place + c.counts.getD l 0) r
  | _, _, _, _, _, _ => none
theorem symBits_reads (c : Cds) (n l code first place : Nat) (b : List Bool) (x : Nat) (h : symBits c n l code first place b = some (x, [])) : Reads (symFrom c n l code first place) b x := by
  induction n generalizing l code first place b with
  | zero => cases b <;> cases h
  | succ n ih =>
    cases b with
    | nil => cases h
    | cons b bs =>
      have hg : Reads (Way.get 1) [b] (if b then 1 else 0) := by
        have := reads_get (if b then 1 else 0) 1 (by split <;> decide)
        have e : bitsOf (if b then 1 else 0) 1 = [b] := by cases b <;> rfl
        rwa [e] at this
      rw [symBits] at h
      have e : b :: bs = [b] ++ bs := rfl
      rw [e]
      generalize (if b = true then (1 : Nat) else 0) = v at hg h
      refine reads_bind hg ?_
      split
      · rename_i hc
        rw [if_pos hc] at h
        obtain ⟨h1, h2⟩ := Prod.mk.inj (Option.some.inj h)
        rw [h1, h2]
        exact reads_pure x
      · rename_i hc
        rw [if_neg hc] at h
        exact ih _ _ _ _ _ h
def fixCounts : List Nat := [0, 0, 0, 0, 0, 0, 0, 24, 152, 112, 0, 0, 0, 0, 0, 0]
def fixSyms : List Nat := (List.range 24).map (256 + ·) ++ (List.range 144) ++ (List.range 8).map (280 + ·) ++ (List.range 112).map (144 + ·)
set_option maxRecDepth 100000 in
theorem fixed_fst : fixedP.1 = ⟨fixCounts, fixSyms⟩ := by
  have h1 : countsOf fixedLens = fixCounts := by decide +kernel
  have h2 : (putSyms fixedLens fixCounts fixedLens.length).1 = fixSyms := by decide +kernel
  show newCds fixedLens = _
  unfold newCds
  rw [h1, h2]
def farCounts : List Nat := [0, 0, 0, 0, 0, 32, 0, 0, 0, 0, 0, 0, 0, 0, 0, 0]
theorem fixed_snd : fixedP.2 = ⟨farCounts, List.range 32⟩ := by
  have h1 : countsOf (List.replicate 32 5) = farCounts := by decide +kernel
  have h2 : (putSyms (List.replicate 32 5) farCounts 32).1 = List.range 32 := by decide +kernel
  show newCds (List.replicate 32 5) = _
  unfold newCds
  rw [h1, List.length_replicate, h2]
set_option maxRecDepth 100000 in
theorem fix_bits : ∀ x, x < 288 → symBits ⟨fixCounts, fixSyms⟩ 15 1 0 0 0 (fixedSym x) = some (x, []) := by decide +kernel
set_option maxRecDepth 100000 in
theorem far_bits : ∀ x, x < 32 → symBits ⟨farCounts, List.range 32⟩ 15 1 0 0 0 (turned x 5) = some (x, []) := by decide +kernel
theorem reads_fixed (x : Nat) (h : x < 288) : Reads (symW fixedP.1) (fixedSym x) x := by
  rw [fixed_fst]
  have hd : (⟨fixCounts, fixSyms⟩ : Cds).deepest = 15 := by
    unfold Cds.deepest
    rw [if_neg (fun h => absurd h.1 (by decide +kernel))]
  unfold symW
  rw [hd]
  exact symBits_reads _ _ _ _ _ _ _ _ (fix_bits x h)
theorem reads_far (x : Nat) (h : x < 32) : Reads (symW fixedP.2) (turned x 5) x := by
  rw [fixed_snd]
  have hd : (⟨farCounts, List.range 32⟩ : Cds).deepest = 15 := by
    unfold Cds.deepest
    rw [if_neg (fun h => absurd h.1 (by decide))]
  unfold symW
  rw [hd]
  exact symBits_reads _ _ _ _ _ _ _ _ (far_bits x h)
/-! ### Lengths and distances -/
theorem reads_grouped (code group v : Nat) (h : v < 2 ^ (code / group - 1)) : Reads (groupedW code group) (bitsOf v (code / group - 1)) ((code - group * (code / group - 1)) * 2 ^ (code / group - 1) + v) := reads_map (reads_get v _ h)
theorem lens_are : ∀ i, i < 28 → lext.getD i 0 = i / 4 - 1 ∧ lens.getD i 0 = 3 + (i - 4 * (i / 4 - 1)) * 2 ^ (i / 4 - 1) := by decide
theorem dists_are : ∀ i, i < 30 → dext.getD i 0 = i / 2 - 1 ∧ dists.getD i 0 = 1 + (i - 2 * (i / 2 - 1)) * 2 ^ (i / 2 - 1) := by decide
theorem reads_length (i v : Nat) (hi : i < 29) (hv : v < 2 ^ lext.getD i 0) : Reads (lengthW (257 + i)) (bitsOf v (lext.getD i 0)) (lens.getD i 0 + v) := by
  unfold lengthW
  have hr : Reads (refuseW (285 < 257 + i) 10) [] () := reads_refuse (by omega)
  have := reads_bind (k := fun _ => if 257 + i = 285 then Way.pure 258 else (groupedW (257 + i - 257) 4).bind fun n => Way.pure (3 + n)) (b2 := bitsOf v (lext.getD i 0)) (c := lens.getD i 0 + v) hr ?_
  · rwa [List.nil_append] at this
  · by_cases h28 : i = 28
    · subst h28
      have h0 : v = 0 := by
        have : lext.getD 28 0 = 0 := rfl
        rw [this] at hv
        simpa using hv
      subst h0
      exact reads_pure 258
    · obtain ⟨e1, e2⟩ := lens_are i (by omega)
      rw [if_neg (by omega), Nat.add_sub_cancel_left, e1, e2]
      rw [e1] at hv
      have h3 := reads_map (f := fun n => 3 + n) (reads_grouped i 4 v hv)
      rw [Nat.add_assoc]
      exact h3
theorem reads_distance (i v : Nat) (hi : i < 30) (hv : v < 2 ^ dext.getD i 0) : Reads (distanceW fixedP.2) (turned i 5 ++ bitsOf v (dext.getD i 0)) (dists.getD i 0 + v) := by
  obtain ⟨e1, e2⟩ := dists_are i hi
  refine reads_bind (reads_far i (by omega)) ?_
  have hr : Reads (refuseW (30 ≤ i) 10) [] () := reads_refuse (by omega)
  have := reads_bind (k := fun _ => (groupedW i 2).bind fun n => Way.pure (1 + n)) (b2 := bitsOf v (dext.getD i 0)) (c := dists.getD i 0 + v) hr ?_
  · rwa [List.nil_append] at this
  · rw [e1, e2]
    rw [e1] at hv
    have h3 := reads_map (f := fun n => 1 + n) (reads_grouped i 2 v hv)
    rw [Nat.add_assoc]
    exact h3
/-! ### Matches -/
theorem copy_said (d n : Nat) (L : List Bool) (m p : Nat) (out : List Nat) (h : out.length + n ≤ m) : Says (copyW d n) L m ⟨p, out⟩ (.ok () ⟨p, copies out d n⟩) := by
  induction n generalizing out with
  | zero => exact Way.says_pure ()
  | succ n ih =>
    refine Way.says_bind (Way.says_put _ (by simp only; omega)) ?_
    exact ih _ (by simp only [List.length_append, List.length_singleton]; omega)
theorem match_said (n d : Nat) (L : List Bool) (m p : Nat) (out : List Nat) (hd : d ≤ out.length) (h : out.length + n ≤ m) : Says (matchW n d) L m ⟨p, out⟩ (.ok () ⟨p, copies out d n⟩) :=
  Way.says_bind (Way.says_behind d hd) (Way.says_bind (Way.says_room n h) (copy_said d n L m p out h))
/-! ### Symbols up to the end -/
theorem symbols_put (all : List Nat) (to f i : Nat) (L r : List Bool) (m p : Nat) (h8 : ∀ x ∈ all, x < 256) (hi : i ≤ to) (ht : to ≤ all.length) (hf : to ≤ i + f) (hm : to ≤ m) (hp : p ≤ L.length) (hd : L.drop p = (toks all to f i).flatMap tokBits ++ (fixedSym 256 ++ r)) :
    Says (symbolsW fixedP) L m ⟨p, all.take i⟩ (.ok () ⟨p + ((toks all to f i).flatMap tokBits).length + (fixedSym 256).length, all.take to⟩) := by
  have hend : ∀ p, p ≤ L.length → L.drop p = fixedSym 256 ++ r → Says (symbolsW fixedP) L m ⟨p, all.take to⟩ (.ok () ⟨p + (fixedSym 256).length, all.take to⟩) := fun p hp hd => by
    refine Way.says_loop_stop ?_
    refine Way.says_bind (reads_fixed 256 (by decide) L m ⟨p, all.take to⟩ r hp hd) ?_
    rw [if_neg (by decide), if_pos rfl]
    exact Way.says_pure _
  induction f generalizing i p with
  | zero =>
    obtain rfl : i = to := by omega
    have e : (toks all i 0 i).flatMap tokBits = [] := by simp [toks]
    rw [e] at hd ⊢
    exact hend p hp hd
  | succ f ih =>
    by_cases hlt : i < to
    · unfold toks at hd ⊢
      rw [if_pos hlt] at hd ⊢
      by_cases h3 : 3 ≤ (matchOf all i to).1
      · rw [if_pos h3, List.flatMap_cons] at hd ⊢
        obtain ⟨m1, m2, m3, m4, m5⟩ := matchOf_spec all i to (by omega)
        generalize (matchOf all i to).1 = n at *
        generalize (matchOf all i to).2 = q at *
        obtain ⟨l1, l2, l3⟩ := lens_fit n h3 m1
        obtain ⟨d1, d2, d3⟩ := dists_fit (i - q) (by omega) (by omega)
        have hb : tokBits ⟨n, i - q, 0⟩ = fixedSym (257 + find lens n) ++ (bitsOf (n - lens.getD (find lens n) 0) (lext.getD (find lens n) 0) ++ (turned (find dists (i - q)) 5 ++ bitsOf (i - q - dists.getD (find dists (i - q)) 0) (dext.getD (find dists (i - q)) 0))) := by
          unfold tokBits
          rw [if_neg (show ¬ i - q = 0 by omega)]
          simp only [List.append_assoc]
        rw [hb] at hd ⊢
        have r1 := reads_fixed (257 + find lens n) (by omega)
        have r2 := reads_length (find lens n) (n - lens.getD (find lens n) 0) l1 l3
        have r3 := reads_distance (find dists (i - q)) (i - q - dists.getD (find dists (i - q)) 0) d1 d3
        rw [show lens.getD (find lens n) 0 + (n - lens.getD (find lens n) 0) = n by omega] at r2
        rw [show dists.getD (find dists (i - q)) 0 + (i - q - dists.getD (find dists (i - q)) 0) = i - q by omega] at r3
        generalize fixedSym (257 + find lens n) = B1 at *
        generalize bitsOf (n - lens.getD (find lens n) 0) (lext.getD (find lens n) 0) = B2 at *
        generalize turned (find dists (i - q)) 5 ++ bitsOf (i - q - dists.getD (find dists (i - q)) 0) (dext.getD (find dists (i - q)) 0) = B3 at *
        simp only [List.append_assoc] at hd
        obtain ⟨hd1, hp1⟩ := drop_more hp hd
        obtain ⟨hd2, hp2⟩ := drop_more hp1 hd1
        obtain ⟨hd3, hp3⟩ := drop_more hp2 hd2
        have hil : (all.take i).length = i := by rw [List.length_take]; omega
        have hmt := match_said n (i - q) L m (p + B1.length + B2.length + B3.length) (all.take i) (by rw [hil]; omega) (by rw [hil]; omega)
        rw [copies_same all n i q m2 (by omega) m5] at hmt
        have hstep : Says (symStep fixedP) L m ⟨p, all.take i⟩ (.ok (.inl ()) ⟨p + B1.length + B2.length + B3.length, all.take (i + n)⟩) := by
          refine Way.says_bind (r1 L m ⟨p, all.take i⟩ _ hp hd) ?_
          rw [if_neg (by omega), if_neg (by omega)]
          refine Way.says_bind (r2 L m ⟨p + B1.length, all.take i⟩ _ hp1 hd1) ?_
          refine Way.says_bind (r3 L m ⟨p + B1.length + B2.length, all.take i⟩ _ hp2 hd2) ?_
          exact Way.says_bind hmt (Way.says_pure _)
        have hrest := ih (i + n) (p + B1.length + B2.length + B3.length) m4 (by omega) hp3 hd3
        have e : p + (B1 ++ (B2 ++ B3) ++ (toks all to f (i + n)).flatMap tokBits).length + (fixedSym 256).length = p + B1.length + B2.length + B3.length + ((toks all to f (i + n)).flatMap tokBits).length + (fixedSym 256).length := by
          simp only [List.length_append]
          omega
        rw [e]
        exact Way.says_loop_next hstep hrest
      · rw [if_neg h3, List.flatMap_cons] at hd ⊢
        have hx : all.getD i 0 < 256 := by
          rw [List.getD_eq_getElem?_getD, List.getElem?_eq_getElem (by omega)]
          exact h8 _ (List.getElem_mem _)
        have hb : tokBits ⟨0, 0, all.getD i 0⟩ = fixedSym (all.getD i 0) := by
          unfold tokBits
          rw [if_pos rfl]
        rw [hb] at hd ⊢
        rw [List.append_assoc] at hd
        have r1 := reads_fixed (all.getD i 0) (by omega)
        obtain ⟨hd1, hp1⟩ := drop_more hp hd
        have e : all.take i ++ [all.getD i 0] = all.take (i + 1) := by
          rw [List.take_add_one, List.getD_eq_getElem?_getD, List.getElem?_eq_getElem (by omega)]
          rfl
        have hil : (all.take i).length = i := by rw [List.length_take]; omega
        have hstep : Says (symStep fixedP) L m ⟨p, all.take i⟩ (.ok (.inl ()) ⟨p + (fixedSym (all.getD i 0)).length, all.take (i + 1)⟩) := by
          refine Way.says_bind (r1 L m ⟨p, all.take i⟩ _ hp hd) ?_
          rw [if_pos hx]
          refine Way.says_bind (Way.says_room 1 (by simp only; rw [hil]; omega)) ?_
          refine Way.says_bind (Way.says_put _ (by simp only; rw [hil]; omega)) ?_
          simp only
          rw [e]
          exact Way.says_pure _
        have hrest := ih (i + 1) (p + (fixedSym (all.getD i 0)).length) (by omega) (by omega) hp1 hd1
        have e2 : p + (fixedSym (all.getD i 0) ++ (toks all to f (i + 1)).flatMap tokBits).length + (fixedSym 256).length = p + (fixedSym (all.getD i 0)).length + ((toks all to f (i + 1)).flatMap tokBits).length + (fixedSym 256).length := by
          rw [List.length_append]
          omega
        rw [e2]
        exact Way.says_loop_next hstep hrest
    · obtain rfl : i = to := by omega
      unfold toks at hd ⊢
      rw [if_neg hlt] at hd ⊢
      exact hend p hp hd
end Go.Proofs.YtbhmjppnhlmefaaDoor.Fx
