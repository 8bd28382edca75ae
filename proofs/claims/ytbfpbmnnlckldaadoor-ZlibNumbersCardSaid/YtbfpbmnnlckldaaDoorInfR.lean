/-
  What deflate tells is told back: plain. No condition but those that are said.
  What deflate tells is told back, block by block; streams that are cut, behind which more stands, with less room: plain. No condition but those that are said.
  What is told, by bytes: with fewer, with more. No condition but those that are said.
  What deflate tells is told back: by bytes, plain.
-/
import Derived.Test.YtbfpbmnnlckldaaDoorDeflD
import Derived.Test.YtbfpbmnnlckldaaDoorInfP
import Derived.Test.YtbfpbmnnlckldaaDoorDeflW
namespace Go.Proofs.YtbfpbmnnlckldaaDoor.Fx
set_option linter.unusedVariables false
/-! ### Bits that are read -/
/-- These bits, wherever they stand, are read so; the bytes stay. -/
def Reads {α : Type} (x : Way α) (b : List Bool) (a : α) : Prop := ∀ (L : List Bool) (m : Nat) (s : St) (r : List Bool), s.pos ≤ L.length → L.drop s.pos = b ++ r → Says x L m s (.ok a ⟨s.pos + b.length, s.out⟩)
theorem drop_more {L b r : List Bool} {p : Nat} (hp : p ≤ L.length) (h : L.drop p = b ++ r) : L.drop (p + b.length) = r ∧ p + b.length ≤ L.length := by
  refine ⟨by rw [← List.drop_drop, h, List.drop_left' rfl], ?_⟩
  have := congrArg List.length h
  rw [List.length_drop, List.length_append] at this
  omega
theorem reads_get (n k : Nat) (h : n < 2 ^ k) : Reads (Way.get k) (bitsOf n k) n := by
  intro L m s r hp hd
  have e : numAt L s.pos k = n := by
    unfold numAt
    rw [hd, List.take_left' (bitsOf_length n k), numOf_small n k h]
  have h2 := (drop_more hp hd).2
  rw [bitsOf_length] at h2 ⊢
  have := Way.says_get (L := L) (m := m) (s := s) k h2
  rw [e] at this
  exact this
theorem reads_pure {α : Type} (a : α) : Reads (Way.pure a) [] a := fun L m s r _ _ => Way.says_pure a
theorem reads_bind {α β : Type} {x : Way α} {k : α → Way β} {b1 b2 : List Bool} {a : α} {c : β} (h1 : Reads x b1 a) (h2 : Reads (k a) b2 c) : Reads (x.bind k) (b1 ++ b2) c := by
  intro L m s r hp hd
  rw [List.append_assoc] at hd
  obtain ⟨hd2, hp2⟩ := drop_more hp hd
  refine Way.says_bind (h1 L m s _ hp hd) ?_
  have := h2 L m ⟨s.pos + b1.length, s.out⟩ r hp2 hd2
  rw [List.length_append, ← Nat.add_assoc]
  exact this
theorem reads_map {α β : Type} {x : Way α} {b : List Bool} {a : α} {f : α → β} (h : Reads x b a) : Reads (x.bind fun y => Way.pure (f y)) b (f a) := by
  have := reads_bind (k := fun y => Way.pure (f y)) h (reads_pure (f a))
  rwa [List.append_nil] at this
theorem reads_refuse {c : Prop} [Decidable c] (h : ¬ c) : Reads (refuseW c 10) [] () := by
  unfold refuseW
  rw [if_neg h]
  exact reads_pure ()
/-! ### Symbols by the fixed codes -/
def symBits (c : Cds) : Nat → Nat → Nat → Nat → Nat → List Bool → Option (Nat × List Bool)
  | n + 1, l, code, first, place, b :: r =>
    if 2 * code + (if b then 1 else 0) < 2 * first + c.counts.getD l 0 then some (c.syms.getD (place + (2 * code + (if b then 1 else 0)) - 2 * first) 0, r)
    else symBits c n (l + 1) (2 * code + (if b then 1 else 0)) (2 * first + c.counts.getD l 0) (place + c.counts.getD l 0) r
  | _, _, _, _, _, _ => none
theorem symBits_reads (c : Cds) (n l code first place : Nat) (b : List Bool) (x : Nat) (h : symBits c n l code first place b = some (x, [])) : Reads (symFrom c n l code first place) b x := by
  induction n generalizing l code first place b with
  | zero => cases b <;> cases h
  | succ n ih =>
    cases b with
    | nil => cases h
    | cons b bs =>
      have hg : Reads (Way.get 1) [b] (if b then 1 else 0) := by
        have := reads_get (if b then 1 else 0) 1 (by split <;> decide)
        have e : bitsOf (if b then 1 else 0) 1 = [b] := by cases b <;> rfl
        rwa [e] at this
      rw [symBits] at h
      have e : b :: bs = [b] ++ bs := rfl
      rw [e]
      generalize (if b = true then (1 : Nat) else 0) = v at hg h
      refine reads_bind hg ?_
      split
      · rename_i hc
        rw [if_pos hc] at h
        obtain ⟨h1, h2⟩ := Prod.mk.inj (Option.some.inj h)
        rw [h1, h2]
        exact reads_pure x
      · rename_i hc
        rw [if_neg hc] at h
        exact ih _ _ _ _ _ h
def fixCounts : List Nat := [0, 0, 0, 0, 0, 0, 0, 24, 152, 112, 0, 0, 0, 0, 0, 0]
def fixSyms : List Nat := (List.range 24).map (256 + ·) ++ (List.range 144) ++ (List.range 8).map (280 + ·) ++ (List.range 112).map (144 + ·)
set_option maxRecDepth 100000 in
theorem fixed_fst : fixedP.1 = ⟨fixCounts, fixSyms⟩ := by
  have h1 : countsOf fixedLens = fixCounts := by decide +kernel
  have h2 : (putSyms fixedLens fixCounts fixedLens.length).1 = fixSyms := by decide +kernel
  show newCds fixedLens = _
  unfold newCds
  rw [h1, h2]
def farCounts : List Nat := [0, 0, 0, 0, 0, 32, 0, 0, 0, 0, 0, 0, 0, 0, 0, 0]
theorem fixed_snd : fixedP.2 = ⟨farCounts, List.range 32⟩ := by
  have h1 : countsOf (List.replicate 32 5) = farCounts := by decide +kernel
  have h2 : (putSyms (List.replicate 32 5) farCounts 32).1 = List.range 32 := by decide +kernel
  show newCds (List.replicate 32 5) = _
  unfold newCds
  rw [h1, List.length_replicate, h2]
set_option maxRecDepth 100000 in
theorem fix_bits : ∀ x, x < 288 → symBits ⟨fixCounts, fixSyms⟩ 15 1 0 0 0 (fixedSym x) = some (x, []) := by decide +kernel
set_option maxRecDepth 100000 in
theorem far_bits : ∀ x, x < 32 → symBits ⟨farCounts, List.range 32⟩ 15 1 0 0 0 (turned x 5) = some (x, []) := by decide +kernel
theorem reads_fixed (x : Nat) (h : x < 288) : Reads (symW fixedP.1) (fixedSym x) x := by
  rw [fixed_fst]
  have hd : (⟨fixCounts, fixSyms⟩ : Cds).deepest = 15 := by
    unfold Cds.deepest
    rw [if_neg (fun h => absurd h.1 (by decide +kernel))]
  unfold symW
  rw [hd]
  exact symBits_reads _ _ _ _ _ _ _ _ (fix_bits x h)
theorem reads_far (x : Nat) (h : x < 32) : Reads (symW fixedP.2) (turned x 5) x := by
  rw [fixed_snd]
  have hd : (⟨farCounts, List.range 32⟩ : Cds).deepest = 15 := by
    unfold Cds.deepest
    rw [if_neg (fun h => absurd h.1 (by decide))]
  unfold symW
  rw [hd]
  exact symBits_reads _ _ _ _ _ _ _ _ (far_bits x h)
/-! ### Lengths and distances -/
theorem reads_grouped (code group v : Nat) (h : v < 2 ^ (code / group - 1)) : Reads (groupedW code group) (bitsOf v (code / group - 1)) ((code - group * (code / group - 1)) * 2 ^ (code / group - 1) + v) := reads_map (reads_get v _ h)
theorem lens_are : ∀ i, i < 28 → lext.getD i 0 = i / 4 - 1 ∧ lens.getD i 0 = 3 + (i - 4 * (i / 4 - 1)) * 2 ^ (i / 4 - 1) := by decide
theorem dists_are : ∀ i, i < 30 → dext.getD i 0 = i / 2 - 1 ∧ dists.getD i 0 = 1 + (i - 2 * (i / 2 - 1)) * 2 ^ (i / 2 - 1) := by decide
theorem reads_length (i v : Nat) (hi : i < 29) (hv : v < 2 ^ lext.getD i 0) : Reads (lengthW (257 + i)) (bitsOf v (lext.getD i 0)) (lens.getD i 0 + v) := by
  unfold lengthW
  have hr : Reads (refuseW (285 < 257 + i) 10) [] () := reads_refuse (by omega)
  have := reads_bind (k := fun _ => if 257 + i = 285 then Way.pure 258 else (groupedW (257 + i - 257) 4).bind fun n => Way.pure (3 + n)) (b2 := bitsOf v (lext.getD i 0)) (c := lens.getD i 0 + v) hr ?_
  · rwa [List.nil_append] at this
  · by_cases h28 : i = 28
    · subst h28
      have h0 : v = 0 := by
        have : lext.getD 28 0 = 0 := rfl
        rw [this] at hv
        simpa using hv
      subst h0
      exact reads_pure 258
    · obtain ⟨e1, e2⟩ := lens_are i (by omega)
      rw [if_neg (by omega), Nat.add_sub_cancel_left, e1, e2]
      rw [e1] at hv
      have h3 := reads_map (f := fun n => 3 + n) (reads_grouped i 4 v hv)
      rw [Nat.add_assoc]
      exact h3
theorem reads_distance (i v : Nat) (hi : i < 30) (hv : v < 2 ^ dext.getD i 0) : Reads (distanceW fixedP.2) (turned i 5 ++ bitsOf v (dext.getD i 0)) (dists.getD i 0 + v) := by
  obtain ⟨e1, e2⟩ := dists_are i hi
  refine reads_bind (reads_far i (by omega)) ?_
  have hr : Reads (refuseW (30 ≤ i) 10) [] () := reads_refuse (by omega)
  have := reads_bind (k := fun _ => (groupedW i 2).bind fun n => Way.pure (1 + n)) (b2 := bitsOf v (dext.getD i 0)) (c := dists.getD i 0 + v) hr ?_
  · rwa [List.nil_append] at this
  · rw [e1, e2]
    rw [e1] at hv
    have h3 := reads_map (f := fun n => 1 + n) (reads_grouped i 2 v hv)
    rw [Nat.add_assoc]
    exact h3
/-! ### Matches -/
theorem copy_said (d n : Nat) (L : List Bool) (m p : Nat) (out : List Nat) (h : out.length + n ≤ m) : Says (copyW d n) L m ⟨p, out⟩ (.ok () ⟨p, copies out d n⟩) := by
  induction n generalizing out with
  | zero => exact Way.says_pure ()
  | succ n ih =>
    refine Way.says_bind (Way.says_put _ (by simp only; omega)) ?_
    exact ih _ (by simp only [List.length_append, List.length_singleton]; omega)
theorem match_said (n d : Nat) (L : List Bool) (m p : Nat) (out : List Nat) (hd : d ≤ out.length) (h : out.length + n ≤ m) : Says (matchW n d) L m ⟨p, out⟩ (.ok () ⟨p, copies out d n⟩) :=
  Way.says_bind (Way.says_behind d hd) (Way.says_bind (Way.says_room n h) (copy_said d n L m p out h))
/-! ### Symbols up to the end -/
theorem symbols_put (all : List Nat) (to f i : Nat) (L r : List Bool) (m p : Nat) (h8 : ∀ x ∈ all, x < 256) (hi : i ≤ to) (ht : to ≤ all.length) (hf : to ≤ i + f) (hm : to ≤ m) (hp : p ≤ L.length) (hd : L.drop p = (toks all to f i).flatMap tokBits ++ (fixedSym 256 ++ r)) :
    Says (symbolsW fixedP) L m ⟨p, all.take i⟩ (.ok () ⟨p + ((toks all to f i).flatMap tokBits).length + (fixedSym 256).length, all.take to⟩) := by
  have hend : ∀ p, p ≤ L.length → L.drop p = fixedSym 256 ++ r → Says (symbolsW fixedP) L m ⟨p, all.take to⟩ (.ok () ⟨p + (fixedSym 256).length, all.take to⟩) := fun p hp hd => by
    refine Way.says_loop_stop ?_
    refine Way.says_bind (reads_fixed 256 (by decide) L m ⟨p, all.take to⟩ r hp hd) ?_
    rw [if_neg (by decide), if_pos rfl]
    exact Way.says_pure _
  induction f generalizing i p with
  | zero =>
    obtain rfl : i = to := by omega
    have e : (toks all i 0 i).flatMap tokBits = [] := by simp [toks]
    rw [e] at hd ⊢
    exact hend p hp hd
  | succ f ih =>
    by_cases hlt : i < to
    · unfold toks at hd ⊢
      rw [if_pos hlt] at hd ⊢
      by_cases h3 : 3 ≤ (matchOf all i to).1
      · rw [if_pos h3, List.flatMap_cons] at hd ⊢
        obtain ⟨m1, m2, m3, m4, m5⟩ := matchOf_spec all i to (by omega)
        generalize (matchOf all i to).1 = n at *
        generalize (matchOf all i to).2 = q at *
        obtain ⟨l1, l2, l3⟩ := lens_fit n h3 m1
        obtain ⟨d1, d2, d3⟩ := dists_fit (i - q) (by omega) (by omega)
        have hb : tokBits ⟨n, i - q, 0⟩ = fixedSym (257 + find lens n) ++ (bitsOf (n - lens.getD (find lens n) 0) (lext.getD (find lens n) 0) ++ (turned (find dists (i - q)) 5 ++ bitsOf (i - q - dists.getD (find dists (i - q)) 0) (dext.getD (find dists (i - q)) 0))) := by
          unfold tokBits
          rw [if_neg (show ¬ i - q = 0 by omega)]
          simp only [List.append_assoc]
        rw [hb] at hd ⊢
        have r1 := reads_fixed (257 + find lens n) (by omega)
        have r2 := reads_length (find lens n) (n - lens.getD (find lens n) 0) l1 l3
        have r3 := reads_distance (find dists (i - q)) (i - q - dists.getD (find dists (i - q)) 0) d1 d3
        rw [show lens.getD (find lens n) 0 + (n - lens.getD (find lens n) 0) = n by omega] at r2
        rw [show dists.getD (find dists (i - q)) 0 + (i - q - dists.getD (find dists (i - q)) 0) = i - q by omega] at r3
        generalize fixedSym (257 + find lens n) = B1 at *
        generalize bitsOf (n - lens.getD (find lens n) 0) (lext.getD (find lens n) 0) = B2 at *
        generalize turned (find dists (i - q)) 5 ++ bitsOf (i - q - dists.getD (find dists (i - q)) 0) (dext.getD (find dists (i - q)) 0) = B3 at *
        simp only [List.append_assoc] at hd
        obtain ⟨hd1, hp1⟩ := drop_more hp hd
        obtain ⟨hd2, hp2⟩ := drop_more hp1 hd1
        obtain ⟨hd3, hp3⟩ := drop_more hp2 hd2
        have hil : (all.take i).length = i := by rw [List.length_take]; omega
        have hmt := match_said n (i - q) L m (p + B1.length + B2.length + B3.length) (all.take i) (by rw [hil]; omega) (by rw [hil]; omega)
        rw [copies_same all n i q m2 (by omega) m5] at hmt
        have hstep : Says (symStep fixedP) L m ⟨p, all.take i⟩ (.ok (.inl ()) ⟨p + B1.length + B2.length + B3.length, all.take (i + n)⟩) := by
          refine Way.says_bind (r1 L m ⟨p, all.take i⟩ _ hp hd) ?_
          rw [if_neg (by omega), if_neg (by omega)]
          refine Way.says_bind (r2 L m ⟨p + B1.length, all.take i⟩ _ hp1 hd1) ?_
          refine Way.says_bind (r3 L m ⟨p + B1.length + B2.length, all.take i⟩ _ hp2 hd2) ?_
          exact Way.says_bind hmt (Way.says_pure _)
        have hrest := ih (i + n) (p + B1.length + B2.length + B3.length) m4 (by omega) hp3 hd3
        have e : p + (B1 ++ (B2 ++ B3) ++ (toks all to f (i + n)).flatMap tokBits).length + (fixedSym 256).length = p + B1.length + B2.length + B3.length + ((toks all to f (i + n)).flatMap tokBits).length + (fixedSym 256).length := by
          simp only [List.length_append]
          omega
        rw [e]
        exact Way.says_loop_next hstep hrest
      · rw [if_neg h3, List.flatMap_cons] at hd ⊢
        have hx : all.getD i 0 < 256 := by
          rw [List.getD_eq_getElem?_getD, List.getElem?_eq_getElem (by omega)]
          exact h8 _ (List.getElem_mem _)
        have hb : tokBits ⟨0, 0, all.getD i 0⟩ = fixedSym (all.getD i 0) := by
          unfold tokBits
          rw [if_pos rfl]
        rw [hb] at hd ⊢
        rw [List.append_assoc] at hd
        have r1 := reads_fixed (all.getD i 0) (by omega)
        obtain ⟨hd1, hp1⟩ := drop_more hp hd
        have e : all.take i ++ [all.getD i 0] = all.take (i + 1) := by
          rw [List.take_add_one, List.getD_eq_getElem?_getD, List.getElem?_eq_getElem (by omega)]
          rfl
        have hil : (all.take i).length = i := by rw [List.length_take]; omega
        have hstep : Says (symStep fixedP) L m ⟨p, all.take i⟩ (.ok (.inl ()) ⟨p + (fixedSym (all.getD i 0)).length, all.take (i + 1)⟩) := by
          refine Way.says_bind (r1 L m ⟨p, all.take i⟩ _ hp hd) ?_
          rw [if_pos hx]
          refine Way.says_bind (Way.says_room 1 (by simp only; rw [hil]; omega)) ?_
          refine Way.says_bind (Way.says_put _ (by simp only; rw [hil]; omega)) ?_
          simp only
          rw [e]
          exact Way.says_pure _
        have hrest := ih (i + 1) (p + (fixedSym (all.getD i 0)).length) (by omega) (by omega) hp1 hd1
        have e2 : p + (fixedSym (all.getD i 0) ++ (toks all to f (i + 1)).flatMap tokBits).length + (fixedSym 256).length = p + (fixedSym (all.getD i 0)).length + ((toks all to f (i + 1)).flatMap tokBits).length + (fixedSym 256).length := by
          rw [List.length_append]
          omega
        rw [e2]
        exact Way.says_loop_next hstep hrest
    · obtain rfl : i = to := by omega
      unfold toks at hd ⊢
      rw [if_neg hlt] at hd ⊢
      exact hend p hp hd
end Go.Proofs.YtbfpbmnnlckldaaDoor.Fx
namespace Go.Proofs.YtbfpbmnnlckldaaDoor.Fx
set_option linter.unusedVariables false
theorem refuse_ok {c : Prop} [Decidable c] {e : Nat} {L : List Bool} {m : Nat} {s : St} (h : ¬ c) : Says (refuseW c e) L m s (.ok () s) := by
  unfold refuseW
  rw [if_neg h]
  exact Way.says_pure ()
theorem bytes_said (zs : List Nat) (h8 : ∀ x ∈ zs, x < 256) (L r : List Bool) (m p : Nat) (out : List Nat) (hm : out.length + zs.length ≤ m) (hp : p ≤ L.length) (hd : L.drop p = bitsOfBytes zs ++ r) :
    Says (bytesW zs.length) L m ⟨p, out⟩ (.ok () ⟨p + 8 * zs.length, out ++ zs⟩) := by
  induction zs generalizing p out with
  | nil =>
    rw [List.append_nil]
    exact Way.says_pure ()
  | cons z zs ih =>
    have e : bitsOfBytes (z :: zs) = bitsOf z 8 ++ bitsOfBytes zs := by
      unfold bitsOfBytes
      rw [List.flatMap_cons]
    rw [e, List.append_assoc] at hd
    rw [List.length_cons] at hm ⊢
    have hz := h8 z (List.mem_cons_self ..)
    obtain ⟨hd1, hp1⟩ := drop_more hp hd
    have r1 := reads_get z 8 hz L m ⟨p, out⟩ _ hp hd
    rw [bitsOf_length] at r1 hd1 hp1
    have h2 := ih (fun x hx => h8 x (List.mem_cons_of_mem _ hx)) (p + 8) (out ++ [z]) (by rw [List.length_append, List.length_singleton]; omega) hp1 hd1
    refine Way.says_bind r1 (Way.says_bind (Way.says_put _ (by simp only; omega)) ?_)
    simp only
    rw [List.append_assoc, List.singleton_append] at h2
    rw [show p + 8 * (zs.length + 1) = p + 8 + 8 * zs.length by omega]
    exact h2
/-- A block that says what stands between two places. -/
def Blocks (l X : List Bool) (all : List Nat) (a to last : Nat) : Prop := ∀ (L r : List Bool) (m : Nat), to ≤ m → l.length ≤ L.length → L.drop l.length = X ++ r → ∃ u, Says (Way.get 1) L m ⟨l.length, all.take a⟩ (.ok last u) ∧ Says blockW L m u (.ok () ⟨l.length + X.length, all.take to⟩)
theorem block_fixed (l : List Bool) (all : List Nat) (a to last : Nat) (h8 : ∀ x ∈ all, x < 256) (ha : a ≤ to) (ht : to ≤ all.length) (hl : last < 2) :
    ∃ X, fixedBlock l (tokens all a to) last = l ++ X ∧ Blocks l X all a to last := by
  refine ⟨bitsOf last 1 ++ (bitsOf 1 2 ++ ((tokens all a to).flatMap tokBits ++ fixedSym 256)), by unfold fixedBlock; simp only [List.append_assoc], ?_⟩
  intro L r m hm hp hd
  simp only [List.append_assoc] at hd
  obtain ⟨hd1, hp1⟩ := drop_more hp hd
  obtain ⟨hd2, hp2⟩ := drop_more hp1 hd1
  refine ⟨_, reads_get last 1 (by omega) L m ⟨l.length, all.take a⟩ _ hp hd, ?_⟩
  refine Way.says_bind (reads_get 1 2 (by decide) L m ⟨l.length + (bitsOf last 1).length, all.take a⟩ _ hp1 hd1) ?_
  rw [if_neg (by decide), if_pos rfl]
  have h := symbols_put all to (to - a) a L r m _ h8 ha ht (by omega) hm hp2 hd2
  have e : (bitsOf last 1 ++ (bitsOf 1 2 ++ ((tokens all a to).flatMap tokBits ++ fixedSym 256))).length = (bitsOf last 1).length + (bitsOf 1 2).length + ((toks all to (to - a) a).flatMap tokBits).length + (fixedSym 256).length := by
    simp only [List.length_append]
    unfold tokens
    omega
  rw [e]
  simp only [← Nat.add_assoc]
  exact h
theorem block_stored (l : List Bool) (all : List Nat) (a to last : Nat) (h8 : ∀ x ∈ all, x < 256) (ha : a ≤ to) (ht : to ≤ all.length) (hs : to - a < 65536) (hl : last < 2) :
    ∃ X, storedBlock l ((all.take to).drop a) last = l ++ X ∧ Blocks l X all a to last := by
  have hz : ((all.take to).drop a).length = to - a := by rw [List.length_drop, List.length_take]; omega
  have hcat : all.take a ++ (all.take to).drop a = all.take to := by
    have := List.take_append_drop a (all.take to)
    rwa [List.take_take, Nat.min_eq_left ha] at this
  have hz8 : ∀ x ∈ (all.take to).drop a, x < 256 := fun x hx => h8 x (List.mem_of_mem_take (List.mem_of_mem_drop hx))
  have hal : (all.take a).length = a := by rw [List.length_take]; omega
  generalize (all.take to).drop a = zs at *
  have hpl : (l ++ bitsOf last 1 ++ bitsOf 0 2).length = l.length + 3 := by rw [List.length_append, List.length_append, bitsOf_length, bitsOf_length]
  refine ⟨bitsOf last 1 ++ (bitsOf 0 2 ++ (List.replicate ((8 - (l.length + 3) % 8) % 8) false ++ (bitsOf zs.length 16 ++ (bitsOf (65535 - zs.length) 16 ++ bitsOfBytes zs)))), ?_, ?_⟩
  · unfold storedBlock aligned
    rw [hpl]
    simp only [List.append_assoc]
  · intro L r m hm hp hd
    simp only [List.append_assoc] at hd
    obtain ⟨hd1, hp1⟩ := drop_more hp hd
    obtain ⟨hd2, hp2⟩ := drop_more hp1 hd1
    obtain ⟨hd3, hp3⟩ := drop_more hp2 hd2
    obtain ⟨hd4, hp4⟩ := drop_more hp3 hd3
    obtain ⟨hd5, hp5⟩ := drop_more hp4 hd4
    refine ⟨_, reads_get last 1 (by omega) L m ⟨l.length, all.take a⟩ _ hp hd, ?_⟩
    refine Way.says_bind (reads_get 0 2 (by decide) L m ⟨l.length + (bitsOf last 1).length, all.take a⟩ _ hp1 hd1) ?_
    rw [if_pos rfl]
    have hal2 : (l.length + (bitsOf last 1).length + (bitsOf 0 2).length + 7) / 8 * 8 = l.length + (bitsOf last 1).length + (bitsOf 0 2).length + (List.replicate ((8 - (l.length + 3) % 8) % 8) false).length := by
      rw [bitsOf_length, bitsOf_length, List.length_replicate]
      omega
    refine Way.says_bind (a := ()) (u := ⟨l.length + (bitsOf last 1).length + (bitsOf 0 2).length + (List.replicate ((8 - (l.length + 3) % 8) % 8) false).length, all.take a⟩) (by
      have := Way.says_align (L := L) (m := m) (s := ⟨l.length + (bitsOf last 1).length + (bitsOf 0 2).length, all.take a⟩)
      simp only at this
      rw [hal2] at this
      exact this) ?_
    refine Way.says_bind (reads_get zs.length 16 (by omega) L m _ _ hp3 hd3) ?_
    refine Way.says_bind (reads_get (65535 - zs.length) 16 (by omega) L m _ _ hp4 hd4) ?_
    refine Way.says_bind (refuse_ok (fun h => h rfl)) ?_
    refine Way.says_bind (Way.says_room _ (by simp only; rw [hal]; omega)) ?_
    have h := bytes_said zs hz8 L r m _ (all.take a) (by rw [hal]; omega) hp5 hd5
    rw [hcat] at h
    have e : (bitsOf last 1 ++ (bitsOf 0 2 ++ (List.replicate ((8 - (l.length + 3) % 8) % 8) false ++ (bitsOf zs.length 16 ++ (bitsOf (65535 - zs.length) 16 ++ bitsOfBytes zs))))).length = (bitsOf last 1).length + (bitsOf 0 2).length + (List.replicate ((8 - (l.length + 3) % 8) % 8) false).length + (bitsOf zs.length 16).length + (bitsOf (65535 - zs.length) 16).length + 8 * zs.length := by
      simp only [List.length_append, bitsOfBytes_length]
      omega
    rw [e]
    simp only [← Nat.add_assoc]
    exact h
theorem block_put (l : List Bool) (all : List Nat) (a to last : Nat) (h8 : ∀ x ∈ all, x < 256) (ha : a ≤ to) (ht : to ≤ all.length) (hs : to - a < 65536) (hl : last < 2) :
    ∃ X, blockOf l all a to last = l ++ X ∧ Blocks l X all a to last := by
  unfold blockOf
  split
  · exact block_stored l all a to last h8 ha ht hs hl
  · exact block_fixed l all a to last h8 ha ht hl
theorem more_stop {L : List Bool} {m : Nat} {s u t : St} {l : Nat} (h1 : Says (Way.get 1) L m s (.ok l u)) (h2 : Says blockW L m u (.ok () t)) (h : ¬ l = 0) : Says blocksW L m s (.ok () t) := by
  have : Says ((fun _ : Unit => (Way.get 1).bind fun l => blockW.bind fun _ => if l = 0 then Way.pure (Sum.inl ()) else Way.pure (Sum.inr ())) ()) L m s (.ok (.inr ()) t) := Way.says_bind h1 (Way.says_bind h2 (by rw [if_neg h]; exact Way.says_pure _))
  exact Way.says_loop_stop this
theorem more_next {L : List Bool} {m : Nat} {s u t : St} {l : Nat} {r : Res Unit} (h1 : Says (Way.get 1) L m s (.ok l u)) (h2 : Says blockW L m u (.ok () t)) (h : l = 0) (h3 : Says blocksW L m t r) : Says blocksW L m s r := by
  have : Says ((fun _ : Unit => (Way.get 1).bind fun l => blockW.bind fun _ => if l = 0 then Way.pure (Sum.inl ()) else Way.pure (Sum.inr ())) ()) L m s (.ok (.inl ()) t) := Way.says_bind h1 (Way.says_bind h2 (by rw [if_pos h]; exact Way.says_pure _))
  exact Way.says_loop_next this h3
theorem blocks_put (all : List Nat) (d k : Nat) (h8 : ∀ x ∈ all, x < 256) (hk : k + d = fullOf all.length) :
    ∃ Y, blockOf (blocksOf all (fullOf all.length)) all (4096 * fullOf all.length) all.length 1 = blocksOf all k ++ Y ∧
      ∀ (L r : List Bool) (m : Nat), all.length ≤ m → (blocksOf all k).length ≤ L.length → L.drop (blocksOf all k).length = Y ++ r → Says blocksW L m ⟨(blocksOf all k).length, all.take (4096 * k)⟩ (.ok () ⟨(blocksOf all k).length + Y.length, all⟩) := by
  have hJ : 4096 * fullOf all.length ≤ all.length := by unfold fullOf; omega
  have hJ2 : all.length - 4096 * fullOf all.length < 65536 := by unfold fullOf; omega
  induction d generalizing k with
  | zero =>
    obtain rfl : k = fullOf all.length := by omega
    obtain ⟨X, hX, hg⟩ := block_put (blocksOf all (fullOf all.length)) all (4096 * fullOf all.length) all.length 1 h8 hJ (Nat.le_refl _) hJ2 (by decide)
    refine ⟨X, hX, fun L r m hm hp hd => ?_⟩
    obtain ⟨u, h1, h2⟩ := hg L r m hm hp hd
    rw [List.take_length] at h2
    exact more_stop h1 h2 (by decide)
  | succ d ih =>
    obtain ⟨Y, hY, hi⟩ := ih (k + 1) (by omega)
    have hk2 : 4096 * (k + 1) ≤ all.length := by
      have : k + 1 ≤ fullOf all.length := by omega
      have := Nat.mul_le_mul_left 4096 this
      omega
    obtain ⟨X, hX, hg⟩ := block_put (blocksOf all k) all (4096 * k) (4096 * (k + 1)) 0 h8 (by omega) hk2 (by omega) (by decide)
    have hb : blocksOf all (k + 1) = blocksOf all k ++ X := hX
    refine ⟨X ++ Y, by rw [hY, hb, List.append_assoc], fun L r m hm hp hd => ?_⟩
    rw [List.append_assoc] at hd
    obtain ⟨u, h1, h2⟩ := hg L (Y ++ r) m (by omega) hp hd
    obtain ⟨hd1, hp1⟩ := drop_more hp hd
    have hl : (blocksOf all (k + 1)).length = (blocksOf all k).length + X.length := by rw [hb, List.length_append]
    have h3 := hi L r m hm (by rw [hl]; exact hp1) (by rw [hl]; exact hd1)
    rw [hl] at h3
    rw [List.length_append, ← Nat.add_assoc]
    exact more_next h1 h2 rfl h3
/-- The bits of a stream, up to its last block's end. -/
def lastBits (all : List Nat) : List Bool := blockOf (blocksOf all (fullOf all.length)) all (4096 * fullOf all.length) all.length 1
/-- What deflate tells is told back, whatever stands behind it. -/
theorem told_back (all : List Nat) (x : List Bool) (m : Nat) (h8 : ∀ z ∈ all, z < 256) (hm : all.length ≤ m) : Says blocksW (endOf all ++ x) m ⟨0, []⟩ (.ok () ⟨(lastBits all).length, all⟩) := by
  obtain ⟨Y, hY, hi⟩ := blocks_put all (fullOf all.length) 0 h8 (by omega)
  have hY' : lastBits all = Y := by
    unfold lastBits
    rw [hY]
    rfl
  have h := hi (endOf all ++ x) (List.replicate ((8 - (lastBits all).length % 8) % 8) false ++ x) m hm (Nat.zero_le _) (by
    show List.drop 0 _ = _
    rw [List.drop_zero, ← hY']
    unfold endOf aligned lastBits
    rw [List.append_assoc])
  rw [hY']
  have e0 : (blocksOf all 0).length = 0 := rfl
  rw [e0, Nat.zero_add] at h
  exact h
theorem last_length (all : List Nat) : ((lastBits all).length + 7) / 8 * 8 = (endOf all).length ∧ 0 < (lastBits all).length := by
  refine ⟨by unfold endOf; rw [aligned_length]; rfl, ?_⟩
  unfold lastBits blockOf
  split
  · rw [storedBlock_length]
    omega
  · unfold fixedBlock
    simp only [List.length_append]
    have := fixedSym_some 256
    omega
/-! ### Cut, more behind, less room -/
theorem cut_short {L : List Bool} {m : Nat} {t : St} (h : Says blocksW L m ⟨0, []⟩ (.ok () t)) (hL : L.length % 8 = 0) (k : Nat) (hk : k < t.pos) (h8 : k % 8 = 0) : Says blocksW (L.take k) m ⟨0, []⟩ (.err 12) := by
  obtain ⟨f, h⟩ := h
  exact ⟨f, blocksW.cut f L m ⟨0, []⟩ () t (Nat.zero_le _) hL h k (Nat.zero_le _) hk h8⟩
theorem more_same {L L' : List Bool} {m m' : Nat} {t : St} (h : Says blocksW L m ⟨0, []⟩ (.ok () t)) (hL : L.length % 8 = 0) (hL' : L'.length % 8 = 0) (hp : t.pos ≤ L'.length) (he : L'.take t.pos = L.take t.pos) (hm : m ≤ m') : Says blocksW L' m' ⟨0, []⟩ (.ok () t) := by
  obtain ⟨f, h⟩ := h
  exact ⟨f, blocksW.alike f L m ⟨0, []⟩ () t (Nat.zero_le _) hL h L' m' hL' hp he hm⟩
theorem less_long {L : List Bool} {m m' : Nat} {t : St} (h : Says blocksW L m ⟨0, []⟩ (.ok () t)) (hL : L.length % 8 = 0) (hm : m' ≤ m) (ht : m' < t.out.length) : Says blocksW L m' ⟨0, []⟩ (.err 3) := by
  obtain ⟨f, h⟩ := h
  rcases blocksW.low f L m ⟨0, []⟩ () t h m' hm with h' | h'
  · have := (blocksW.on f L m' ⟨0, []⟩ () t (Nat.zero_le _) hL h').2.2.2 (Nat.zero_le _)
    omega
  · exact ⟨f, h'⟩
theorem some_bits {L : List Bool} {m : Nat} {t : St} (h : Says blocksW L m ⟨0, []⟩ (.ok () t)) (hL : L.length % 8 = 0) : 1 ≤ t.pos ∧ t.pos ≤ L.length ∧ t.out.length ≤ m := by
  have h0 := Way.says_on h (Nat.zero_le _) hL
  refine ⟨?_, h0.2.1, h0.2.2.2 (Nat.zero_le _)⟩
  obtain ⟨f, h⟩ := h
  cases f with
  | zero => cases h
  | succ f =>
    have first : ∀ (x : Unit ⊕ Unit) (u : St), ((Way.get 1).bind fun l => blockW.bind fun _ => if l = 0 then Way.pure (Sum.inl ()) else Way.pure (Sum.inr ()) : Way (Unit ⊕ Unit)).run (f + 1) L m ⟨0, []⟩ = some (.ok x u) → 1 ≤ u.pos := by
      intro x u hx
      obtain ⟨a, v, h1, h2⟩ := Way.bind_ok hx
      have hv : v.pos = 1 ∧ v.pos ≤ L.length := by
        unfold Way.get at h1
        simp only [Option.some.injEq] at h1
        split at h1
        · cases h1
        · cases h1
          exact ⟨rfl, by simp only; omega⟩
      have := (Way.on _ _ _ _ _ _ _ hv.2 hL h2).1
      omega
    have h : Way.rounds (fun _ : Unit => (Way.get 1).bind fun l => blockW.bind fun _ => if l = 0 then Way.pure (Sum.inl ()) else Way.pure (Sum.inr ())) (f + 1) L m (f + 1) () ⟨0, []⟩ = some (.ok () t) := h
    rcases Way.rounds_ok h with h | ⟨b', u, hx, h⟩
    · exact first _ _ h
    · have h1 := first _ _ hx
      have hu := (Way.on _ _ _ _ _ _ _ (Nat.zero_le _) hL hx).2.1
      have key : ∀ n b s, s.pos ≤ L.length → 1 ≤ s.pos → Way.rounds (fun _ : Unit => (Way.get 1).bind fun l => blockW.bind fun _ => if l = 0 then Way.pure (Sum.inl ()) else Way.pure (Sum.inr ())) (f + 1) L m n b s = some (.ok () t) → 1 ≤ t.pos := by
        intro n
        induction n with
        | zero => intro b s _ _ h; cases h
        | succ n ih =>
          intro b s hs h1 h
          rcases Way.rounds_ok h with h | ⟨b', u, hx, h⟩
          · have := (Way.on _ _ _ _ _ _ _ hs hL h).1
            omega
          · have h2 := Way.on _ _ _ _ _ _ _ hs hL hx
            exact ih b' u h2.2.1 (by omega) h
      exact key f b' u hu h1 h
end Go.Proofs.YtbfpbmnnlckldaaDoor.Fx
namespace Go.Proofs.YtbfpbmnnlckldaaDoor.Fx
theorem bits_join (x y : List Nat) : bitsOfBytes (x ++ y) = bitsOfBytes x ++ bitsOfBytes y := by
  unfold bitsOfBytes
  rw [List.flatMap_append]
theorem bits_cut (zs : List Nat) (q : Nat) (hq : q ≤ zs.length) : bitsOfBytes (zs.take q) = (bitsOfBytes zs).take (8 * q) := by
  have h : bitsOfBytes zs = bitsOfBytes (zs.take q) ++ bitsOfBytes (zs.drop q) := by rw [← bits_join, List.take_append_drop]
  have hl : (bitsOfBytes (zs.take q)).length = 8 * q := by
    rw [bitsOfBytes_length, List.length_take]
    omega
  rw [h, ← hl, List.take_left]
theorem bits_eight (zs : List Nat) : (bitsOfBytes zs).length % 8 = 0 := by
  rw [bitsOfBytes_length]
  omega
theorem some_bytes {zs : List Nat} {m : Nat} {t : St} (h : Says blocksW (bitsOfBytes zs) m ⟨0, []⟩ (.ok () t)) : 1 ≤ (t.pos + 7) / 8 ∧ (t.pos + 7) / 8 ≤ zs.length ∧ t.out.length ≤ m := by
  have h1 := some_bits h (bits_eight zs)
  rw [bitsOfBytes_length] at h1
  omega
theorem cut_bytes {zs : List Nat} {m : Nat} {t : St} (h : Says blocksW (bitsOfBytes zs) m ⟨0, []⟩ (.ok () t)) (q : Nat) (hq : q < (t.pos + 7) / 8) : Says blocksW (bitsOfBytes (zs.take q)) m ⟨0, []⟩ (.err 12) := by
  have h1 := some_bytes h
  rw [bits_cut zs q (by omega)]
  exact cut_short h (bits_eight zs) (8 * q) (by omega) (by omega)
theorem more_bytes {zs : List Nat} {m : Nat} {t : St} (h : Says blocksW (bitsOfBytes zs) m ⟨0, []⟩ (.ok () t)) (n : Nat) (hn : (t.pos + 7) / 8 = n) (xs : List Nat) (m' : Nat) (hm : m ≤ m') : Says blocksW (bitsOfBytes (zs.take n ++ xs)) m' ⟨0, []⟩ (.ok () t) := by
  have h1 := some_bytes h
  refine more_same h (bits_eight zs) (bits_eight _) ?_ ?_ hm
  · rw [bitsOfBytes_length, List.length_append, List.length_take]
    omega
  · rw [bits_join, bits_cut zs n (by omega), List.take_append_of_le_length (by rw [List.length_take, bitsOfBytes_length]; omega), List.take_take]
    congr 1
    omega
theorem less_bytes {zs : List Nat} {m m' : Nat} {t : St} (h : Says blocksW (bitsOfBytes zs) m ⟨0, []⟩ (.ok () t)) (hm : m' ≤ m) (ht : m' < t.out.length) : Says blocksW (bitsOfBytes zs) m' ⟨0, []⟩ (.err 3) := less_long h (bits_eight zs) hm ht
end Go.Proofs.YtbfpbmnnlckldaaDoor.Fx
namespace Go.Proofs.YtbfpbmnnlckldaaDoor.Fx
theorem back_says (zs x : List Nat) (m : Nat) (h8 : ∀ z ∈ zs, z < 256) (hm : zs.length ≤ m) : Says blocksW (bitsOfBytes (wholeOf zs ++ x)) m ⟨0, []⟩ (.ok () ⟨(lastBits zs).length, zs⟩) := by
  rw [bits_join, whole_bits]
  exact told_back zs _ m h8 hm
theorem back_all (zs : List Nat) (m : Nat) (h8 : ∀ z ∈ zs, z < 256) (hm : zs.length ≤ m) : Says blocksW (bitsOfBytes (wholeOf zs)) m ⟨0, []⟩ (.ok () ⟨(lastBits zs).length, zs⟩) := by
  have h := back_says zs [] m h8 hm
  rwa [List.append_nil] at h
theorem back_length (zs : List Nat) : ((lastBits zs).length + 7) / 8 = (wholeOf zs).length ∧ 0 < (wholeOf zs).length := by
  have h := congrArg List.length (whole_bits zs)
  rw [bitsOfBytes_length] at h
  have h1 := last_length zs
  omega
end Go.Proofs.YtbfpbmnnlckldaaDoor.Fx
