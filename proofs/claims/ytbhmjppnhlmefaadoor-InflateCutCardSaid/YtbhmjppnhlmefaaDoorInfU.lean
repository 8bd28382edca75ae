/-
  What deflate tells is told back, block by block; streams that are cut, behind which more stands, with less room: plain. No condition but those that are said.
-/
import Derived.Test.YtbhmjppnhlmefaaDoorInfT
namespace Go.Proofs.YtbhmjppnhlmefaaDoor.Fx
set_option linter.unusedVariables false
theorem refuse_ok {c : Prop} [Decidable c] {e : Nat} {L : List Bool} {m : Nat} {s : St} (h : ¬ c) : Says (refuseW c e) L m s (.ok () s) := by
  unfold refuseW
  rw [if_neg h]
  exact Way.says_pure ()
theorem bytes_said (zs : List Nat) (h8 : ∀ x ∈ zs, x < 256) (L r : List Bool) (m p : Nat) (out : List Nat) (hm : out.length + zs.length ≤ m) (hp : p ≤ L.length) (hd : L.drop p = bitsOfBytes zs ++ r) :
    Says (bytesW zs.length) L m ⟨p, out⟩ (.ok () ⟨p + 8 * zs.length, out ++ zs⟩) := by
  induction zs generalizing p out with
  | nil =>
    rw [List.append_nil]
    exact Way.says_pure ()
  | cons z zs ih =>
    have e : bitsOfBytes (z :: zs) = bitsOf z 8 ++ bitsOfBytes zs := by
      unfold bitsOfBytes
      rw [List.flatMap_cons]
    rw [e, List.append_assoc] at hd
    rw [List.length_cons] at hm ⊢
    have hz := h8 z (List.mem_cons_self ..)
    obtain ⟨hd1, hp1⟩ := drop_more hp hd
    have r1 := reads_get z 8 hz L m ⟨p, out⟩ _ hp hd
    rw [bitsOf_length] at r1 hd1 hp1
    have h2 := ih (fun x hx => h8 x (List.mem_cons_of_mem _ hx)) (p + 8) (out ++ [z]) (by rw [List.length_append, List.length_singleton]; omega) hp1 hd1
    refine Way.says_bind r1 (Way.says_bind (Way.says_put _ (by simp only; omega)) ?_)
    simp only
    rw [List.append_assoc, List.singleton_append] at h2
    rw [show p + 8 * (zs.length + 1) = p + 8 + 8 * zs.length by omega]
    exact h2
/-- A block that says what stands between two places. -/
def Blocks (l X : List Bool) (all : List Nat) (a to last : Nat) : Prop := ∀ (L r : List Bool) (m : Nat), to ≤ m → l.length ≤ L.length → L.drop l.length = X ++ r → ∃ u, Says (Way.get 1) L m ⟨l.length, all.take a⟩ (.ok last u) ∧ Says blockW L m u (.ok () ⟨l.length + X.length, all.take to⟩)
theorem block_fixed (l : List Bool) (all : List Nat) (a to last : Nat) (h8 : ∀ x ∈ all, x < 256) (ha : a ≤ to) (ht : to ≤ all.length) (hl : last < 2) :
    ∃ X, fixedBlock l (tokens all a to) last = l ++ X ∧ Blocks l X all a to last := by
  refine ⟨bitsOf last 1 ++ (bitsOf 1 2 ++ ((tokens all a to).flatMap tokBits ++ fixedSym 256)), by unfold fixedBlock; simp only [List.append_assoc], ?_⟩
  intro L r m hm hp hd
  simp only [List.append_assoc] at hd
  obtain ⟨hd1, hp1⟩ := drop_more hp hd
  obtain ⟨hd2, hp2⟩ := drop_more hp1 hd1
  refine ⟨_, reads_get last 1 (by omega) L m ⟨l.length, all.take a⟩ _ hp hd, ?_⟩
  refine Way.says_bind (reads_get 1 2 (by decide) L m ⟨l.length + (bitsOf last 1).length, all.take a⟩ _ hp1 hd1) ?_
  rw [if_neg (by decide), if_pos rfl]
  have h := symbols_put all to (to - a) a L r m _ h8 ha ht (by omega) hm hp2 hd2
  have e : (bitsOf last 1 ++ (bitsOf 1 2 ++ ((tokens all a to).flatMap tokBits ++ fixedSym 256))).length = (bitsOf last 1).length + (bitsOf 1 2).length + ((toks all to (to - a) a).flatMap tokBits).length + (fixedSym 256).length := by
    simp only [List.length_append]
    unfold tokens
    omega
  rw [e]
  simp only [← Nat.add_assoc]
  exact h
theorem block_stored (l : List Bool) (all : List Nat) (a to last : Nat) (h8 : ∀ x ∈ all, x < 256) (ha : a ≤ to) (ht : to ≤ all.length) (hs : to - a < 65536) (hl : last < 2) :
    ∃ X, storedBlock l ((all.take to).drop a) last = l ++ X ∧ Blocks l X all a to last := by
  have hz : ((all.take to).drop a).length = to - a := by rw [List.length_drop, List.length_take]; omega
  have hcat : all.take a ++ (all.take to).drop a = all.take to := by
    have := List.take_append_drop a (all.take to)
    rwa [List.take_take, Nat.min_eq_left ha] at this
  have hz8 : ∀ x ∈ (all.take to).drop a, x < 256 := fun x hx => h8 x (List.mem_of_mem_take (List.mem_of_mem_drop hx))
  have hal : (all.take a).length = a := by rw [List.length_take]; omega
  generalize (all.take to).drop a = zs at *
  have hpl : (l ++ bitsOf last 1 ++ bitsOf 0 2).length = l.length + 3 := by rw [List.length_append, List.length_append, bitsOf_length, bitsOf_length]
  refine ⟨bitsOf last 1 ++ (bitsOf 0 2 ++ (List.replicate ((8 - (l.length + 3) % 8) % 8) false ++ (bitsOf zs.length 16 ++ (bitsOf (65535 - zs.length) 16 ++ bitsOfBytes zs)))), ?_, ?_⟩
  · unfold storedBlock aligned
    rw [hpl]
    simp only [List.append_assoc]
  · intro L r m hm hp hd
    simp only [List.append_assoc] at hd
    obtain ⟨hd1, hp1⟩ := drop_more hp hd
    obtain ⟨hd2, hp2⟩ := drop_more hp1 hd1
    obtain ⟨hd3, hp3⟩ := drop_more hp2 hd2
    obtain ⟨hd4, hp4⟩ := drop_more hp3 hd3
    obtain ⟨hd5, hp5⟩ := drop_more hp4 hd4
    refine ⟨_, reads_get last 1 (by omega) L m ⟨l.length, all.take a⟩ _ hp hd, ?_⟩
    refine Way.says_bind (reads_get 0 2 (by decide) L m ⟨l.length + (bitsOf last 1).length, all.take a⟩ _ hp1 hd1) ?_
    rw [if_pos rfl]
    have hal2 : (l.length + (bitsOf last 1).length + (bitsOf 0 2).length + 7) / 8 * 8 = l.length + (bitsOf last 1).length + (bitsOf 0 2).length + (List.replicate ((8 - (l.length + 3) % 8) % 8) false).length := by
      rw [bitsOf_length, bitsOf_length, List.length_replicate]
      omega
    refine Way.says_bind (a := ()) (u := ⟨l.length + (bitsOf last 1).length + (bitsOf 0 2).length + (List.replicate ((8 - (l.length + 3) % 8) % 8) false).length, all.take a⟩) (by
      have := Way.says_align (L := L) (m := m) (s := ⟨l.length + (bitsOf last 1).length + (bitsOf 0 2).length, all.take a⟩)
      simp only at this
      rw [hal2] at this
      exact this) ?_
    refine Way.says_bind (reads_get zs.length 16 (by omega) L m _ _ hp3 hd3) ?_
    refine Way.says_bind (reads_get (65535 - zs.length) 16 (by omega) L m _ _ hp4 hd4) ?_
    refine Way.says_bind (refuse_ok (fun h => h rfl)) ?_
    refine Way.says_bind (Way.says_room _ (by simp only; rw [hal]; omega)) ?_
    have h := bytes_said zs hz8 L r m _ (all.take a) (by rw [hal]; omega) hp5 hd5
    rw [hcat] at h
    have e : (bitsOf last 1 ++ (bitsOf 0 2 ++ (List.replicate ((8 - (l.length + 3) % 8) % 8) false ++ (bitsOf zs.length 16 ++ (bitsOf (65535 - zs.length) 16 ++ bitsOfBytes zs))))).length = (bitsOf last 1).length + (bitsOf 0 2).length + (List.replicate ((8 - (l.length + 3) % 8) % 8) false).length + (bitsOf zs.length 16).length + (bitsOf (65535 - zs.length) 16).length + 8 * zs.length := by
      simp only [List.length_append, bitsOfBytes_length]
      omega
    rw [e]
    simp only [← Nat.add_assoc]
    exact h
theorem block_put (l : List Bool) (all : List Nat) (a to last : Nat) (h8 : ∀ x ∈ all, x < 256) (ha : a ≤ to) (ht : to ≤ all.length) (hs : to - a < 65536) (hl : last < 2) :
    ∃ X, blockOf l all a to last = l ++ X ∧ Blocks l X all a to last := by
  unfold blockOf
  split
  · exact block_stored l all a to last h8 ha ht hs hl
  · exact block_fixed l all a to last h8 ha ht hl
theorem more_stop {L : List Bool} {m : Nat} {s u t : St} {l : Nat} (h1 : Says (Way.get 1) L m s (.ok l u)) (h2 : Says blockW L m u (.ok () t)) (h : ¬ l = 0) : Says blocksW L m s (.ok () t) := by
  have : Says ((fun _ : Unit => (Way.get 1).bind fun l => blockW.bind fun _ => if l = 0 then Way.pure (Sum.inl ()) else Way.pure (Sum.inr ())) ()) L m s (.ok (.inr ()) t) := Way.says_bind h1 (Way.says_bind h2 (by rw [if_neg h]; exact Way.says_pure _))
  exact Way.says_loop_stop this
theorem more_next {L : List Bool} {m : Nat} {s u t : St} {l : Nat} {r : Res Unit} (h1 : Says (Way.get 1) L m s (.ok l u)) (h2 : Says blockW L m u (.ok () t)) (h : l = 0) (h3 : Says blocksW L m t r) : Says blocksW L m s r := by
  have : Says ((fun _ : Unit => (Way.get 1).bind fun l => blockW.bind fun _ => if l = 0 then Way.pure (Sum.inl ()) else Way.pure (Sum.inr ())) ()) L m s (.ok (.inl ()) t) := Way.says_bind h1 (Way.says_bind h2 (by rw [if_pos h]; exact Way.says_pure _))
  exact Way.says_loop_next this h3
theorem blocks_put (all : List Nat) (d k : Nat) (h8 : ∀ x ∈ all, x < 256) (hk : k + d = fullOf all.length) :
    ∃ Y, blockOf (blocksOf all (fullOf all.length)) all (4096 * fullOf all.length) all.length 1 = blocksOf all k ++ Y ∧
      ∀ (L r : List Bool) (m : Nat), all.length ≤ m → (blocksOf all k).length ≤ L.length → L.drop (blocksOf all k).length = Y ++ r → Says blocksW L m ⟨(blocksOf all k).length, all.take (4096 * k)⟩ (.ok () ⟨(blocksOf all k).length + Y.length, all⟩) := by
  have hJ : 4096 * fullOf all.length ≤ all.length := by unfold fullOf; omega
  have hJ2 : all.length - 4096 * fullOf all.length < 65536 := by unfold fullOf; omega
  induction d generalizing k with
  | zero =>
    obtain rfl : k = fullOf all.length := by omega
    obtain ⟨X, hX, hg⟩ := block_put (blocksOf all (fullOf all.length)) all (4096 * fullOf all.length) all.length 1 h8 hJ (Nat.le_refl _) hJ2 (by decide)
    refine ⟨X, hX, fun L r m hm hp hd => ?_⟩
    obtain ⟨u, h1, h2⟩ := hg L r m hm hp hd
    rw [List.take_length] at h2
    exact more_stop h1 h2 (by decide)
  | succ d ih =>
    obtain ⟨Y, hY, hi⟩ := ih (k + 1) (by omega)
    have hk2 : 4096 * (k + 1) ≤ all.length := by
      have : k + 1 ≤ fullOf all.length := by omega
      have := Nat.mul_le_mul_left 4096 this
      omega
    obtain ⟨X, hX, hg⟩ := block_put (blocksOf all k) all (4096 * k) (4096 * (k + 1)) 0 h8 (by omega) hk2 (by omega) (by decide)
    have hb : blocksOf all (k + 1) = blocksOf all k ++ X := hX
    refine ⟨X ++ Y, by rw [hY, hb, List.append_assoc], fun L r m hm hp hd => ?_⟩
    rw [List.append_assoc] at hd
    obtain ⟨u, h1, h2⟩ := hg L (Y ++ r) m (by omega) hp hd
    obtain ⟨hd1, hp1⟩ := drop_more hp hd
    have hl : (blocksOf all (k + 1)).length = (blocksOf all k).length + X.length := by rw [hb, List.length_append]
    have h3 := hi L r m hm (by rw [hl]; exact hp1) (by rw [hl]; exact hd1)
    rw [hl] at h3
    rw [List.length_append, ← Nat.add_assoc]
    exact more_next h1 h2 rfl h3
/-- The bits of a stream, up to its last block's end. -/
def lastBits (all : List Nat) : List Bool := blockOf (blocksOf all (fullOf all.length)) all (4096 * fullOf all.length) all.length 1
/-- What deflate tells is told back, whatever stands behind it. -/
theorem told_back (all : List Nat) (x : List Bool) (m : Nat) (h8 : ∀ z ∈ all, z < 256) (hm : all.length ≤ m) : Says blocksW (endOf all ++ x) m ⟨0, []⟩ (.ok () ⟨(lastBits all).length, all⟩) := by
  obtain ⟨Y, hY, hi⟩ := blocks_put all (fullOf all.length) 0 h8 (by omega)
  have hY' : lastBits all = Y := by
    unfold lastBits
    rw [hY]
    rfl
  have h := hi (endOf all ++ x) (List.replicate ((8 - (lastBits all).length % 8) % 8) false ++ x) m hm (Nat.zero_le _) (by
    show List.drop 0 _ = _
    rw [List.drop_zero, ← hY']
    unfold endOf aligned lastBits
    rw [List.append_assoc])
  rw [hY']
  have e0 : (blocksOf all 0).length = 0 := rfl
  rw [e0, Nat.zero_add] at h
  exact h
theorem last_length (all : List Nat) : ((lastBits all).length + 7) / 8 * 8 = (endOf all).length ∧ 0 < (lastBits all).length := by
  refine ⟨by unfold endOf; rw [aligned_length]; rfl, ?_⟩
  unfold lastBits blockOf
  split
  · rw [storedBlock_length]
    omega
  · unfold fixedBlock
    simp only [List.length_append]
    have := fixedSym_some 256
    omega
/-! ### Cut, more behind, less room -/
theorem cut_short {L : List Bool} {m : Nat} {t : St} (h : Says blocksW L m ⟨0, []⟩ (.ok () t)) (hL : L.length % 8 = 0) (k : Nat) (hk : k < t.pos) (h8 : k % 8 = 0) : Says blocksW (L.take k) m ⟨0, []⟩ (.err 12) := by
  obtain ⟨f, h⟩ := h
  exact ⟨f, blocksW.cut f L m ⟨0, []⟩ () t (Nat.zero_le _) hL h k (Nat.zero_le _) hk h8⟩
theorem more_same {L L' : List Bool} {m m' : Nat} {t : St} (h : Says blocksW L m ⟨0, []⟩ (.ok () t)) (hL : L.length % 8 = 0) (hL' : L'.length % 8 = 0) (hp : t.pos ≤ L'.length) (he : L'.take t.pos = L.take t.pos) (hm : m ≤ m') : Says blocksW L' m' ⟨0, []⟩ (.ok () t) := by
  obtain ⟨f, h⟩ := h
  exact ⟨f, blocksW.alike f L m ⟨0, []⟩ () t (Nat.zero_le _) hL h L' m' hL' hp he hm⟩
theorem less_long {L : List Bool} {m m' : Nat} {t : St} (h : Says blocksW L m ⟨0, []⟩ (.ok () t)) (hL : L.length % 8 = 0) (hm : m' ≤ m) (ht : m' < t.out.length) : Says blocksW L m' ⟨0, []⟩ (.err 3) := by
  obtain ⟨f, h⟩ := h
  rcases blocksW.low f L m ⟨0, []⟩ () t h m' hm with h' | h'
  · have := (blocksW.on f L m' ⟨0, []⟩ () t (Nat.zero_le _) hL h').2.2.2 (Nat.zero_le _)
    omega
  · exact ⟨f, h'⟩
theorem some_bits {L : List Bool} {m : Nat} {t : St} (h : Says blocksW L m ⟨0, []⟩ (.ok () t)) (hL : L.length % 8 = 0) : 1 ≤ t.pos ∧ t.pos ≤ L.length ∧ t.out.length ≤ m := by
  have h0 := Way.says_on h (Nat.zero_le _) hL
  refine ⟨?_, h0.2.1, h0.2.2.2 (Nat.zero_le _)⟩
  obtain ⟨f, h⟩ := h
  cases f with
  | zero => cases h
  | succ f =>
    have first : ∀ (x : Unit ⊕ Unit) (u : St), ((Way.get 1).bind fun l => blockW.bind fun _ => if l = 0 then Way.pure (Sum.inl ()) else Way.pure (Sum.inr ()) : Way (Unit ⊕ Unit)).run (f + 1) L m ⟨0, []⟩ = some (.ok x u) → 1 ≤ u.pos := by
      intro x u hx
      obtain ⟨a, v, h1, h2⟩ := Way.bind_ok hx
      have hv : v.pos = 1 ∧ v.pos ≤ L.length := by
        unfold Way.get at h1
        simp only [Option.some.injEq] at h1
        split at h1
        · cases h1
        · cases h1
          exact ⟨rfl, by simp only; omega⟩
      have := (Way.on _ _ _ _ _ _ _ hv.2 hL h2).1
      omega
    have h : Way.rounds (fun _ : Unit => (Way.get 1).bind fun l => blockW.bind fun _ => if l = 0 then Way.pure (Sum.inl ()) else Way.pure (Sum.inr ())) (f + 1) L m (f + 1) () ⟨0, []⟩ = some (.ok () t) := h
    rcases Way.rounds_ok h with h | ⟨b', u, hx, h⟩
    · exact first _ _ h
    · have h1 := first _ _ hx
      have hu := (Way.on _ _ _ _ _ _ _ (Nat.zero_le _) hL hx).2.1
      have key : ∀ n b s, s.pos ≤ L.length → 1 ≤ s.pos → Way.rounds (fun _ : Unit => (Way.get 1).bind fun l => blockW.bind fun _ => if l = 0 then Way.pure (Sum.inl ()) else Way.pure (Sum.inr ())) (f + 1) L m n b s = some (.ok () t) → 1 ≤ t.pos := by
        intro n
        induction n with
        | zero => intro b s _ _ h; cases h
        | succ n ih =>
          intro b s hs h1 h
          rcases Way.rounds_ok h with h | ⟨b', u, hx, h⟩
          · have := (Way.on _ _ _ _ _ _ _ hs hL h).1
            omega
          · have h2 := Way.on _ _ _ _ _ _ _ hs hL hx
            exact ih b' u h2.2.1 (by omega) h
      exact key f b' u hu h1 h
end Go.Proofs.YtbhmjppnhlmefaaDoor.Fx
