/-
  Letters by the fixed codes, plain; a writer of bits beside a row. The conditions stand in each.
-/
import Derived.Test.YtbhmjppnhlmefaaDoorInfR
import Derived.Test.YtbhmjppnhlmefaaDoorWinG
import Derived.Test.YtbhmjppnhlmefaaDoorBitsCt
import Derived.Test.YtbhmjppnhlmefaaDoorNums
namespace Go.Proofs.YtbhmjppnhlmefaaDoor.Fx
open Go Go.RowKit Go.Joins
set_option linter.unusedVariables false
def letBits (cs : List Nat) : List Bool := cs.flatMap fixedSym
def letAll (cs : List Nat) : List Bool := bitsOf 3 3 ++ letBits cs ++ bitsOf 0 7
theorem let_length (cs : List Nat) (h : ∀ c ∈ cs, c < 144) : (letBits cs).length = 8 * cs.length := by
  induction cs with
  | nil => rfl
  | cons c cs ih =>
    have h1 := h c (List.mem_cons_self ..)
    have h2 := ih fun x hx => h x (List.mem_cons_of_mem _ hx)
    have e : letBits (c :: cs) = fixedSym c ++ letBits cs := by
      unfold letBits
      rw [List.flatMap_cons]
    have e2 : (fixedSym c).length = 8 := by
      unfold fixedSym
      rw [if_pos (by omega), turned_length]
    rw [e, List.length_append, h2, e2, List.length_cons]
    omega
theorem let_all_length (cs : List Nat) (h : ∀ c ∈ cs, c < 144) : (letAll cs).length = 10 + 8 * cs.length := by
  unfold letAll
  rw [List.length_append, List.length_append, let_length cs h, bitsOf_length, bitsOf_length]
  omega
theorem letters_said (cs : List Nat) (h : ∀ c ∈ cs, c < 144) (L r : List Bool) (m p : Nat) (out : List Nat) (hm : out.length + cs.length ≤ m) (hp : p ≤ L.length) (hd : L.drop p = letBits cs ++ (fixedSym 256 ++ r)) :
    Says (symbolsW fixedP) L m ⟨p, out⟩ (.ok () ⟨p + (letBits cs).length + (fixedSym 256).length, out ++ cs⟩) := by
  induction cs generalizing p out with
  | nil =>
    rw [List.append_nil]
    refine Way.says_loop_stop ?_
    refine Way.says_bind (reads_fixed 256 (by decide) L m ⟨p, out⟩ r hp hd) ?_
    rw [if_neg (by decide), if_pos rfl]
    exact Way.says_pure _
  | cons c cs ih =>
    have h1 := h c (List.mem_cons_self ..)
    have e : letBits (c :: cs) = fixedSym c ++ letBits cs := by
      unfold letBits
      rw [List.flatMap_cons]
    rw [e] at hd ⊢
    rw [List.append_assoc] at hd
    rw [List.length_cons] at hm
    obtain ⟨hd1, hp1⟩ := drop_more hp hd
    have hstep : Says (symStep fixedP) L m ⟨p, out⟩ (.ok (.inl ()) ⟨p + (fixedSym c).length, out ++ [c]⟩) := by
      refine Way.says_bind (reads_fixed c (by omega) L m ⟨p, out⟩ _ hp hd) ?_
      rw [if_pos (by omega)]
      refine Way.says_bind (Way.says_room 1 (by simp only; omega)) ?_
      refine Way.says_bind (Way.says_put _ (by simp only; omega)) ?_
      exact Way.says_pure _
    have hrest := ih (fun x hx => h x (List.mem_cons_of_mem _ hx)) (p + (fixedSym c).length) (out ++ [c]) (by rw [List.length_append, List.length_singleton]; omega) hp1 hd1
    rw [List.append_assoc, List.singleton_append] at hrest
    rw [List.length_append, ← Nat.add_assoc]
    exact Way.says_loop_next hstep hrest
theorem letters_told (cs : List Nat) (h : ∀ c ∈ cs, c < 144) (r : List Bool) (m : Nat) (hm : cs.length ≤ m) : Says blocksW (letAll cs ++ r) m ⟨0, []⟩ (.ok () ⟨(letAll cs).length, cs⟩) := by
  have e3 : bitsOf 3 3 = bitsOf 1 1 ++ bitsOf 1 2 := by decide
  have e7 : bitsOf 0 7 = fixedSym 256 := by decide
  have hd : (letAll cs ++ r).drop 0 = bitsOf 1 1 ++ (bitsOf 1 2 ++ (letBits cs ++ (fixedSym 256 ++ r))) := by
    rw [List.drop_zero]
    unfold letAll
    rw [e3, e7]
    simp only [List.append_assoc]
  obtain ⟨hd1, hp1⟩ := drop_more (Nat.zero_le _) hd
  obtain ⟨hd2, hp2⟩ := drop_more hp1 hd1
  refine more_stop (reads_get 1 1 (by decide) _ m ⟨0, []⟩ _ (Nat.zero_le _) hd) ?_ (by decide)
  refine Way.says_bind (reads_get 1 2 (by decide) _ m ⟨0 + (bitsOf 1 1).length, []⟩ _ hp1 hd1) ?_
  rw [if_neg (by decide), if_pos rfl]
  have hs := letters_said cs h _ r m _ [] (by simpa using hm) hp2 hd2
  have e : (letAll cs).length = 0 + (bitsOf 1 1).length + (bitsOf 1 2).length + (letBits cs).length + (fixedSym 256).length := by
    unfold letAll
    rw [List.length_append, List.length_append, e7, e3, List.length_append]
    omega
  rw [e]
  exact hs
theorem letters_bytes (cs : List Nat) (h : ∀ c ∈ cs, c < 144) : Says blocksW (bitsOfBytes (bytesAt (aligned (letAll cs)) 0 ((aligned (letAll cs)).length / 8))) cs.length ⟨0, []⟩ (.ok () ⟨(letAll cs).length, cs⟩) := by
  have ha : (aligned (letAll cs)).length % 8 = 0 := by
    rw [aligned_length]
    omega
  have e : bitsOfBytes (bytesAt (aligned (letAll cs)) 0 ((aligned (letAll cs)).length / 8)) = aligned (letAll cs) := by
    rw [bits_bytes _ _ _ (by omega), Nat.mul_zero, List.drop_zero, show 8 * ((aligned (letAll cs)).length / 8) = (aligned (letAll cs)).length by omega, List.take_length]
  rw [e]
  unfold aligned
  exact letters_told cs h _ _ (Nat.le_refl _)
theorem letters_count (cs : List Nat) (h : ∀ c ∈ cs, c < 144) : (bytesAt (aligned (letAll cs)) 0 ((aligned (letAll cs)).length / 8)).length = cs.length + 2 ∧ ((letAll cs).length + 7) / 8 = cs.length + 2 := by
  rw [bytesAt_length, aligned_length, let_all_length cs h]
  omega
/-! ### The code turned -/
def rev (V : Nat) : Nat → Nat
  | 0 => 0
  | j + 1 => 2 * rev V j + V / 2 ^ j % 2
theorem rev_low (V j : Nat) : rev V j < 2 ^ j := by
  induction j with
  | zero => exact Nat.one_pos
  | succ j ih =>
    rw [Nat.pow_succ]
    unfold rev
    omega
set_option maxRecDepth 100000 in
theorem rev_bits : ∀ c, c < 144 → bitsOf (rev (48 + c) 8) 8 = fixedSym c := by decide +kernel
theorem or_low (x r : Nat) (hx : x < 128) (hr : r < 2) : bits .or .u32 ((2 * x : Nat) : Int) (r : Int) = ((2 * x + r : Nat) : Int) := by
  have : ∀ (a : Fin 128) (b : Fin 2), bits .or .u32 ((2 * a.1 : Nat) : Int) ((b.1 : Nat) : Int) = ((2 * a.1 + b.1 : Nat) : Int) := by decide +kernel
  exact this ⟨x, hx⟩ ⟨r, hr⟩
theorem and_low (s : Nat) (hs : s < 256) : bits .and .u32 (s : Int) 1 = ((s % 2 : Nat) : Int) := by
  have : ∀ a : Fin 256, bits .and .u32 ((a.1 : Nat) : Int) 1 = ((a.1 % 2 : Nat) : Int) := by decide +kernel
  exact this ⟨s, hs⟩
/-! ### A writer beside a row -/
def LetIs (W : World) (v av : Value) (l : List Bool) (cs : List Nat) (w : World) : Prop :=
  ∃ O, isW w v l 0 O ∧ (∀ k, O k → W.heap.size ≤ k) ∧ w.ownsRow 0 5 1 av cs.length (cs.map byteVal) ∧ (∀ k, av.ownBlock = some k → W.heap.size ≤ k ∧ ¬ O k) ∧ Below W.heap.size W w
theorem LetIs.row {W w : World} {v av : Value} {l : List Bool} {cs : List Nat} (h : LetIs W v av l cs w) : w.ownsRow 0 5 1 av cs.length (cs.map byteVal) := by
  obtain ⟨_, _, _, h, _⟩ := h
  exact h
theorem LetIs.below {W w : World} {v av : Value} {l : List Bool} {cs : List Nat} (h : LetIs W v av l cs w) : Below W.heap.size W w := by
  obtain ⟨_, _, _, _, _, h⟩ := h
  exact h
theorem let_append {W w w' : World} {v av av' : Value} {l : List Bool} {cs xs : List Nat} {n : Nat} (h : LetIs W v av l cs w) (o : Obj) (hn : n = (cs ++ xs).length) (k1 : w'.ownsRow 0 5 1 av' n ((cs ++ xs).map byteVal)) (k2 : (w.alloc o).grownBy w' av.ownBlock) (k3 : ∀ k, av'.ownBlock = some k → av.ownBlock = some k ∨ (w.alloc o).heap.size ≤ k) : LetIs W v av' l (cs ++ xs) w' := by
  subst hn
  obtain ⟨O, h1, h2, h3, h4, h5⟩ := h
  have hlt := isW_lt _ _ _ _ _ h1
  have hb1 : Below w.heap.size w (w.alloc o) := (Below.refl _ _).alloc (Nat.le_refl _) _
  have h1' := isW_keep _ _ _ _ _ _ h1 hb1.size (fun k hk => hb1.block k (hlt k hk))
  refine ⟨O, isW_keep _ _ _ _ _ _ h1' k2.size (fun k hk => k2.block k (Nat.lt_of_lt_of_le (hlt k hk) hb1.size) (fun e => (h4 k e.symm).2 hk)), h2, k1, fun k hk => ?_, ?_⟩
  · rcases k3 k hk with h | h
    · exact h4 k h
    · have hs := hb1.size
      exact ⟨Nat.le_trans h5.size (Nat.le_trans hs h), fun hO => by have := hlt k hO; omega⟩
  · exact (h5.alloc h5.size o).grown k2 (Nat.le_trans h5.size hb1.size) (fun q hq => (h4 q hq).1)
theorem let_past {W w w' : World} {v av : Value} {l' : List Bool} {cs : List Nat} {O O' : Nat → Prop} (h1 : isW w' v l' 0 O') (h2 : ∀ b, O' b → O b ∨ w.heap.size ≤ b) (h3 : Past O w w') (hO : ∀ k, O k → W.heap.size ≤ k) (hr : w.ownsRow 0 5 1 av cs.length (cs.map byteVal)) (ha : ∀ k, av.ownBlock = some k → W.heap.size ≤ k ∧ ¬ O k) (hb : Below W.heap.size W w) : LetIs W v av l' cs w' := by
  refine ⟨O', h1, fun k hk => (h2 k hk).elim (hO k) (fun h => Nat.le_trans hb.size h), owns_kept hr (fun k hk => h3.block k (hr.lt k hk).2 (ha k hk).2), fun k hk => ⟨(ha k hk).1, fun ho => ?_⟩, hb.trans (h3.below hO hb.size)⟩
  rcases h2 k ho with h | h
  · exact (ha k hk).2 h
  · have := (hr.lt k hk).2
    omega
theorem let_put {W w : World} {v av : Value} {l : List Bool} {cs : List Nat} (h : LetIs W v av l cs w) (n k : Nat) (hl : l.length ≤ 1099511627776) (hk : k ≤ 32) (hn : n < 2 ^ k) :
    Calls Tryd.prog 16 #[v, .int .u32 (n : Int), .int .i64 (k : Int)] w fun e w' => e = .returned (.int .i64 0) ∧ Hid (LetIs W v av (l ++ bitsOf n k) cs w') := by
  obtain ⟨O, h1, h2, h3, h4, h5⟩ := h
  refine (put_code w v l 0 O n k h1 hl hk hn).mono ?_
  rintro e w' ⟨O', rfl, j1, j2, j3⟩
  exact ⟨rfl, let_past j1 j2 j3 h2 h3 h4 h5⟩
theorem let_align {W w : World} {v av : Value} {l : List Bool} {cs : List Nat} (h : LetIs W v av l cs w) (hl : l.length ≤ 1099511627776) :
    Calls Tryd.prog 17 #[v] w fun e w' => e = .returned (.int .i64 0) ∧ Hid (LetIs W v av (aligned l) cs w') := by
  obtain ⟨O, h1, h2, h3, h4, h5⟩ := h
  refine (align_code w v l 0 O h1 hl).mono ?_
  rintro e w' ⟨O', rfl, j1, j2, j3⟩
  exact ⟨rfl, let_past j1 j2 j3 h2 h3 h4 h5⟩
theorem let_take {W w : World} {v av : Value} {l : List Bool} {cs : List Nat} (h : LetIs W v av l cs w) (hl : l.length ≤ 1099511627776) :
    Calls Tryd.prog 18 #[v] w fun e w' => ∃ u, e = .returned u ∧ Hid (bytesIn w' u (bytesAt l 0 (l.length / 8))) ∧ Hid (bytesIn w' av cs) ∧ Hid (Below W.heap.size W w') := by
  obtain ⟨O, h1, h2, h3, h4, h5⟩ := h
  refine (take_code w v l 0 O h1 hl (by omega)).mono ?_
  rintro e w' ⟨u, O', rfl, j1, _, _, _, j5⟩
  rw [Nat.sub_zero] at j1
  exact ⟨u, rfl, j1, own_listed (c := byteVal) (owns_kept h3 (fun k hk => j5.block k (h3.lt k hk).2 (h4 k hk).2)), h5.trans (j5.below h2 h5.size)⟩
end Go.Proofs.YtbhmjppnhlmefaaDoor.Fx
