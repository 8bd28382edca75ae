/-
  What stands for bytes, spelt in the fixed codes, as landed: whatever takes the bits. The conditions stand in each.
-/
import Derived.Test.YtbhmjppnhlmefaaDoorWinC
import Derived.Test.YtbhmjppnhlmefaaDoorWinA
import Derived.Test.YtbhmjppnhlmefaaDoorBitsCt
namespace Go.Proofs.YtbhmjppnhlmefaaDoor.Fx
open Go Go.RowKit Go.Joins
set_option linter.unusedVariables false
/-! ### Groups are the document's tables -/
theorem group_of (G k e m : Nat) (h1 : (k - G * e) * 2 ^ e ≤ m) (h2 : m < (k - G * e + 1) * 2 ^ e) (h3 : k - G * e < 2 * G) (h4 : e = 0 ∨ G ≤ k - G * e) (h5 : G * e ≤ k) : Extra G m e ∧ G * e + m / 2 ^ e = k ∧ m % 2 ^ e = m - (k - G * e) * 2 ^ e := by
  have hp : 0 < 2 ^ e := Nat.two_pow_pos _
  have hq : m / 2 ^ e = k - G * e := by
    refine Nat.div_eq_of_lt_le h1 ?_
    exact h2
  refine ⟨⟨by rw [hq]; exact h3, ?_⟩, by rw [hq]; omega, ?_⟩
  · rcases h4 with h4 | h4
    · exact .inl h4
    · rcases Nat.eq_zero_or_pos e with h0 | h0
      · exact .inl h0
      · refine .inr ?_
        have hs : 2 ^ e = 2 ^ (e - 1) * 2 := by rw [← Nat.pow_succ, show (e - 1).succ = e by omega]
        refine (Nat.le_div_iff_mul_le (Nat.two_pow_pos _)).2 ?_
        refine Nat.le_trans ?_ h1
        rw [hs]
        generalize 2 ^ (e - 1) = p at *
        calc 2 * G * p = G * (p * 2) := by rw [Nat.mul_comm 2 G, Nat.mul_assoc, Nat.mul_comm 2 p]
          _ ≤ (k - G * e) * (p * 2) := Nat.mul_le_mul_right _ h4
  · have := Nat.mod_add_div m (2 ^ e)
    rw [hq, Nat.mul_comm] at this
    omega
theorem lens_rows : (List.range 28).all (fun k => let e := lext.getD k 0; decide (lens.getD k 0 = (k - 4 * e) * 2 ^ e + 3) && decide (lens.getD (k + 1) 0 ≤ (k - 4 * e + 1) * 2 ^ e + 3) && decide (k - 4 * e < 8) && decide (e = 0 ∨ 4 ≤ k - 4 * e) && decide (4 * e ≤ k) && decide (e ≤ 20)) = true := by decide +kernel
theorem dists_rows : (List.range 30).all (fun k => let e := dext.getD k 0; decide (dists.getD k 0 = (k - 2 * e) * 2 ^ e + 1) && decide ((if k = 29 then 32769 else dists.getD (k + 1) 0) = (k - 2 * e + 1) * 2 ^ e + 1) && decide (k - 2 * e < 4) && decide (e = 0 ∨ 2 ≤ k - 2 * e) && decide (2 * e ≤ k) && decide (e ≤ 20)) = true := by decide +kernel
theorem len_code (n : Nat) (h3 : 3 ≤ n) (h257 : n ≤ 257) : ∃ e, e ≤ 20 ∧ Extra 4 (n - 3) e ∧ 4 * e + (n - 3) / 2 ^ e = find lens n ∧ (n - 3) % 2 ^ e = n - lens.getD (find lens n) 0 ∧ lext.getD (find lens n) 0 = e ∧ find lens n < 28 := by
  obtain ⟨h1, h2, h4⟩ := find_spec lens n (by decide) (by simpa [lens] using h3)
  generalize find lens n = k at *
  have hk : k < 28 := by
    have : lens.length = 29 := rfl
    rcases Nat.lt_or_ge k 28 with h | h
    · exact h
    · obtain rfl : k = 28 := by omega
      have : lens.getD 28 0 = 258 := rfl
      omega
  have h5 := h4 (by have : lens.length = 29 := rfl; omega)
  have hr := List.all_eq_true.1 lens_rows k (List.mem_range.2 hk)
  simp only [Bool.and_eq_true, decide_eq_true_eq] at hr
  obtain ⟨⟨⟨⟨⟨a1, a2⟩, a3⟩, a4⟩, a5⟩, a6⟩ := hr
  obtain ⟨b1, b2, b3⟩ := group_of 4 k (lext.getD k 0) (n - 3) (by omega) (by omega) (by omega) a4 a5
  exact ⟨_, a6, b1, b2, by rw [b3, a1]; omega, rfl, hk⟩
theorem dist_code (n : Nat) (h1 : 1 ≤ n) (h2 : n ≤ 32768) : ∃ e, e ≤ 20 ∧ Extra 2 (n - 1) e ∧ 2 * e + (n - 1) / 2 ^ e = find dists n ∧ (n - 1) % 2 ^ e = n - dists.getD (find dists n) 0 ∧ dext.getD (find dists n) 0 = e ∧ find dists n < 30 := by
  obtain ⟨k1, k2, k4⟩ := find_spec dists n (by decide) (by simpa [dists] using h1)
  generalize find dists n = k at *
  have hk : k < 30 := k1
  have hr := List.all_eq_true.1 dists_rows k (List.mem_range.2 hk)
  simp only [Bool.and_eq_true, decide_eq_true_eq] at hr
  obtain ⟨⟨⟨⟨⟨a1, a2⟩, a3⟩, a4⟩, a5⟩, a6⟩ := hr
  have h5 : n < (if k = 29 then 32769 else dists.getD (k + 1) 0) := by
    split
    · omega
    · exact k4 (by have : dists.length = 30 := rfl; omega)
  obtain ⟨b1, b2, b3⟩ := group_of 2 k (dext.getD k 0) (n - 1) (by omega) (by omega) (by omega) a4 a5
  exact ⟨_, a6, b1, b2, by rw [b3, a1]; omega, rfl, hk⟩
/-- The bits of a match. -/
def lenBits (n : Nat) : List Bool := fixedSym (257 + find lens n) ++ bitsOf (n - lens.getD (find lens n) 0) (lext.getD (find lens n) 0)
def backBits (d : Nat) : List Bool := turned (find dists d) 5 ++ bitsOf (d - dists.getD (find dists d) 0) (dext.getD (find dists d) 0)
/-- The bits of parts of bytes, and of the end. -/
def spelt : List Nat → List (Nat × Nat) → List Bool
  | _, [] => fixedSym 256
  | zs, p :: ps => (if p.2 = 0 then fixedSym (zs.getD 0 0) else lenBits p.1 ++ backBits p.2) ++ spelt (zs.drop p.1) ps
theorem spelt_toks (zs : List Nat) (up f a : Nat) (ht : up ≤ zs.length) : spelt (zs.drop a) ((toks zs up f a).map partOf) = (toks zs up f a).flatMap tokBits ++ fixedSym 256 := by
  induction f generalizing a with
  | zero => rfl
  | succ f ih =>
    unfold toks
    by_cases ha : a < up
    · rw [if_pos ha]
      by_cases h3 : 3 ≤ (matchOf zs a up).1
      · rw [if_pos h3]
        obtain ⟨_, h4, _⟩ := matchOf_spec zs a up (by omega)
        have hb : ¬ a - (matchOf zs a up).2 = 0 := by omega
        rw [List.map_cons, List.flatMap_cons]
        simp only [partOf, if_neg hb]
        rw [spelt]
        simp only [if_neg hb]
        rw [List.drop_drop, ih]
        unfold tokBits lenBits backBits
        simp only [if_neg hb, List.append_assoc]
      · rw [if_neg h3, List.map_cons, List.flatMap_cons]
        simp only [partOf, if_pos]
        rw [spelt]
        simp only [if_pos]
        rw [List.drop_drop, ih]
        have e : (zs.drop a).getD 0 0 = zs.getD a 0 := by rw [List.getD_eq_getElem?_getD, List.getD_eq_getElem?_getD, List.getElem?_drop, Nat.add_zero]
        rw [e]
        unfold tokBits
        simp only [if_pos, List.append_assoc]
    · rw [if_neg ha]
      rfl
/-! ### Whatever takes bits -/
/-- A closure that takes bits: what it has taken (I), in which blocks of its own. -/
structure Sink (F : Nat) (cp : Value) (I : World → List Bool → (Nat → Prop) → Prop) : Prop where
  enter : ∀ (args : Array Value) (w : World), (callFunc F args).run Tryd.prog w = .ok (.enter F args) w
  lt : ∀ w l O, I w l O → ∀ k, O k → k < w.heap.size
  keep : ∀ w w' l O, I w l O → w.heap.size ≤ w'.heap.size → (∀ k, k < w.heap.size → w'.heap[k]? = w.heap[k]?) → I w' l O
  put : ∀ w l O (n k : Nat), I w l O → l.length ≤ 1099511627776 - 64 → n < 2 ^ k → k ≤ 32 → Calls Tryd.prog F #[.int .u32 (n : Int), .int .i64 (k : Int), cp] w fun e w' => e = .returned (.tuple #[]) ∧ ∃ O', I w' (l ++ bitsOf n k) O' ∧ (∀ b, O' b → O b ∨ w.heap.size ≤ b) ∧ Past O w w'
/-- What counts bits, in the one cell of a block. -/
def isC (q : Nat) (w : World) (l : List Bool) (O : Nat → Prop) : Prop := w.heap[q]? = some (.cells #[.int .i64 (l.length : Int)] 3 (0, 0)) ∧ O = fun k => k = q
theorem past_setCell (w : World) (q o : Nat) (v : Value) : Past (fun k => k = q) w (w.setCell ⟨q, o, none⟩ v) := ⟨rfl, rfl, rfl, by simp, fun k hk hn => Below.heap_setCell _ _ _ k hn⟩
theorem count_sink (q : Nat) : Sink 33 (.pointer (some ⟨q, 0, none⟩)) (isC q) := by
  refine ⟨fun args w => by go_simp, ?_, ?_, ?_⟩
  · rintro w l O ⟨h, rfl⟩ k rfl
    exact (Array.getElem?_eq_some_iff.1 h).1
  · rintro w w' l O ⟨h, rfl⟩ hs hk
    exact ⟨(hk q (Array.getElem?_eq_some_iff.1 h).1).trans h, rfl⟩
  · rintro w l O n k ⟨h, rfl⟩ hl hn hk
    have H := Lib.hid h
    have q0 := cell_of_block h 0
    have f0 := unfrozen_of_block h 0
    obtain ⟨L, eL⟩ : ∃ L, l.length = L := ⟨_, rfl⟩
    have EL := Lib.hid eL
    rw [eL] at q0 hl
    clear h eL
    go_enter Tryd.func33, Tryd.ntmps33
    go_wp2_with fail
    refine bodyPost_end (v := .tuple #[]) (by simp [results, Tryd.results33, go_sem]) rfl ⟨rfl, _, ⟨?_, rfl⟩, fun b hb => .inl hb, past_setCell _ _ _ _⟩
    rw [List.length_append, bitsOf_length, EL.out]
    exact block_setCell H.out _
/-- What puts bits into the writer of a packer, whose place lies in a box. -/
def isP (q g : Nat) (v : Value) (t : Nat) (w : World) (l : List Bool) (O : Nat → Prop) : Prop :=
  w.cell? ⟨q, 0, none⟩ = some (.pointer (some ⟨g, 0, none⟩)) ∧ w.cell? ⟨g, 0, none⟩ = some v ∧ isW w v l t O ∧ ¬ O q ∧ ¬ O g
theorem bits_sink (q g : Nat) (v : Value) (t : Nat) : Sink 36 (.pointer (some ⟨q, 0, none⟩)) (isP q g v t) := by
  refine ⟨fun args w => by go_simp, ?_, ?_, ?_⟩
  · rintro w l O ⟨_, _, h, _, _⟩ k hk
    exact isW_lt _ _ _ _ _ h k hk
  · rintro w w' l O ⟨h1, h2, h3, h4, h5⟩ hs hk
    exact ⟨(World.cell?_of_block (w := w) (a := ⟨q, 0, none⟩) (hk q (World.block_lt_of_cell? w _ h1))).trans h1, (World.cell?_of_block (w := w) (a := ⟨g, 0, none⟩) (hk g (World.block_lt_of_cell? w _ h2))).trans h2, isW_keep _ _ _ _ _ _ h3 hs (fun k ho => hk k (isW_lt _ _ _ _ _ h3 k ho)), h4, h5⟩
  · rintro w l O n k ⟨h1, h2, h3, h4, h5⟩ hl hn hk
    have hq := World.block_lt_of_cell? w _ h1
    have hg := World.block_lt_of_cell? w _ h2
    have KP := put_code w v l t O n k h3 (by omega) hk hn
    have H1 := Lib.hid h1
    have H2 := Lib.hid h2
    clear h3 hl
    go_enter Tryd.func36, Tryd.ntmps36
    go_wp2_with fail
    go_at_call 16
    refine KP.mono ?_
    rintro e w' ⟨O', rfl, k1, k2, k3⟩
    clear h1 h2
    go_wp2_with fail
    refine bodyPost_end (v := .tuple #[]) (by simp [results, Tryd.results36, go_sem]) rfl ⟨rfl, O', ⟨?_, ?_, k1, fun h => ?_, fun h => ?_⟩, k2, k3⟩
    · exact (World.cell?_of_block (w := w) (a := ⟨q, 0, none⟩) (k3.block q hq h4)).trans H1.out
    · exact (World.cell?_of_block (w := w) (a := ⟨g, 0, none⟩) (k3.block g hg h5)).trans H2.out
    · rcases k2 q h with h | h
      · exact h4 h
      · omega
    · rcases k2 g h with h | h
      · exact h5 h
      · omega
/-- What a call of many puts leaves: the bits that came, in the same blocks or new ones. -/
def Took (I : World → List Bool → (Nat → Prop) → Prop) (w : World) (l : List Bool) (O : Nat → Prop) (e : Ending) (w' : World) : Prop := e = .returned (.tuple #[]) ∧ ∃ O', I w' l O' ∧ (∀ b, O' b → O b ∨ w.heap.size ≤ b) ∧ Past O w w'
theorem fixedSym_len (n : Nat) : (fixedSym n).length ≤ 9 := by
  unfold fixedSym
  split
  · rw [turned_length]; omega
  split
  · rw [turned_length]; omega
  split
  · rw [turned_length]; omega
  · rw [turned_length]; omega
theorem put_sym {F : Nat} {cp : Value} {I : World → List Bool → (Nat → Prop) → Prop} (hI : Sink F cp I) (w : World) (l : List Bool) (O : Nat → Prop) (n : Nat) (h : I w l O) (hl : l.length ≤ 1099511627776 - 64) :
    Calls Tryd.prog F #[.int .u32 (numOf (fixedSym n) : Nat), .int .i64 ((fixedSym n).length : Int), cp] w (Took I w (l ++ fixedSym n) O) := by
  have := hI.put w l O (numOf (fixedSym n)) (fixedSym n).length h hl (numOf_below _) (by have := fixedSym_len n; omega)
  rw [bitsOf_numOf] at this
  exact this
set_option maxHeartbeats 2000000 in
theorem spellLength_code {F : Nat} {cp : Value} {I : World → List Bool → (Nat → Prop) → Prop} (hI : Sink F cp I) (n c : Nat) (h3 : 3 ≤ n) (h258 : n ≤ 258) (W : World) (l : List Bool) (O : Nat → Prop) (h : I W l O) (hl : l.length ≤ 1099511627776 - 256) (hc : W.cell? ⟨c, 0, none⟩ = some (.int .i64 4)) (hO : ¬ O c) :
    Calls Tryd.prog 45 #[.int .i64 (n : Int), groupOf c, .func (Fn.func F) #[] #[cp]] W (Took I W (l ++ lenBits n) O) := by
  by_cases hn : n = 258
  · subst hn
    have e : lenBits 258 = fixedSym 285 := by
      unfold lenBits
      rw [show find lens 258 = 28 from rfl, show lext.getD 28 0 = 0 from rfl]
      exact List.append_nil _
    have KP := put_sym hI W l O 285 h (by omega)
    have hent := hI.enter
    rw [e]
    have KF := fixed_any 285 (by omega) W
    generalize numOf (fixedSym 285) = N at *
    generalize (fixedSym 285).length = K at *
    go_enter Tryd.func45, Tryd.ntmps45
    go_wp2_with fail
    go_at_call 44
    refine KF.mono ?_
    rintro e w' ⟨rfl, rfl⟩
    go_wp2_with fail
    refine KP.mono ?_
    rintro e w' ⟨rfl, hK⟩
    go_wp2_with fail
    exact bodyPost_ret (v := .tuple #[]) (by simp [results, Tryd.results45, go_sem]) rfl ⟨rfl, hK⟩
  · have hn1 : ((n : Int) == 258) = false := by simp; omega
    have hn2 : decide ((n : Int) = 258) = false := decide_eq_false (by omega)
    obtain ⟨e, he, hx, hcode, hrest, hext, h28⟩ := len_code n h3 (by omega)
    have KG := group_any 4 (n - 3) e c (by omega) (by omega) he hx W hc
    have hsub : (n : Int) - 3 = ((n - 3 : Nat) : Int) := by omega
    rw [hcode, hrest] at KG
    have hb1 : n - lens.getD (find lens n) 0 < 2 ^ e := by rw [← hrest]; exact Nat.mod_lt _ (Nat.two_pow_pos _)
    unfold lenBits
    rw [hext]
    generalize find lens n = k at *
    generalize n - lens.getD k 0 = r at *
    have KF := fun w => fixed_any (257 + k) (by omega) w
    have KP := fun w h => put_sym hI w l O (257 + k) h (by omega)
    have KP2 := fun w O h => hI.put w (l ++ fixedSym (257 + k)) O r e h (by rw [List.length_append]; have := fixedSym_len (257 + k); omega) hb1 (by omega)
    have hent := hI.enter
    obtain ⟨K, eK⟩ : ∃ K, 257 + k = K := ⟨_, rfl⟩
    rw [eK] at KF KP KP2 ⊢
    have hsum : 257 + (k : Int) = (K : Int) := by omega
    generalize numOf (fixedSym K) = N at *
    generalize (fixedSym K).length = M at *
    have KP := Lib.hid KP
    have KP2 := Lib.hid KP2
    obtain ⟨m3, em3⟩ : ∃ m, n - 3 = m := ⟨_, rfl⟩
    rw [em3] at hsub KG
    have hk32 : K ≤ 1000 := by omega
    have hkk : k ≤ 1000 := by omega
    clear hrest hext hb1 hcode hx eK em3
    unfold groupOf
    go_enter Tryd.func45, Tryd.ntmps45
    go_wp2_with fail
    refine KG.mono ?_
    rintro e w' ⟨rfl, kk, rfl⟩
    have HW := hI.keep W (W.drewN kk) l O h (Nat.le_refl _) (fun _ _ => rfl)
    go_wp2_with fail
    go_at_call 44
    refine (KF _).mono ?_
    rintro e w' ⟨rfl, rfl⟩
    go_wp2_with fail
    refine (KP.out _ HW).mono ?_
    rintro e w2 ⟨rfl, O2, i1, i2, i3⟩
    have K2 := KP2.out w2 O2 i1
    clear HW
    go_wp2_with fail
    refine K2.mono ?_
    rintro e w3 ⟨rfl, O3, j1, j2, j3⟩
    go_wp2_with fail
    rw [List.append_assoc] at j1
    exact bodyPost_end (v := .tuple #[]) (by simp [results, Tryd.results45, go_sem]) rfl ⟨rfl, O3, j1, fun b hb => (j2 b hb).elim (fun h => i2 b h) (fun h => .inr (Nat.le_trans i3.size h)), Past.trans (w := W) ⟨i3.os, i3.tape, i3.output, i3.size, i3.block⟩ j3 i2⟩
end Go.Proofs.YtbhmjppnhlmefaaDoor.Fx
