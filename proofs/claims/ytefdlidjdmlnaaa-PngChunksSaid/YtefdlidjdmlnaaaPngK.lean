/-
  A whole file as a sign and chunks; four bytes read as a number; a part of a list. The conditions stand in each.
-/
import Derived.Test.YtefdlidjdmlnaaaPngS
namespace Go.Proofs.Ytefdlidjdmlnaaa.Fx
open Go Go.RowKit Go.Joins
set_option linter.unusedVariables false
def flatOf (cs : List (List Nat × List Nat)) : List Nat := cs.flatMap fun c => chunkOf c.1 c.2
def posOf (cs : List (List Nat × List Nat)) (j : Nat) : Nat := 8 + (flatOf (cs.take j)).length
theorem flat_app (a b : List (List Nat × List Nat)) : flatOf (a ++ b) = flatOf a ++ flatOf b := by
  unfold flatOf
  exact List.flatMap_append
def packedAt (w h : Nat) (px : Nat → Px) (k : Nat) : List Nat := packedOf (decide (0 < k)) (allAt w h px k) (wroteOf (flagAt w h k) (px k).list) (decide (k + 1 = w * h))
def chAt (w h : Nat) (px : Nat → Px) (k : Nat) : List (List Nat × List Nat) :=
  (if k = 0 then [(kindHead, saysOf w h)] else []) ++ (if packedAt w h px k = [] then [] else [(kindData, packedAt w h px k)]) ++ (if k + 1 = w * h then [(kindEnd, [])] else [])
theorem piece_chs (w h : Nat) (px : Nat → Px) (k : Nat) : pieceAt w h px k = (if k = 0 then signOf else []) ++ flatOf (chAt w h px k) := by
  unfold pieceAt pieceOf chAt headAt
  show _ ++ (if packedAt w h px k = [] then [] else chunkOf kindData (packedAt w h px k)) ++ _ = _
  generalize packedAt w h px k = P
  rw [flat_app, flat_app]
  have e1 : flatOf (if P = [] then [] else [(kindData, P)]) = if P = [] then [] else chunkOf kindData P := by
    split
    · rfl
    · simp [flatOf]
  have e2 : flatOf (if k + 1 = w * h then [(kindEnd, [])] else []) = if decide (k + 1 = w * h) = true then chunkOf kindEnd [] else [] := by
    by_cases hl : k + 1 = w * h
    · rw [if_pos hl, if_pos (decide_eq_true hl)]
      simp [flatOf]
    · rw [if_neg hl, decide_eq_false hl]
      rfl
  rw [e1, e2]
  by_cases h0 : k = 0
  · rw [if_pos h0, if_pos h0, if_pos h0]
    unfold pngHeadOf
    simp [flatOf]
  · rw [if_neg h0, if_neg h0, if_neg h0]
    simp [flatOf]
def wholeTo (w h : Nat) (px : Nat → Px) : Nat → List Nat
  | 0 => []
  | k + 1 => wholeTo w h px k ++ pieceAt w h px k
def chsTo (w h : Nat) (px : Nat → Px) : Nat → List (List Nat × List Nat)
  | 0 => []
  | k + 1 => chsTo w h px k ++ chAt w h px k
theorem whole_chs (w h : Nat) (px : Nat → Px) (k : Nat) : wholeTo w h px k = (if k = 0 then [] else signOf) ++ flatOf (chsTo w h px k) := by
  induction k with
  | zero => rfl
  | succ k ih =>
    rw [wholeTo, chsTo, ih, piece_chs, flat_app, if_neg (Nat.succ_ne_zero k)]
    by_cases h0 : k = 0
    · subst h0
      simp [chsTo, flatOf]
    · rw [if_neg h0, if_neg h0]
      simp
theorem chs_head (w h : Nat) (px : Nat → Px) (k : Nat) (hk : 1 ≤ k) : ∃ ds, chsTo w h px k = (kindHead, saysOf w h) :: ds := by
  induction k with
  | zero => omega
  | succ k ih =>
    by_cases h0 : k = 0
    · subst h0
      have h1 : ∃ ds, chAt w h px 0 = (kindHead, saysOf w h) :: ds := by
        unfold chAt
        rw [if_pos rfl]
        exact ⟨_, rfl⟩
      obtain ⟨ds, e⟩ := h1
      exact ⟨ds, by rw [chsTo, chsTo, e]; rfl⟩
    · obtain ⟨ds, e⟩ := ih (by omega)
      exact ⟨ds ++ chAt w h px k, by rw [chsTo, e]; rfl⟩
theorem chs_last (w h : Nat) (px : Nat → Px) (k : Nat) (hk : k + 1 = w * h) : ∃ ds, chsTo w h px (k + 1) = ds ++ [(kindEnd, [])] := by
  refine ⟨chsTo w h px k ++ ((if k = 0 then [(kindHead, saysOf w h)] else []) ++ (if packedAt w h px k = [] then [] else [(kindData, packedAt w h px k)])), ?_⟩
  rw [chsTo, chAt, if_pos hk, ← List.append_assoc]
/-- A chunk that may be. -/
def chOk (c : List Nat × List Nat) : Prop := (c.1 = kindHead ∨ c.1 = kindData ∨ c.1 = kindEnd) ∧ c.2.length ≤ 400000010
theorem chAt_ok (w h : Nat) (px : Nat → Px) (k : Nat) (hk : k ≤ 1000000) : ∀ c ∈ chAt w h px k, chOk c := by
  intro c hc
  unfold chAt at hc
  have hal := all_length w h px (k + 1)
  rw [allAt] at hal
  rcases List.mem_append.1 hc with hc | hc
  · rcases List.mem_append.1 hc with hc | hc
    · split at hc
      · obtain rfl := List.mem_singleton.1 hc
        refine ⟨.inl rfl, ?_⟩
        show (saysOf w h).length ≤ _
        rw [says_length]
        omega
      · cases hc
    · split at hc
      · cases hc
      · obtain rfl := List.mem_singleton.1 hc
        refine ⟨.inr (.inl rfl), ?_⟩
        exact packed_length _ _ _ _ (by omega)
  · split at hc
    · obtain rfl := List.mem_singleton.1 hc
      exact ⟨.inr (.inr rfl), Nat.zero_le _⟩
    · cases hc
theorem chs_ok (w h : Nat) (px : Nat → Px) (k : Nat) (hk : k ≤ 1000000) : ∀ c ∈ chsTo w h px k, chOk c := by
  induction k with
  | zero => intro c hc; cases hc
  | succ k ih =>
    intro c hc
    rw [chsTo] at hc
    rcases List.mem_append.1 hc with hc | hc
    · exact ih (by omega) c hc
    · exact chAt_ok w h px k (by omega) c hc
theorem kind_four {c : List Nat × List Nat} (h : chOk c) : c.1.length = 4 := by
  rcases h.1 with h | h | h <;> rw [h] <;> rfl
theorem drop_get (cs : List (List Nat × List Nat)) (j : Nat) (c : List Nat × List Nat) (hj : cs[j]? = some c) : cs = cs.take j ++ c :: cs.drop (j + 1) ∧ cs.take (j + 1) = cs.take j ++ [c] := by
  obtain ⟨hl, rfl⟩ := List.getElem?_eq_some_iff.1 hj
  constructor
  · conv => lhs; rw [← List.take_append_drop j cs]
    rw [List.drop_eq_getElem_cons hl]
  · rw [List.take_add_one, List.getElem?_eq_getElem hl]
    rfl
/-- Where a chunk stands, and what stands there. -/
theorem at_chunk (cs : List (List Nat × List Nat)) (j : Nat) (c : List Nat × List Nat) (hj : cs[j]? = some c) (hc : chOk c) (T : List Nat) (hT : T = signOf ++ flatOf cs) :
    posOf cs (j + 1) = posOf cs j + (c.2.length + 12) ∧ posOf cs (j + 1) ≤ T.length ∧
    T[posOf cs j]? = some (c.2.length / 16777216 % 256) ∧ T[posOf cs j + 1]? = some (c.2.length / 65536 % 256) ∧ T[posOf cs j + 2]? = some (c.2.length / 256 % 256) ∧ T[posOf cs j + 3]? = some (c.2.length % 256) ∧
    (T.take (posOf cs j + 8)).drop (posOf cs j + 4) = c.1 := by
  obtain ⟨e1, e2⟩ := drop_get cs j c hj
  have h4 := kind_four hc
  obtain ⟨A, eA⟩ : ∃ A, signOf ++ flatOf (cs.take j) = A := ⟨_, rfl⟩
  have hA : A.length = posOf cs j := by rw [← eA, List.length_append]; rfl
  obtain ⟨B, eB⟩ : ∃ B, c.2 ++ fourOf (Ad.Cr.crc 0 (c.1 ++ c.2)) ++ flatOf (cs.drop (j + 1)) = B := ⟨_, rfl⟩
  have hTT : T = A ++ (fourOf c.2.length ++ (c.1 ++ B)) := by
    rw [hT]
    conv => lhs; rw [e1]
    rw [flat_app, ← eA, ← eB]
    show signOf ++ (_ ++ (chunkOf c.1 c.2 ++ flatOf _)) = _
    unfold chunkOf
    simp only [List.append_assoc]
  have hp : posOf cs (j + 1) = posOf cs j + (c.2.length + 12) := by
    unfold posOf
    rw [e2, flat_app, List.length_append]
    show _ + (_ + (chunkOf c.1 c.2 ++ []).length) = _
    rw [List.append_nil, chunk_length _ _ h4]
    omega
  have hB : c.2.length + 4 ≤ B.length := by
    rw [← eB]
    simp only [List.length_append, fourOf_length]
    omega
  refine ⟨hp, ?_, ?_, ?_, ?_, ?_, ?_⟩
  · rw [hTT, hp, ← hA]
    simp only [List.length_append, fourOf_length, h4]
    omega
  · rw [hTT, ← hA, List.getElem?_append_right (Nat.le_refl _), Nat.sub_self]
    rfl
  · rw [hTT, ← hA, List.getElem?_append_right (Nat.le_add_right _ _), Nat.add_sub_cancel_left]
    rfl
  · rw [hTT, ← hA, List.getElem?_append_right (Nat.le_add_right _ _), Nat.add_sub_cancel_left]
    rfl
  · rw [hTT, ← hA, List.getElem?_append_right (Nat.le_add_right _ _), Nat.add_sub_cancel_left]
    rfl
  · rw [hTT, ← hA, List.drop_take, List.drop_append]
    rw [List.drop_eq_nil_of_le (Nat.le_add_right _ _), Nat.add_sub_cancel_left]
    have e3 : A.length + 8 - (A.length + 4) = 4 := by omega
    rw [e3]
    show (c.1 ++ B).take 4 = c.1
    rw [List.take_append_of_le_length (by omega), List.take_of_length_le (by omega)]
theorem pos_end (cs : List (List Nat × List Nat)) : posOf cs cs.length = (signOf ++ flatOf cs).length := by
  unfold posOf
  rw [List.take_length, List.length_append]
  rfl
theorem pos_begin (cs : List (List Nat × List Nat)) : posOf cs 0 = 8 := rfl
/-! ### Four bytes as a number -/
theorem i64_or_nat (a b : Nat) (ha : a < 4294967296) (hb : b < 4294967296) : bits .or .i64 (a : Int) (b : Int) = ((a ||| b : Nat) : Int) := by
  have hx : a ||| b < 2 ^ 32 := Nat.or_lt_two_pow (by omega) (by omega)
  have h1 : (BitVec.ofInt 64 (a : Int)).toNat = a := by
    rw [BitVec.ofInt_natCast, BitVec.toNat_ofNat]; exact Nat.mod_eq_of_lt (by omega)
  have h2 : (BitVec.ofInt 64 (b : Int)).toNat = b := by
    rw [BitVec.ofInt_natCast, BitVec.toNat_ofNat]; exact Nat.mod_eq_of_lt (by omega)
  show IntKind.i64.wrap ((BitVec.ofInt 64 (a : Int) ||| BitVec.ofInt 64 (b : Int)).toNat : Int) = _
  rw [BitVec.toNat_or, h1, h2, IntKind.wrap_i64]
  omega
theorem or_shl (x y k : Nat) (hy : y < 2 ^ k) : x * 2 ^ k ||| y = x * 2 ^ k + y := by
  have := Nat.shiftLeft_add_eq_or_of_lt hy x
  rw [Nat.shiftLeft_eq] at this
  exact this.symm
theorem four_join (n : Nat) (hn : n < 4294967296) :
    ((n / 16777216 % 256 * 16777216 ||| n / 65536 % 256 * 65536) ||| n / 256 % 256 * 256) ||| n % 256 = n := by
  have h1 : n / 16777216 % 256 * 16777216 ||| n / 65536 % 256 * 65536 = n / 16777216 % 256 * 16777216 + n / 65536 % 256 * 65536 := or_shl (n / 16777216 % 256) (n / 65536 % 256 * 65536) 24 (by omega)
  have h2 : (n / 16777216 % 256 * 256 + n / 65536 % 256) * 65536 ||| n / 256 % 256 * 256 = (n / 16777216 % 256 * 256 + n / 65536 % 256) * 65536 + n / 256 % 256 * 256 := or_shl (n / 16777216 % 256 * 256 + n / 65536 % 256) (n / 256 % 256 * 256) 16 (by omega)
  have h3 : ((n / 16777216 % 256 * 256 + n / 65536 % 256) * 256 + n / 256 % 256) * 256 ||| n % 256 = ((n / 16777216 % 256 * 256 + n / 65536 % 256) * 256 + n / 256 % 256) * 256 + n % 256 := or_shl ((n / 16777216 % 256 * 256 + n / 65536 % 256) * 256 + n / 256 % 256) (n % 256) 8 (by omega)
  rw [h1]
  rw [show n / 16777216 % 256 * 16777216 + n / 65536 % 256 * 65536 = (n / 16777216 % 256 * 256 + n / 65536 % 256) * 65536 by omega, h2]
  rw [show (n / 16777216 % 256 * 256 + n / 65536 % 256) * 65536 + n / 256 % 256 * 256 = ((n / 16777216 % 256 * 256 + n / 65536 % 256) * 256 + n / 256 % 256) * 256 by omega, h3]
  omega
theorem or_low32 (a b : Nat) (ha : a < 4294967296) (hb : b < 4294967296) : (a ||| b) < 4294967296 := by
  have h : a ||| b < 2 ^ 32 := Nat.or_lt_two_pow (by omega) (by omega)
  omega
theorem small_wrap (n : Nat) (h : n < 1000000000000) : IntKind.i64.wrap (n : Int) = (n : Int) := by rw [IntKind.wrap_i64]; omega
/-- What the walk meets where four bytes are read as a number. -/
structure FourFacts (L x0 x1 x2 x3 X0 X1 X2 A1 A2 : Nat) : Prop where
  u0 : IntKind.i64.wrap (x0 : Int) = (x0 : Int)
  u1 : IntKind.i64.wrap (x1 : Int) = (x1 : Int)
  u2 : IntKind.i64.wrap (x2 : Int) = (x2 : Int)
  u3 : IntKind.i64.wrap (x3 : Int) = (x3 : Int)
  y0 : (x0 : Int) * 16777216 = (X0 : Int)
  y1 : (x1 : Int) * 65536 = (X1 : Int)
  y2 : (x2 : Int) * 256 = (X2 : Int)
  v0 : IntKind.i64.wrap (X0 : Int) = (X0 : Int)
  v1 : IntKind.i64.wrap (X1 : Int) = (X1 : Int)
  v2 : IntKind.i64.wrap (X2 : Int) = (X2 : Int)
  o1 : bits .or .i64 (X0 : Int) (X1 : Int) = (A1 : Int)
  o2 : bits .or .i64 (A1 : Int) (X2 : Int) = (A2 : Int)
  o3 : bits .or .i64 (A2 : Int) (x3 : Int) = (L : Int)
theorem four_facts (L : Nat) (hL : L < 4294967296) : ∃ x0 x1 x2 x3 X0 X1 X2 A1 A2 : Nat, L / 16777216 % 256 = x0 ∧ L / 65536 % 256 = x1 ∧ L / 256 % 256 = x2 ∧ L % 256 = x3 ∧ FourFacts L x0 x1 x2 x3 X0 X1 X2 A1 A2 := by
  have lo : ∀ x k : Nat, k ≤ 16777216 → x % 256 * k < 4294967296 := fun x k hk => by
    have h1 : x % 256 ≤ 255 := by omega
    have h2 := Nat.mul_le_mul h1 hk
    omega
  have hX0 := lo (L / 16777216) 16777216 (by decide)
  have hX1 := lo (L / 65536) 65536 (by decide)
  have hX2 := lo (L / 256) 256 (by decide)
  have h3 : L % 256 < 4294967296 := by omega
  have hA1 : (L / 16777216 % 256 * 16777216 ||| L / 65536 % 256 * 65536) < 4294967296 := or_low32 _ _ hX0 hX1
  have hA2 : ((L / 16777216 % 256 * 16777216 ||| L / 65536 % 256 * 65536) ||| L / 256 % 256 * 256) < 4294967296 := or_low32 _ _ hA1 hX2
  refine ⟨_, _, _, _, L / 16777216 % 256 * 16777216, L / 65536 % 256 * 65536, L / 256 % 256 * 256, L / 16777216 % 256 * 16777216 ||| L / 65536 % 256 * 65536, (L / 16777216 % 256 * 16777216 ||| L / 65536 % 256 * 65536) ||| L / 256 % 256 * 256, rfl, rfl, rfl, rfl, ?_⟩
  exact {
    u0 := small_wrap _ (by omega)
    u1 := small_wrap _ (by omega)
    u2 := small_wrap _ (by omega)
    u3 := small_wrap _ (by omega)
    y0 := by omega
    y1 := by omega
    y2 := by omega
    v0 := small_wrap _ (Nat.lt_trans hX0 (by decide))
    v1 := small_wrap _ (Nat.lt_trans hX1 (by decide))
    v2 := small_wrap _ (Nat.lt_trans hX2 (by decide))
    o1 := i64_or_nat _ _ hX0 hX1
    o2 := i64_or_nat _ _ hA1 hX2
    o3 := by rw [i64_or_nat _ _ hA2 h3, four_join L hL] }
/-! ### A slice expression l[i:j] of a list -/
theorem listed_part {α : Type} {c : α → Value} {P : Program} {t : TypeId} (ht : P.underlying t = some (.slice (P.elem t))) (he : ∀ w, (sizeOf (P.elem t)).run P w = .ok 1 w) {W : World} {v : Value} {zs : List α} (h : listed c W v zs) (i j : Nat) (hi : i < j) (hj : j ≤ zs.length) :
    ∃ o q, (∀ w, (Instr.slice t v (some (.int .i64 (i : Int))) (some (.int .i64 (j : Int))) none).run P w = .ok (.slice o (j - i) q) w) ∧ listed c W (.slice o (j - i) q) ((zs.take j).drop i) := by
  rcases h with ⟨⟨o, cap, rfl, ho⟩, rfl⟩ | ⟨b, off, cap, rfl, hlt, hle, hc⟩
  · simp at hj
    omega
  · have hlen : ((zs.take j).drop i).length = j - i := by rw [List.length_drop, List.length_take]; omega
    refine ⟨some ⟨b, off + i, none⟩, cap - i, fun w => ?_, .inr ⟨b, off + i, cap - i, by rw [hlen], hlt, by omega, fun k z hk => ?_⟩⟩
    · rw [run_slice_lh w t (some ⟨b, off, none⟩) zs.length cap ht .i64 .i64 i j (by omega) (by omega) (by omega), he]
      have hadd : (⟨b, off, none⟩ : Addr).add i = ⟨b, off + i, none⟩ := by unfold Addr.add; split <;> simp_all
      have hci : ¬ cap = i := by omega
      simp [sliced, Result.andThen, hadd, hci]
    · rw [List.getElem?_drop, List.getElem?_take] at hk
      split at hk
      · rw [Nat.add_assoc]
        exact hc _ z hk
      · cases hk
end Go.Proofs.Ytefdlidjdmlnaaa.Fx
