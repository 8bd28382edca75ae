/-
  What each Put of a picture tells, as a function of the size and the pixels; an encoder's Put beside it; pixels in memory. The conditions stand in each.
-/
import Derived.Test.YtefdlidjdmlnaaaPngG
namespace Go.Proofs.Ytefdlidjdmlnaaa.Fx
open Go Go.RowKit Go.Joins
set_option linter.unusedVariables false
structure Px where
  a : Nat
  b : Nat
  c : Nat
  d : Nat
def Px.list (p : Px) : List Nat := [p.a, p.b, p.c, p.d]
def Px.ok (p : Px) : Prop := p.a < 256 ∧ p.b < 256 ∧ p.c < 256 ∧ p.d < 256
abbrev Px.cells (p : Px) : Array Value := px4 p.a p.b p.c p.d
def flagAt (w h k : Nat) : Bool := (flagsOf w h).getD k false
/-- All bytes that the first pixels wrote. -/
def allAt (w h : Nat) (px : Nat → Px) : Nat → List Nat
  | 0 => []
  | k + 1 => allAt w h px k ++ wroteOf (flagAt w h k) (px k).list
def headAt (w h k : Nat) : List Nat := if k = 0 then pngHeadOf w h else []
def pieceAt (w h : Nat) (px : Nat → Px) (k : Nat) : List Nat :=
  pieceOf (headAt w h k) (decide (0 < k)) (allAt w h px k) (wroteOf (flagAt w h k) (px k).list) (decide (k + 1 = w * h))
theorem all_length (w h : Nat) (px : Nat → Px) (k : Nat) : (allAt w h px k).length ≤ 5 * k := by
  induction k with
  | zero => exact Nat.le_refl _
  | succ k ih =>
    rw [allAt, List.length_append]
    have := wrote_length (flagAt w h k) (px k).list
    have h4 : (px k).list.length = 4 := rfl
    omega
theorem px_bytes {p : Px} (h : p.ok) : ∀ x ∈ p.list, x < 256 := by
  intro x hx
  unfold Px.list at hx
  unfold Px.ok at h
  simp only [List.mem_cons, List.not_mem_nil, or_false] at hx
  omega
theorem wrote_bytes (f : Bool) {p : Px} (h : p.ok) : ∀ x ∈ wroteOf f p.list, x < 256 := by
  intro x hx
  unfold wroteOf at hx
  rcases List.mem_append.1 hx with hx | hx
  · cases f with
    | true => simp at hx; omega
    | false => simp at hx
  · exact px_bytes h x hx
theorem all_bytes (w h : Nat) (px : Nat → Px) (hp : ∀ k, (px k).ok) (k : Nat) : ∀ x ∈ allAt w h px k, x < 256 := by
  induction k with
  | zero => intro x hx; cases hx
  | succ k ih =>
    intro x hx
    rw [allAt] at hx
    rcases List.mem_append.1 hx with hx | hx
    · exact ih x hx
    · exact wrote_bytes _ (hp k) x hx
theorem flags_drop {w h k : Nat} (hk : k < w * h) : (flagsOf w h).drop k = flagAt w h k :: (flagsOf w h).drop (k + 1) := by
  have hl : k < (flagsOf w h).length := by rw [flags_length]; exact hk
  rw [List.drop_eq_getElem_cons hl]
  unfold flagAt
  rw [List.getD_eq_getElem?_getD, List.getElem?_eq_getElem hl]
  rfl
theorem flags_over {w h k : Nat} (hk : k < w * h) : ((flagsOf w h).drop (k + 1)).isEmpty = decide (k + 1 = w * h) := by
  rw [Bool.eq_iff_iff, List.isEmpty_iff_length_eq_zero, List.length_drop, flags_length, decide_eq_true_iff]
  omega
theorem headAt_length (w h k : Nat) : (headAt w h k).length ≤ 33 := by
  unfold headAt
  split
  · rw [head_length]; exact Nat.le_refl _
  · exact Nat.zero_le _
/-- An encoder of w times h pixels of which k were put. -/
def encAt (W : World) (v : Value) (w h : Nat) (px : Nat → Px) (k : Nat) (O : Nat → Prop) : Prop := isPng W v (headAt w h k) ((flagsOf w h).drop k) (allAt w h px k) (decide (0 < k)) O
theorem put_at (W : World) (v : Value) (w h : Nat) (px : Nat → Px) (k : Nat) (O : Nat → Prop) (hp : ∀ k, (px k).ok) (hP : encAt W v w h px k O) (hk : k < w * h) (hb : w * h ≤ 2000000) :
    Calls Try.prog 17 #[v, .agg (px k).cells] W fun e w' => ∃ o n c O', e = .returned (.tuple #[.slice o n c, .int .i64 0]) ∧ Hid ((pieceAt w h px k).length = n) ∧ Hid (bytesIn w' (.slice o n c) (pieceAt w h px k)) ∧ Hid (encAt w' v w h px (k + 1) O') ∧ Hid (∀ q, O' q → O q ∨ W.heap.size ≤ q) ∧ Hid (Past O W w') := by
  unfold encAt at hP
  rw [flags_drop hk] at hP
  have hal := all_length w h px (k + 1)
  rw [allAt] at hal
  refine (put_code9 W v _ _ _ _ _ O (px k).a (px k).b (px k).c (px k).d hP ?_ (Nat.le_trans hal (by omega)) (Nat.le_trans (headAt_length w h k) (by decide))).mono ?_
  · intro x hx
    exact all_bytes w h px hp (k + 1) x hx
  · rintro e w' ⟨o, n, c, O', rfl, h1, h2, h3, h4, h5⟩
    rw [flags_over hk] at h1 h2
    refine ⟨o, n, c, O', rfl, h1, h2, ?_, h4, h5⟩
    show encAt _ _ _ _ _ _ _
    unfold encAt
    rw [decide_eq_true (Nat.succ_pos k)]
    exact h3
theorem left_at (W : World) (v : Value) (w h : Nat) (px : Nat → Px) (k : Nat) (O : Nat → Prop) (hP : encAt W v w h px k O) (hk : k ≤ w * h) :
    Calls Try.prog 12 #[v] W fun e w' => e = .returned (.int .i64 ((w * h - k : Nat) : Int)) ∧ W = w' := by
  have h1 := left_code W v _ _ _ _ O hP
  rw [List.length_drop, flags_length] at h1
  exact h1
theorem over_at (W : World) (v : Value) (w h : Nat) (px : Nat → Px) (O : Nat → Prop) (p : Px) (hP : encAt W v w h px (w * h) O) :
    Calls Try.prog 17 #[v, .agg p.cells] W fun e w' => e = .returned (.tuple #[.slice none 0 0, .int .i64 23]) ∧ Hid (Below W.heap.size W w') := by
  unfold encAt at hP
  rw [List.drop_of_length_le (by rw [flags_length]; exact Nat.le_refl _)] at hP
  exact putOver_code W v _ _ _ O p.a p.b p.c p.d hP
theorem new_at (w h : Nat) (px : Nat → Px) (W : World) (hw1 : 1 ≤ w) (hw : w ≤ 1024) (hh1 : 1 ≤ h) (hh : h ≤ 1024) :
    Calls Try.prog 10 #[.int .i64 (w : Int), .int .i64 (h : Int)] W fun e w' => ∃ p O, e = .returned (.tuple #[.pointer p, .int .i64 0]) ∧ Hid (encAt w' (.pointer p) w h px 0 O) ∧ Hid (∀ k, O k → W.heap.size ≤ k) ∧ Hid (Below W.heap.size W w') :=
  pnew_code w h W hw1 hw hh1 hh
theorem encAt_lt {W : World} {v : Value} {w h : Nat} {px : Nat → Px} {k : Nat} {O : Nat → Prop} (hP : encAt W v w h px k O) : ∀ q, O q → q < W.heap.size := isPng_lt hP
theorem encAt_keep {W w' : World} {v : Value} {w h : Nat} {px : Nat → Px} {k : Nat} {O : Nat → Prop} (hP : encAt W v w h px k O) (hs : W.heap.size ≤ w'.heap.size) (hk : ∀ q, O q → w'.heap[q]? = W.heap[q]?) : encAt w' v w h px k O := isPng_keep hP hs hk
theorem encAt_below {W w' : World} {v : Value} {w h : Nat} {px : Nat → Px} {k : Nat} {O : Nat → Prop} (hP : encAt W v w h px k O) (hb : Below W.heap.size W w') : encAt w' v w h px k O := isPng_below hP hb
/-! ### Pixels in memory -/
/-- A slice's value that reads as the first n of these pixels. -/
def pixIn (W : World) (v : Value) (n : Nat) (px : Nat → Px) : Prop :=
  (n = 0 ∧ ∃ o c, v = .slice o 0 c) ∨ ∃ b off cap, v = .slice (some ⟨b, off, none⟩) n cap ∧ n ≤ cap ∧ b < W.heap.size ∧ ∀ i, i < n → W.cell? ⟨b, off + i * 4, none⟩ = some (.int .u8 ((px i).a : Int)) ∧ W.cell? ⟨b, off + i * 4 + 1, none⟩ = some (.int .u8 ((px i).b : Int)) ∧ W.cell? ⟨b, off + i * 4 + 2, none⟩ = some (.int .u8 ((px i).c : Int)) ∧ W.cell? ⟨b, off + i * 4 + 3, none⟩ = some (.int .u8 ((px i).d : Int))
theorem pixIn_shape {W : World} {v : Value} {n : Nat} {px : Nat → Px} (h : pixIn W v n px) : ∃ o c, v = .slice o n c := by
  rcases h with ⟨rfl, o, c, rfl⟩ | ⟨b, off, cap, rfl, _⟩
  · exact ⟨o, c, rfl⟩
  · exact ⟨_, _, rfl⟩
theorem pixIn_on {W w' : World} {v : Value} {n : Nat} {px : Nat → Px} (h : pixIn W v n px) (hb : Below W.heap.size W w') : pixIn w' v n px := by
  rcases h with h | ⟨b, off, cap, rfl, hc, hlt, hi⟩
  · exact .inl h
  · refine .inr ⟨b, off, cap, rfl, hc, Nat.lt_of_lt_of_le hlt hb.size, fun i hn => ?_⟩
    obtain ⟨h1, h2, h3, h4⟩ := hi i hn
    exact ⟨(hb.cell (p := ⟨b, off + i * 4, none⟩) hlt).trans h1, (hb.cell (p := ⟨b, off + i * 4 + 1, none⟩) hlt).trans h2, (hb.cell (p := ⟨b, off + i * 4 + 2, none⟩) hlt).trans h3, (hb.cell (p := ⟨b, off + i * 4 + 3, none⟩) hlt).trans h4⟩
theorem pixIn_get {W : World} {o : Option Addr} {n c : Nat} {px : Nat → Px} (h : pixIn W (.slice o n c) n px) (i : Nat) (hi : i < n) : ∃ b off, o = some ⟨b, off, none⟩ ∧ b < W.heap.size ∧ W.cell? ⟨b, off + i * 4, none⟩ = some (.int .u8 ((px i).a : Int)) ∧ W.cell? ⟨b, off + i * 4 + 1, none⟩ = some (.int .u8 ((px i).b : Int)) ∧ W.cell? ⟨b, off + i * 4 + 2, none⟩ = some (.int .u8 ((px i).c : Int)) ∧ W.cell? ⟨b, off + i * 4 + 3, none⟩ = some (.int .u8 ((px i).d : Int)) := by
  rcases h with ⟨rfl, _⟩ | ⟨b, off, cap, e, _, hlt, hc⟩
  · omega
  · simp only [Value.slice.injEq] at e
    exact ⟨b, off, e.1, hlt, hc i hi⟩
end Go.Proofs.Ytefdlidjdmlnaaa.Fx
