/-
  Ways: what is read of bits, with bytes that stand ahead and a room: each is the same with other bits behind, ErrShort where bits are wanting, ErrLong with less room. Built of small ones, these laws ride along. No condition but those that are said.
  Plain inflate: codes of lengths, symbols, blocks of all three kinds, as ways. No condition but those that are said.
  What deflate tells is told back: plain. No condition but those that are said.
  What deflate tells is told back, block by block; streams that are cut, behind which more stands, with less room: plain. No condition but those that are said.
  What is told, by bytes: with fewer, with more. No condition but those that are said.
  What deflate tells is told back: by bytes, plain.
-/
import Derived.Test.YtefdlidjdmlnaaaBitsP
import Derived.Test.YtefdlidjdmlnaaaDeflQ
namespace Go.Proofs.Ytefdlidjdmlnaaa.Fx
set_option linter.unusedVariables false
/-- Where the reading is, and the bytes so far. -/
structure St where
  pos : Nat
  out : List Nat
inductive Res (α : Type) where
  | ok (a : α) (s : St)
  | err (e : Nat)
structure Way (α : Type) where
  run : Nat → List Bool → Nat → St → Option (Res α)
  more : ∀ f L m s r, run f L m s = some r → run (f + 1) L m s = some r
  on : ∀ f L m s a t, s.pos ≤ L.length → L.length % 8 = 0 → run f L m s = some (.ok a t) → s.pos ≤ t.pos ∧ t.pos ≤ L.length ∧ s.out.length ≤ t.out.length ∧ (s.out.length ≤ m → t.out.length ≤ m)
  alike : ∀ f L m s a t, s.pos ≤ L.length → L.length % 8 = 0 → run f L m s = some (.ok a t) → ∀ L' m', L'.length % 8 = 0 → t.pos ≤ L'.length → L'.take t.pos = L.take t.pos → m ≤ m' → run f L' m' s = some (.ok a t)
  cut : ∀ f L m s a t, s.pos ≤ L.length → L.length % 8 = 0 → run f L m s = some (.ok a t) → ∀ k, s.pos ≤ k → k < t.pos → k % 8 = 0 → run f (L.take k) m s = some (.err 12)
  low : ∀ f L m s a t, run f L m s = some (.ok a t) → ∀ m', m' ≤ m → run f L m' s = some (.ok a t) ∨ run f L m' s = some (.err 3)
namespace Way
def pure {α : Type} (a : α) : Way α where
  run := fun _ _ _ s => some (.ok a s)
  more := fun f L m s r h => h
  on := fun f L m s a' t h1 h2 h => by
    cases h
    exact ⟨Nat.le_refl _, h1, Nat.le_refl _, fun h => h⟩
  alike := fun f L m s a' t _ _ h L' m' _ _ _ _ => h
  cut := fun f L m s a' t h1 h2 h k hk hk2 _ => by
    cases h
    omega
  low := fun f L m s a' t h m' _ => .inl h
def fail {α : Type} (e : Nat) : Way α where
  run := fun _ _ _ _ => some (.err e)
  more := fun f L m s r h => h
  on := fun f L m s a t _ _ h => by cases h
  alike := fun f L m s a t _ _ h => by cases h
  cut := fun f L m s a t _ _ h => by cases h
  low := fun f L m s a t h => by cases h
def get (k : Nat) : Way Nat where
  run := fun _ L _ s => some (if L.length < s.pos + k then .err 12 else .ok (numAt L s.pos k) ⟨s.pos + k, s.out⟩)
  more := fun f L m s r h => h
  on := fun f L m s a t h1 h2 h => by
    simp only [Option.some.injEq] at h
    split at h
    · cases h
    · cases h
      exact ⟨by simp only; omega, by simp only; omega, Nat.le_refl _, fun h => h⟩
  alike := fun f L m s a t h1 h2 h L' m' h3 h4 h5 h6 => by
    simp only [Option.some.injEq] at h ⊢
    split at h
    · cases h
    · cases h
      simp only at h4 h5
      rw [if_neg (by omega)]
      have e : ∀ X : List Bool, numAt X s.pos k = numOf ((X.take (s.pos + k)).drop s.pos) := fun X => by
        unfold numAt
        rw [List.drop_take, Nat.add_sub_cancel_left]
      rw [e, e, h5]
  cut := fun f L m s a t h1 h2 h k' hk hk2 _ => by
    simp only [Option.some.injEq] at h ⊢
    split at h
    · cases h
    · cases h
      simp only at hk2
      rw [if_pos (by rw [List.length_take]; omega)]
  low := fun f L m s a t h m' _ => .inl h
/-- Up to a whole byte. -/
def align : Way Unit where
  run := fun _ _ _ s => some (.ok () ⟨(s.pos + 7) / 8 * 8, s.out⟩)
  more := fun f L m s r h => h
  on := fun f L m s a t h1 h2 h => by
    cases h
    exact ⟨by simp only; omega, by simp only; omega, Nat.le_refl _, fun h => h⟩
  alike := fun f L m s a t _ _ h L' m' _ _ _ _ => h
  cut := fun f L m s a t h1 h2 h k hk hk2 h8 => by
    cases h
    simp only at hk2
    omega
  low := fun f L m s a t h m' _ => .inl h
/-- Room for so many bytes more. -/
def room (n : Nat) : Way Unit where
  run := fun _ _ m s => some (if m < s.out.length + n then .err 3 else .ok () s)
  more := fun f L m s r h => h
  on := fun f L m s a t h1 h2 h => by
    simp only [Option.some.injEq] at h
    split at h
    · cases h
    · cases h
      exact ⟨Nat.le_refl _, h1, Nat.le_refl _, fun h => h⟩
  alike := fun f L m s a t h1 h2 h L' m' h3 h4 h5 h6 => by
    simp only [Option.some.injEq] at h ⊢
    split at h
    · cases h
    · cases h
      rw [if_neg (by omega)]
  cut := fun f L m s a t h1 h2 h k hk hk2 h8 => by
    simp only [Option.some.injEq] at h
    split at h
    · cases h
    · cases h
      omega
  low := fun f L m s a t h m' hm => by
    simp only [Option.some.injEq] at h ⊢
    split at h
    · cases h
    · cases h
      split
      · exact .inr rfl
      · exact .inl rfl
/-- One byte more. -/
def put (x : List Nat → Nat) : Way Unit where
  run := fun _ _ m s => some (if m < s.out.length + 1 then .err 3 else .ok () ⟨s.pos, s.out ++ [x s.out]⟩)
  more := fun f L m s r h => h
  on := fun f L m s a t h1 h2 h => by
    simp only [Option.some.injEq] at h
    split at h
    · cases h
    · cases h
      refine ⟨Nat.le_refl _, h1, ?_, fun h => ?_⟩
      · simp
      · simp only [List.length_append, List.length_singleton]
        omega
  alike := fun f L m s a t h1 h2 h L' m' h3 h4 h5 h6 => by
    simp only [Option.some.injEq] at h ⊢
    split at h
    · cases h
    · cases h
      rw [if_neg (by omega)]
  cut := fun f L m s a t h1 h2 h k hk hk2 h8 => by
    simp only [Option.some.injEq] at h
    split at h
    · cases h
    · cases h
      simp only at hk2
      omega
  low := fun f L m s a t h m' hm => by
    simp only [Option.some.injEq] at h ⊢
    split at h
    · cases h
    · cases h
      split
      · exact .inr rfl
      · exact .inl rfl
/-- So many bytes stand ahead. -/
def behind (d : Nat) : Way Unit where
  run := fun _ _ _ s => some (if s.out.length < d then .err 10 else .ok () s)
  more := fun f L m s r h => h
  on := fun f L m s a t h1 h2 h => by
    simp only [Option.some.injEq] at h
    split at h
    · cases h
    · cases h
      exact ⟨Nat.le_refl _, h1, Nat.le_refl _, fun h => h⟩
  alike := fun f L m s a t h1 h2 h L' m' h3 h4 h5 h6 => h
  cut := fun f L m s a t h1 h2 h k hk hk2 h8 => by
    simp only [Option.some.injEq] at h
    split at h
    · cases h
    · cases h
      omega
  low := fun f L m s a t h m' hm => .inl h
def bindRun {α β : Type} (x : Way α) (k : α → Way β) (f : Nat) (L : List Bool) (m : Nat) (s : St) : Option (Res β) :=
  match x.run f L m s with
  | none => none
  | some (.err e) => some (.err e)
  | some (.ok a s) => (k a).run f L m s
theorem bind_ok {α β : Type} {x : Way α} {k : α → Way β} {f : Nat} {L : List Bool} {m : Nat} {s t : St} {b : β} (h : bindRun x k f L m s = some (.ok b t)) : ∃ a u, x.run f L m s = some (.ok a u) ∧ (k a).run f L m u = some (.ok b t) := by
  unfold bindRun at h
  cases hx : x.run f L m s with
  | none => rw [hx] at h; cases h
  | some r =>
    cases r with
    | err e => rw [hx] at h; cases h
    | ok a u => rw [hx] at h; exact ⟨a, u, rfl, h⟩
theorem bindRun_ok {α β : Type} {x : Way α} {k : α → Way β} {f : Nat} {L : List Bool} {m : Nat} {s u : St} {a : α} (h : x.run f L m s = some (.ok a u)) : bindRun x k f L m s = (k a).run f L m u := by
  unfold bindRun
  rw [h]
theorem bindRun_err {α β : Type} {x : Way α} {k : α → Way β} {f : Nat} {L : List Bool} {m : Nat} {s : St} {e : Nat} (h : x.run f L m s = some (.err e)) : bindRun x k f L m s = some (.err e) := by
  unfold bindRun
  rw [h]
def bind {α β : Type} (x : Way α) (k : α → Way β) : Way β where
  run := bindRun x k
  more := fun f L m s r h => by
    unfold bindRun at h ⊢
    cases hx : x.run f L m s with
    | none => rw [hx] at h; cases h
    | some r' =>
      rw [x.more _ _ _ _ _ hx]
      cases r' with
      | err e => rw [hx] at h; exact h
      | ok a u =>
        rw [hx] at h
        exact (k a).more _ _ _ _ _ h
  on := fun f L m s b t h1 h2 h => by
    obtain ⟨a, u, hx, hk⟩ := bind_ok h
    obtain ⟨p1, p2, p3, p4⟩ := x.on _ _ _ _ _ _ h1 h2 hx
    obtain ⟨q1, q2, q3, q4⟩ := (k a).on _ _ _ _ _ _ p2 h2 hk
    exact ⟨Nat.le_trans p1 q1, q2, Nat.le_trans p3 q3, fun h => q4 (p4 h)⟩
  alike := fun f L m s b t h1 h2 h L' m' h3 h4 h5 h6 => by
    obtain ⟨a, u, hx, hk⟩ := bind_ok h
    obtain ⟨p1, p2, p3, p4⟩ := x.on _ _ _ _ _ _ h1 h2 hx
    obtain ⟨q1, q2, q3, q4⟩ := (k a).on _ _ _ _ _ _ p2 h2 hk
    have e : L'.take u.pos = L.take u.pos := by
      have := congrArg (List.take u.pos) h5
      rwa [List.take_take, List.take_take, Nat.min_eq_left q1] at this
    rw [bindRun_ok (x.alike _ _ _ _ _ _ h1 h2 hx L' m' h3 (by omega) e h6)]
    exact (k a).alike _ _ _ _ _ _ p2 h2 hk L' m' h3 h4 h5 h6
  cut := fun f L m s b t h1 h2 h j hj hj2 h8 => by
    obtain ⟨a, u, hx, hk⟩ := bind_ok h
    obtain ⟨p1, p2, p3, p4⟩ := x.on _ _ _ _ _ _ h1 h2 hx
    obtain ⟨q1, q2, q3, q4⟩ := (k a).on _ _ _ _ _ _ p2 h2 hk
    by_cases hju : j < u.pos
    · exact bindRun_err (x.cut _ _ _ _ _ _ h1 h2 hx j hj hju h8)
    · have hl : (L.take j).length = j := by rw [List.length_take]; omega
      rw [bindRun_ok (x.alike _ _ _ _ _ _ h1 h2 hx (L.take j) m (by rw [hl]; exact h8) (by rw [hl]; omega) (by rw [List.take_take, Nat.min_eq_left (by omega)]) (Nat.le_refl _))]
      exact (k a).cut _ _ _ _ _ _ p2 h2 hk j (by omega) hj2 h8
  low := fun f L m s b t h m' hm => by
    obtain ⟨a, u, hx, hk⟩ := bind_ok h
    rcases x.low _ _ _ _ _ _ hx m' hm with hx' | hx'
    · rw [bindRun_ok hx']
      exact (k a).low _ _ _ _ _ _ hk m' hm
    · exact .inr (bindRun_err hx')
/-- Again and again, up to an answer: n rounds at most. -/
def rounds {α β : Type} (step : β → Way (β ⊕ α)) (f : Nat) (L : List Bool) (m : Nat) : Nat → β → St → Option (Res α)
  | 0, _, _ => none
  | n + 1, b, s =>
    match (step b).run f L m s with
    | none => none
    | some (.err e) => some (.err e)
    | some (.ok (.inl b') u) => rounds step f L m n b' u
    | some (.ok (.inr a) u) => some (.ok a u)
theorem rounds_ok {α β : Type} {step : β → Way (β ⊕ α)} {f : Nat} {L : List Bool} {m n : Nat} {b : β} {s t : St} {a : α} (h : rounds step f L m (n + 1) b s = some (.ok a t)) :
    (step b).run f L m s = some (.ok (.inr a) t) ∨ ∃ b' u, (step b).run f L m s = some (.ok (.inl b') u) ∧ rounds step f L m n b' u = some (.ok a t) := by
  unfold rounds at h
  cases hx : (step b).run f L m s with
  | none => rw [hx] at h; cases h
  | some r =>
    cases r with
    | err e => rw [hx] at h; cases h
    | ok x u =>
      cases x with
      | inl b' => rw [hx] at h; exact .inr ⟨b', u, rfl, h⟩
      | inr a' =>
        rw [hx] at h
        cases h
        exact .inl rfl
theorem rounds_stop {α β : Type} {step : β → Way (β ⊕ α)} {f : Nat} {L : List Bool} {m : Nat} {b : β} {s t : St} {a : α} (h : (step b).run f L m s = some (.ok (.inr a) t)) (n : Nat) : rounds step f L m (n + 1) b s = some (.ok a t) := by
  unfold rounds
  rw [h]
theorem rounds_next {α β : Type} {step : β → Way (β ⊕ α)} {f : Nat} {L : List Bool} {m : Nat} {b b' : β} {s u : St} (h : (step b).run f L m s = some (.ok (.inl b') u)) (n : Nat) : rounds step f L m (n + 1) b s = rounds step f L m n b' u := by
  rw [rounds, h]
theorem rounds_err {α β : Type} {step : β → Way (β ⊕ α)} {f : Nat} {L : List Bool} {m : Nat} {b : β} {s : St} {e : Nat} (h : (step b).run f L m s = some (.err e)) (n : Nat) : rounds step f L m (n + 1) b s = some (.err e) := by
  unfold rounds
  rw [h]
theorem rounds_more {α β : Type} (step : β → Way (β ⊕ α)) (f : Nat) (L : List Bool) (m n : Nat) (b : β) (s : St) (r : Res α) (h : rounds step f L m n b s = some r) : rounds step (f + 1) L m (n + 1) b s = some r := by
  induction n generalizing b s with
  | zero => cases h
  | succ n ih =>
    rw [rounds] at h ⊢
    cases hx : (step b).run f L m s with
    | none => rw [hx] at h; cases h
    | some r' =>
      rw [(step b).more _ _ _ _ _ hx]
      rw [hx] at h
      cases r' with
      | err e => exact h
      | ok x u =>
        cases x with
        | inl b' => exact ih b' u h
        | inr a' => exact h
def loop {α β : Type} (step : β → Way (β ⊕ α)) (b : β) : Way α where
  run := fun f L m s => rounds step f L m f b s
  more := fun f L m s r h => rounds_more step f L m f b s r h
  on := fun f L m s a t h1 h2 h => by
    revert h
    generalize hn : f = n at ⊢
    have key : ∀ n b s, s.pos ≤ L.length → rounds step f L m n b s = some (.ok a t) → s.pos ≤ t.pos ∧ t.pos ≤ L.length ∧ s.out.length ≤ t.out.length ∧ (s.out.length ≤ m → t.out.length ≤ m) := by
      intro n
      induction n with
      | zero => intro b s _ h; cases h
      | succ n ih =>
        intro b s h1 h
        rcases rounds_ok h with h | ⟨b', u, hx, h⟩
        · exact (step b).on _ _ _ _ _ _ h1 h2 h
        · obtain ⟨p1, p2, p3, p4⟩ := (step b).on _ _ _ _ _ _ h1 h2 hx
          obtain ⟨q1, q2, q3, q4⟩ := ih b' u p2 h
          exact ⟨Nat.le_trans p1 q1, q2, Nat.le_trans p3 q3, fun h => q4 (p4 h)⟩
    intro h
    rw [← hn] at h
    exact key f b s h1 h
  alike := fun f L m s a t h1 h2 h L' m' h3 h4 h5 h6 => by
    have grow : ∀ n b s, s.pos ≤ L.length → rounds step f L m n b s = some (.ok a t) → s.pos ≤ t.pos := by
      intro n
      induction n with
      | zero => intro b s _ h; cases h
      | succ n ih =>
        intro b s h1 h
        rcases rounds_ok h with h | ⟨b', u, hx, h⟩
        · exact ((step b).on _ _ _ _ _ _ h1 h2 h).1
        · obtain ⟨p1, p2, p3, p4⟩ := (step b).on _ _ _ _ _ _ h1 h2 hx
          exact Nat.le_trans p1 (ih b' u p2 h)
    have key : ∀ n b s, s.pos ≤ L.length → rounds step f L m n b s = some (.ok a t) → rounds step f L' m' n b s = some (.ok a t) := by
      intro n
      induction n with
      | zero => intro b s _ h; cases h
      | succ n ih =>
        intro b s h1 h
        rcases rounds_ok h with h | ⟨b', u, hx, h⟩
        · exact rounds_stop ((step b).alike _ _ _ _ _ _ h1 h2 h L' m' h3 h4 h5 h6) n
        · obtain ⟨p1, p2, p3, p4⟩ := (step b).on _ _ _ _ _ _ h1 h2 hx
          have q1 := grow n b' u p2 h
          have e : L'.take u.pos = L.take u.pos := by
            have := congrArg (List.take u.pos) h5
            rwa [List.take_take, List.take_take, Nat.min_eq_left q1] at this
          rw [rounds_next ((step b).alike _ _ _ _ _ _ h1 h2 hx L' m' h3 (by omega) e h6) n]
          exact ih b' u p2 h
    exact key f b s h1 h
  cut := fun f L m s a t h1 h2 h j hj hj2 h8 => by
    have key : ∀ n b s, s.pos ≤ L.length → s.pos ≤ j → rounds step f L m n b s = some (.ok a t) → rounds step f (L.take j) m n b s = some (.err 12) := by
      intro n
      induction n with
      | zero => intro b s _ _ h; cases h
      | succ n ih =>
        intro b s h1 hj h
        rcases rounds_ok h with h | ⟨b', u, hx, h⟩
        · exact rounds_err ((step b).cut _ _ _ _ _ _ h1 h2 h j hj hj2 h8) n
        · obtain ⟨p1, p2, p3, p4⟩ := (step b).on _ _ _ _ _ _ h1 h2 hx
          by_cases hju : j < u.pos
          · exact rounds_err ((step b).cut _ _ _ _ _ _ h1 h2 hx j hj hju h8) n
          · by_cases hjl : j ≤ L.length
            · have hl : (L.take j).length = j := by rw [List.length_take]; omega
              rw [rounds_next ((step b).alike _ _ _ _ _ _ h1 h2 hx (L.take j) m (by rw [hl]; exact h8) (by rw [hl]; omega) (by rw [List.take_take, Nat.min_eq_left (by omega)]) (Nat.le_refl _)) n]
              exact ih b' u p2 (by omega) h
            · exfalso
              have fin : ∀ n b s, s.pos ≤ L.length → rounds step f L m n b s = some (.ok a t) → t.pos ≤ L.length := by
                intro n
                induction n with
                | zero => intro b s _ h; cases h
                | succ n ih =>
                  intro b s h1 h
                  rcases rounds_ok h with h | ⟨b', u, hx, h⟩
                  · exact ((step b).on _ _ _ _ _ _ h1 h2 h).2.1
                  · exact ih b' u ((step b).on _ _ _ _ _ _ h1 h2 hx).2.1 h
              have := fin n b' u p2 h
              omega
    exact key f b s h1 hj h
  low := fun f L m s a t h m' hm => by
    have key : ∀ n b s, rounds step f L m n b s = some (.ok a t) → rounds step f L m' n b s = some (.ok a t) ∨ rounds step f L m' n b s = some (.err 3) := by
      intro n
      induction n with
      | zero => intro b s h; cases h
      | succ n ih =>
        intro b s h
        rcases rounds_ok h with h | ⟨b', u, hx, h⟩
        · rcases (step b).low _ _ _ _ _ _ h m' hm with h' | h'
          · exact .inl (rounds_stop h' n)
          · exact .inr (rounds_err h' n)
        · rcases (step b).low _ _ _ _ _ _ hx m' hm with h' | h'
          · rw [rounds_next h' n]
            exact ih b' u h
          · exact .inr (rounds_err h' n)
    exact key f b s h
end Way
/-! ### What a way comes to -/
def Says {α : Type} (x : Way α) (L : List Bool) (m : Nat) (s : St) (r : Res α) : Prop := ∃ f, x.run f L m s = some r
namespace Way
variable {α β : Type} {L : List Bool} {m : Nat} {s t u : St}
theorem run_add (x : Way α) {f : Nat} {r : Res α} (h : x.run f L m s = some r) (d : Nat) : x.run (f + d) L m s = some r := by
  induction d with
  | zero => exact h
  | succ d ih => exact x.more _ _ _ _ _ ih
theorem run_le (x : Way α) {f g : Nat} {r : Res α} (h : x.run f L m s = some r) (hg : f ≤ g) : x.run g L m s = some r := by
  have := run_add x h (g - f)
  rwa [show f + (g - f) = g by omega] at this
theorem says_one {x : Way α} {r r' : Res α} (h : Says x L m s r) (h' : Says x L m s r') : r = r' := by
  obtain ⟨f, h⟩ := h
  obtain ⟨g, h'⟩ := h'
  have h1 := run_le x h (Nat.le_max_left f g)
  have h2 := run_le x h' (Nat.le_max_right f g)
  rw [h1] at h2
  exact Option.some.inj h2
theorem says_bind {x : Way α} {k : α → Way β} {a : α} {r : Res β} (h : Says x L m s (.ok a u)) (h' : Says (k a) L m u r) : Says (x.bind k) L m s r := by
  obtain ⟨f, h⟩ := h
  obtain ⟨g, h'⟩ := h'
  refine ⟨max f g, ?_⟩
  show bindRun x k _ L m s = _
  rw [bindRun_ok (run_le x h (Nat.le_max_left f g))]
  exact run_le (k a) h' (Nat.le_max_right f g)
theorem says_bind_err {x : Way α} {k : α → Way β} {e : Nat} (h : Says x L m s (.err e)) : Says (x.bind k) L m s (.err e) := by
  obtain ⟨f, h⟩ := h
  exact ⟨f, bindRun_err h⟩
theorem says_pure (a : α) : Says (pure a) L m s (.ok a s) := ⟨0, rfl⟩
theorem says_fail (e : Nat) : Says (fail e : Way α) L m s (.err e) := ⟨0, rfl⟩
theorem says_get (k : Nat) (h : s.pos + k ≤ L.length) : Says (get k) L m s (.ok (numAt L s.pos k) ⟨s.pos + k, s.out⟩) := ⟨0, congrArg some (if_neg (by omega))⟩
theorem says_get_short (k : Nat) (h : L.length < s.pos + k) : Says (get k) L m s (.err 12) := ⟨0, congrArg some (if_pos h)⟩
theorem says_align : Says align L m s (.ok () ⟨(s.pos + 7) / 8 * 8, s.out⟩) := ⟨0, rfl⟩
theorem says_room (n : Nat) (h : s.out.length + n ≤ m) : Says (room n) L m s (.ok () s) := ⟨0, congrArg some (if_neg (by omega))⟩
theorem says_room_long (n : Nat) (h : m < s.out.length + n) : Says (room n) L m s (.err 3) := ⟨0, congrArg some (if_pos h)⟩
theorem says_put (x : List Nat → Nat) (h : s.out.length + 1 ≤ m) : Says (put x) L m s (.ok () ⟨s.pos, s.out ++ [x s.out]⟩) := ⟨0, congrArg some (if_neg (by omega))⟩
theorem says_put_long (x : List Nat → Nat) (h : m < s.out.length + 1) : Says (put x) L m s (.err 3) := ⟨0, congrArg some (if_pos h)⟩
theorem says_behind (d : Nat) (h : d ≤ s.out.length) : Says (behind d) L m s (.ok () s) := ⟨0, congrArg some (if_neg (by omega))⟩
theorem says_behind_bits (d : Nat) (h : s.out.length < d) : Says (behind d) L m s (.err 10) := ⟨0, congrArg some (if_pos h)⟩
theorem says_loop_next {step : β → Way (β ⊕ α)} {b b' : β} {r : Res α} (h : Says (step b) L m s (.ok (.inl b') u)) (h' : Says (loop step b') L m u r) : Says (loop step b) L m s r := by
  obtain ⟨f, h⟩ := h
  obtain ⟨g, h'⟩ := h'
  refine ⟨max f g + 1, ?_⟩
  have h1 := run_le (step b) h (show f ≤ max f g + 1 by omega)
  show rounds step _ L m (max f g + 1) b s = _
  rw [rounds_next h1]
  have h2 : (loop step b').run (max f g + 1) L m u = some r := run_le (loop step b') h' (by omega)
  have h3 : rounds step (max f g) L m (max f g) b' u = some r := run_le (loop step b') h' (Nat.le_max_right f g)
  have key : ∀ n b s, rounds step (max f g) L m n b s = some r → rounds step (max f g + 1) L m n b s = some r := by
    intro n
    induction n with
    | zero => intro b s h; cases h
    | succ n ih =>
      intro b s h
      rw [rounds] at h ⊢
      cases hx : (step b).run (max f g) L m s with
      | none => rw [hx] at h; cases h
      | some r' =>
        rw [(step b).more _ _ _ _ _ hx]
        rw [hx] at h
        cases r' with
        | err e => exact h
        | ok x u =>
          cases x with
          | inl b' => exact ih b' u h
          | inr a' => exact h
  exact key _ _ _ h3
theorem says_loop_stop {step : β → Way (β ⊕ α)} {b : β} {a : α} (h : Says (step b) L m s (.ok (.inr a) u)) : Says (loop step b) L m s (.ok a u) := by
  obtain ⟨f, h⟩ := h
  exact ⟨f + 1, rounds_stop ((step b).more _ _ _ _ _ h) f⟩
theorem says_loop_err {step : β → Way (β ⊕ α)} {b : β} {e : Nat} (h : Says (step b) L m s (.err e)) : Says (loop step b) L m s (.err e) := by
  obtain ⟨f, h⟩ := h
  exact ⟨f + 1, rounds_err ((step b).more _ _ _ _ _ h) f⟩
theorem says_on {x : Way α} {a : α} (h : Says x L m s (.ok a t)) (h1 : s.pos ≤ L.length) (h2 : L.length % 8 = 0) : s.pos ≤ t.pos ∧ t.pos ≤ L.length ∧ s.out.length ≤ t.out.length ∧ (s.out.length ≤ m → t.out.length ≤ m) := by
  obtain ⟨f, h⟩ := h
  exact x.on _ _ _ _ _ _ h1 h2 h
end Way
end Go.Proofs.Ytefdlidjdmlnaaa.Fx
namespace Go.Proofs.Ytefdlidjdmlnaaa.Fx
set_option linter.unusedVariables false
open Way
def refuseW (c : Prop) [Decidable c] (e : Nat) : Way Unit := if c then fail e else pure ()
/-! ### Codes -/
/-- How many symbols have each length, and the symbols by rising codes. -/
structure Cds where
  counts : List Nat
  syms : List Nat
def countsOf (ls : List Nat) : List Nat := (ls.foldl (fun c l => c.set l (c.getD l 0 + 1)) (List.replicate 16 0)).set 0 0
/-- Where the symbols of each length begin: n lengths from number l on, 'all' ahead of them. -/
def placesOf (counts : List Nat) : List Nat := (List.range 16).map fun l => (counts.take l).sum
def putSym (x : Nat) (l : Nat) (a : List Nat × List Nat) : List Nat × List Nat := if 0 < l then (a.1.set (a.2.getD l 0) x, a.2.set l (a.2.getD l 0 + 1)) else a
def putSyms (ls : List Nat) (counts : List Nat) : Nat → List Nat × List Nat
  | 0 => (List.replicate counts.sum 0, placesOf counts)
  | x + 1 => putSym x (ls.getD x 0) (putSyms ls counts x)
def newCds (ls : List Nat) : Cds := ⟨countsOf ls, (putSyms ls (countsOf ls) ls.length).1⟩
def Cds.alone (c : Cds) : Prop := c.syms.length = 1 ∧ c.counts.getD 1 0 = 1
instance (c : Cds) : Decidable c.alone := inferInstanceAs (Decidable (_ ∧ _))
def kraft (counts : List Nat) : Nat → Nat
  | 0 => 0
  | l + 1 => kraft counts l + counts.getD l 0 * 2 ^ (15 - l)
def Cds.mayBe (c : Cds) : Prop := kraft c.counts 16 = 32768 ∨ c.alone
instance (c : Cds) : Decidable c.mayBe := inferInstanceAs (Decidable (_ ∨ _))
def Cds.deepest (c : Cds) : Nat := if c.alone then 1 else 15
/-! ### Symbols -/
def symFrom (c : Cds) : Nat → Nat → Nat → Nat → Nat → Way Nat
  | 0, _, _, _, _ => fail 10
  | n + 1, l, code, first, place => (get 1).bind fun b =>
      if 2 * code + b < 2 * first + c.counts.getD l 0 then pure (c.syms.getD (place + (2 * code + b) - 2 * first) 0)
      else symFrom c n (l + 1) (2 * code + b) (2 * first + c.counts.getD l 0) (place + c.counts.getD l 0)
def symW (c : Cds) : Way Nat := symFrom c c.deepest 1 0 0 0
def groupedW (code group : Nat) : Way Nat := (get (code / group - 1)).bind fun b => pure ((code - group * (code / group - 1)) * 2 ^ (code / group - 1) + b)
def lengthW (x : Nat) : Way Nat := (refuseW (285 < x) 10).bind fun _ => if x = 285 then pure 258 else (groupedW (x - 257) 4).bind fun n => pure (3 + n)
def distanceW (c : Cds) : Way Nat := (symW c).bind fun x => (refuseW (30 ≤ x) 10).bind fun _ => (groupedW x 2).bind fun n => pure (1 + n)
def copyW (d : Nat) : Nat → Way Unit
  | 0 => pure ()
  | n + 1 => (put fun o => o.getD (o.length - d) 0).bind fun _ => copyW d n
def matchW (n d : Nat) : Way Unit := (behind d).bind fun _ => (room n).bind fun _ => copyW d n
def symStep (p : Cds × Cds) : Way (Unit ⊕ Unit) := (symW p.1).bind fun x =>
  if x < 256 then (room 1).bind fun _ => (put fun _ => x).bind fun _ => pure (.inl ())
  else if x = 256 then pure (.inr ())
  else (lengthW x).bind fun n => (distanceW p.2).bind fun d => (matchW n d).bind fun _ => pure (.inl ())
def symbolsW (p : Cds × Cds) : Way Unit := loop (fun _ : Unit => symStep p) ()
/-! ### Stored blocks -/
def bytesW : Nat → Way Unit
  | 0 => pure ()
  | n + 1 => (get 8).bind fun x => (put fun _ => x).bind fun _ => bytesW n
def storedW : Way Unit := align.bind fun _ => (get 16).bind fun n => (get 16).bind fun k => (refuseW (¬ k = 65535 - n) 10).bind fun _ => (room n).bind fun _ => bytesW n
/-! ### Codes of a block's own -/
def order : List Nat := [16, 17, 18, 0, 8, 7, 9, 6, 10, 5, 11, 4, 12, 3, 13, 2, 14, 1, 15]
def ownFrom : Nat → Nat → List Nat → Way (List Nat)
  | 0, _, own => pure own
  | n + 1, i, own => (get 3).bind fun x => ownFrom n (i + 1) (own.set (order.getD i 0) x)
def addW (want : Nat) (ls : List Nat) (l times : Nat) : Way (List Nat) := (refuseW (want < ls.length + times) 10).bind fun _ => pure (ls ++ List.replicate times l)
def lenStep (c : Cds) (want : Nat) (ls : List Nat) : Way (List Nat ⊕ List Nat) :=
  if ls.length < want then (symW c).bind fun x =>
    if x = 16 then (get 2).bind fun t => (refuseW (ls.length = 0) 10).bind fun _ => (addW want ls (ls.getD (ls.length - 1) 0) (3 + t)).bind fun ls' => pure (.inl ls')
    else if x = 17 then (get 3).bind fun t => (addW want ls 0 (3 + t)).bind fun ls' => pure (.inl ls')
    else if x = 18 then (get 7).bind fun t => (addW want ls 0 (11 + t)).bind fun ls' => pure (.inl ls')
    else (addW want ls x 1).bind fun ls' => pure (.inl ls')
  else pure (.inr ls)
def lengthsW (c : Cds) (want : Nat) : Way (List Nat) := loop (lenStep c want) []
def ownPairW : Way (Cds × Cds) := (get 5).bind fun a => (get 5).bind fun b => (get 4).bind fun k => (ownFrom (k + 4) 0 (List.replicate 19 0)).bind fun own =>
  (refuseW (286 < a + 257 ∨ 30 < b + 1 ∨ ¬ (newCds own).mayBe) 10).bind fun _ => (lengthsW (newCds own) (a + 257 + (b + 1))).bind fun ls =>
  (refuseW (ls.getD 256 0 = 0) 10).bind fun _ => (refuseW (¬ (newCds (ls.take (a + 257))).mayBe) 10).bind fun _ =>
  (refuseW (¬ (newCds (ls.drop (a + 257))).mayBe ∧ 0 < (newCds (ls.drop (a + 257))).syms.length) 10).bind fun _ => pure (newCds (ls.take (a + 257)), newCds (ls.drop (a + 257)))
/-! ### Blocks -/
def fixedLens : List Nat := List.replicate 144 8 ++ List.replicate 112 9 ++ List.replicate 24 7 ++ List.replicate 8 8
def fixedP : Cds × Cds := (newCds fixedLens, newCds (List.replicate 32 5))
def blockW : Way Unit := (get 2).bind fun k => if k = 0 then storedW else if k = 1 then symbolsW fixedP else if k = 2 then ownPairW.bind symbolsW else fail 10
def blocksW : Way Unit := loop (fun _ : Unit => (get 1).bind fun l => blockW.bind fun _ => if l = 0 then pure (Sum.inl ()) else pure (Sum.inr ())) ()
/-! ### Codes fit -/
theorem counts_length (ls : List Nat) : (countsOf ls).length = 16 := by
  unfold countsOf
  rw [List.length_set]
  have : ∀ (ls c : List Nat), (ls.foldl (fun c l => c.set l (c.getD l 0 + 1)) c).length = c.length := by
    intro ls
    induction ls with
    | nil => intro c; rfl
    | cons l ls ih =>
      intro c
      rw [List.foldl_cons, ih, List.length_set]
  rw [this, List.length_replicate]
theorem getD_set (l : List Nat) (i j x : Nat) : (l.set i x).getD j 0 = if i = j ∧ j < l.length then x else l.getD j 0 := by
  rw [List.getD_eq_getElem?_getD, List.getD_eq_getElem?_getD, List.getElem?_set]
  by_cases h : i = j
  · subst h
    by_cases h2 : i < l.length
    · rw [if_pos rfl, if_pos h2, if_pos ⟨rfl, h2⟩]
      rfl
    · rw [if_pos rfl, if_neg h2, if_neg (fun h => h2 h.2), List.getElem?_eq_none (by omega)]
  · rw [if_neg h, if_neg (fun h2 => h h2.1)]
theorem counts_get (ls : List Nat) (l : Nat) (hl : l < 16) : (countsOf ls).getD l 0 = if l = 0 then 0 else ls.count l := by
  have key : ∀ (ls c : List Nat), c.length = 16 → (ls.foldl (fun c l => c.set l (c.getD l 0 + 1)) c).getD l 0 = c.getD l 0 + ls.count l := by
    intro ls
    induction ls with
    | nil => intro c _; rfl
    | cons x ls ih =>
      intro c hc
      rw [List.foldl_cons, ih _ (by rw [List.length_set]; exact hc), getD_set, List.count_cons]
      by_cases hx : x = l
      · subst hx
        rw [if_pos ⟨rfl, by omega⟩]
        simp
        omega
      · rw [if_neg (fun h => hx h.1)]
        simp [hx]
  unfold countsOf
  rw [getD_set]
  have hlen : ∀ (ls c : List Nat), (ls.foldl (fun c l => c.set l (c.getD l 0 + 1)) c).length = c.length := by
    intro ls
    induction ls with
    | nil => intro c; rfl
    | cons l ls ih =>
      intro c
      rw [List.foldl_cons, ih, List.length_set]
  by_cases h0 : l = 0
  · subst h0
    rw [if_pos ⟨rfl, by rw [hlen]; decide⟩, if_pos rfl]
  · rw [if_neg (fun h => h0 h.1.symm), if_neg h0, key _ _ rfl]
    have e : (List.replicate 16 0 : List Nat).getD l 0 = 0 := by
      rw [List.getD_eq_getElem?_getD, List.getElem?_replicate]
      split <;> rfl
    rw [e, Nat.zero_add]
theorem sum_take_succ (c : List Nat) (l : Nat) : (c.take (l + 1)).sum = (c.take l).sum + c.getD l 0 := by
  rw [List.take_add_one, List.sum_append]
  congr 1
  rw [List.getD_eq_getElem?_getD]
  cases c[l]? <;> simp
theorem sum_take_le (c : List Nat) (l : Nat) : (c.take l).sum ≤ c.sum := by
  conv => rhs; rw [← List.take_append_drop l c, List.sum_append]
  omega
theorem putSyms_fits (ls c : List Nat) (x : Nat) : (putSyms ls c x).1.length = c.sum ∧ (putSyms ls c x).2.length = 16 := by
  induction x with
  | zero => exact ⟨by unfold putSyms; rw [List.length_replicate], by unfold putSyms placesOf; simp⟩
  | succ x ih =>
    unfold putSyms putSym
    split
    · exact ⟨by simp only [List.length_set]; exact ih.1, by simp only [List.length_set]; exact ih.2⟩
    · exact ih
theorem putSyms_place (ls c : List Nat) (x l : Nat) (hx : x ≤ ls.length) (h0 : 0 < l) (hl : l < 16) : (putSyms ls c x).2.getD l 0 = (c.take l).sum + (ls.take x).count l := by
  induction x with
  | zero =>
    unfold putSyms placesOf
    simp [List.getD, hl]
  | succ x ih =>
    have ih := ih (by omega)
    unfold putSyms putSym
    rw [List.take_add_one, List.count_append, List.getElem?_eq_getElem (by omega)]
    have e : ls.getD x 0 = ls[x] := by rw [List.getD_eq_getElem?_getD, List.getElem?_eq_getElem (by omega)]; rfl
    rw [e]
    by_cases hp : 0 < ls[x]
    · rw [if_pos hp]
      simp only
      rw [getD_set, (putSyms_fits ls c x).2]
      by_cases hx2 : ls[x] = l
      · rw [if_pos ⟨hx2, hl⟩, hx2, ih]
        simp
        omega
      · rw [if_neg (fun h => hx2 h.1), ih]
        simp [hx2]
    · rw [if_neg hp, ih]
      have : ls[x] ≠ l := by omega
      simp [this]
/-- A symbol's place is one. -/
theorem putSyms_room (ls : List Nat) (x : Nat) (hx : x < ls.length) (h0 : 0 < ls.getD x 0) (h15 : ls.getD x 0 ≤ 15) : (putSyms ls (countsOf ls) x).2.getD (ls.getD x 0) 0 < (countsOf ls).sum := by
  rw [putSyms_place ls _ x _ (by omega) h0 (by omega)]
  have h1 := sum_take_succ (countsOf ls) (ls.getD x 0)
  have h2 := sum_take_le (countsOf ls) (ls.getD x 0 + 1)
  rw [counts_get ls _ (by omega), if_neg (by omega)] at h1
  have h3 : (ls.take x).count (ls.getD x 0) < ls.count (ls.getD x 0) := by
    have e : ls.getD x 0 = ls[x] := by rw [List.getD_eq_getElem?_getD, List.getElem?_eq_getElem hx]; rfl
    rw [e]
    have e2 : ls.count ls[x] = (ls.take x).count ls[x] + (ls.drop x).count ls[x] := by rw [← List.count_append, List.take_append_drop]
    rw [e2, List.drop_eq_getElem_cons hx, List.count_cons]
    simp
  omega
theorem newCds_length (ls : List Nat) : (newCds ls).syms.length = (countsOf ls).sum := (putSyms_fits ls _ _).1
theorem counts_sum (ls : List Nat) : (countsOf ls).sum ≤ ls.length := by
  have key : ∀ (ls c : List Nat), (ls.foldl (fun c l => c.set l (c.getD l 0 + 1)) c).sum ≤ c.sum + ls.length := by
    intro ls
    induction ls with
    | nil => intro c; simp
    | cons x ls ih =>
      intro c
      rw [List.foldl_cons]
      have h1 := ih (c.set x (c.getD x 0 + 1))
      have h2 : (c.set x (c.getD x 0 + 1)).sum ≤ c.sum + 1 := by
        by_cases hx : x < c.length
        · rw [List.set_eq_take_append_cons_drop, if_pos hx]
          have e : c.sum = (c.take x).sum + (c.getD x 0 + (c.drop (x + 1)).sum) := by
            conv => lhs; rw [← List.take_append_drop x c, List.sum_append, List.drop_eq_getElem_cons hx, List.sum_cons]
            rw [List.getD_eq_getElem?_getD, List.getElem?_eq_getElem hx]
            rfl
          rw [List.sum_append, List.sum_cons, e]
          omega
        · rw [List.set_eq_of_length_le (by omega)]
          omega
      rw [List.length_cons]
      omega
  unfold countsOf
  have h := key ls (List.replicate 16 0)
  have h2 : ∀ c : List Nat, (c.set 0 0).sum ≤ c.sum := by
    intro c
    cases c with
    | nil => simp
    | cons a c => simp
  have h3 := h2 (ls.foldl (fun c l => c.set l (c.getD l 0 + 1)) (List.replicate 16 0))
  have h4 : (List.replicate 16 0 : List Nat).sum = 0 := by decide
  omega
theorem newCds_below (ls : List Nat) (x : Nat) (hx : x ∈ (newCds ls).syms) : x < ls.length := by
  have hp : 0 < ls.length := by
    have h1 := newCds_length ls
    have h2 := counts_sum ls
    have h3 := List.length_pos_of_mem hx
    omega
  have key : ∀ n, n ≤ ls.length → ∀ x ∈ (putSyms ls (countsOf ls) n).1, x < ls.length := by
    intro n
    induction n with
    | zero =>
      intro _ x hx
      unfold putSyms at hx
      have := List.eq_of_mem_replicate hx
      omega
    | succ n ih =>
      intro hn x hx
      unfold putSyms putSym at hx
      split at hx
      · rcases List.mem_or_eq_of_mem_set hx with h | h
        · exact ih (by omega) x h
        · omega
      · exact ih (by omega) x hx
  exact key ls.length (Nat.le_refl _) x hx
end Go.Proofs.Ytefdlidjdmlnaaa.Fx
namespace Go.Proofs.Ytefdlidjdmlnaaa.Fx
set_option linter.unusedVariables false
/-! ### Bits that are read -/
/-- These bits, wherever they stand, are read so; the bytes stay. -/
def Reads {α : Type} (x : Way α) (b : List Bool) (a : α) : Prop := ∀ (L : List Bool) (m : Nat) (s : St) (r : List Bool), s.pos ≤ L.length → L.drop s.pos = b ++ r → Says x L m s (.ok a ⟨s.pos + b.length, s.out⟩)
theorem drop_more {L b r : List Bool} {p : Nat} (hp : p ≤ L.length) (h : L.drop p = b ++ r) : L.drop (p + b.length) = r ∧ p + b.length ≤ L.length := by
  refine ⟨by rw [← List.drop_drop, h, List.drop_left' rfl], ?_⟩
  have := congrArg List.length h
  rw [List.length_drop, List.length_append] at this
  omega
theorem reads_get (n k : Nat) (h : n < 2 ^ k) : Reads (Way.get k) (bitsOf n k) n := by
  intro L m s r hp hd
  have e : numAt L s.pos k = n := by
    unfold numAt
    rw [hd, List.take_left' (bitsOf_length n k), numOf_small n k h]
  have h2 := (drop_more hp hd).2
  rw [bitsOf_length] at h2 ⊢
  have := Way.says_get (L := L) (m := m) (s := s) k h2
  rw [e] at this
  exact this
theorem reads_pure {α : Type} (a : α) : Reads (Way.pure a) [] a := fun L m s r _ _ => Way.says_pure a
theorem reads_bind {α β : Type} {x : Way α} {k : α → Way β} {b1 b2 : List Bool} {a : α} {c : β} (h1 : Reads x b1 a) (h2 : Reads (k a) b2 c) : Reads (x.bind k) (b1 ++ b2) c := by
  intro L m s r hp hd
  rw [List.append_assoc] at hd
  obtain ⟨hd2, hp2⟩ := drop_more hp hd
  refine Way.says_bind (h1 L m s _ hp hd) ?_
  have := h2 L m ⟨s.pos + b1.length, s.out⟩ r hp2 hd2
  rw [List.length_append, ← Nat.add_assoc]
  exact this
theorem reads_map {α β : Type} {x : Way α} {b : List Bool} {a : α} {f : α → β} (h : Reads x b a) : Reads (x.bind fun y => Way.pure (f y)) b (f a) := by
  have := reads_bind (k := fun y => Way.pure (f y)) h (reads_pure (f a))
  rwa [List.append_nil] at this
theorem reads_refuse {c : Prop} [Decidable c] (h : ¬ c) : Reads (refuseW c 10) [] () := by
  unfold refuseW
  rw [if_neg h]
  exact reads_pure ()
/-! ### Symbols by the fixed codes -/
def symBits (c : Cds) : Nat → Nat → Nat → Nat → Nat → List Bool → Option (Nat × List Bool)
  | n + 1, l, code, first, place, b :: r =>
    if 2 * code + (if b then 1 else 0) < 2 * first + c.counts.getD l 0 then some (c.syms.getD (place + (2 * code + (if b then 1 else 0)) - 2 * first) 0, r)
    else symBits c n (l + 1) (2 * code + (if b then 1 else 0)) (2 * first + c.counts.getD l 0) (place + c.counts.getD l 0) r
  | _, _, _, _, _, _ => none
theorem symBits_reads (c : Cds) (n l code first place : Nat) (b : List Bool) (x : Nat) (h : symBits c n l code first place b = some (x, [])) : Reads (symFrom c n l code first place) b x := by
  induction n generalizing l code first place b with
  | zero => cases b <;> cases h
  | succ n ih =>
    cases b with
    | nil => cases h
    | cons b bs =>
      have hg : Reads (Way.get 1) [b] (if b then 1 else 0) := by
        have := reads_get (if b then 1 else 0) 1 (by split <;> decide)
        have e : bitsOf (if b then 1 else 0) 1 = [b] := by cases b <;> rfl
        rwa [e] at this
      rw [symBits] at h
      have e : b :: bs = [b] ++ bs := rfl
      rw [e]
      generalize (if b = true then (1 : Nat) else 0) = v at hg h
      refine reads_bind hg ?_
      split
      · rename_i hc
        rw [if_pos hc] at h
        obtain ⟨h1, h2⟩ := Prod.mk.inj (Option.some.inj h)
        rw [h1, h2]
        exact reads_pure x
      · rename_i hc
        rw [if_neg hc] at h
        exact ih _ _ _ _ _ h
def fixCounts : List Nat := [0, 0, 0, 0, 0, 0, 0, 24, 152, 112, 0, 0, 0, 0, 0, 0]
def fixSyms : List Nat := (List.range 24).map (256 + ·) ++ (List.range 144) ++ (List.range 8).map (280 + ·) ++ (List.range 112).map (144 + ·)
set_option maxRecDepth 100000 in
theorem fixed_fst : fixedP.1 = ⟨fixCounts, fixSyms⟩ := by
  have h1 : countsOf fixedLens = fixCounts := by decide +kernel
  have h2 : (putSyms fixedLens fixCounts fixedLens.length).1 = fixSyms := by decide +kernel
  show newCds fixedLens = _
  unfold newCds
  rw [h1, h2]
def farCounts : List Nat := [0, 0, 0, 0, 0, 32, 0, 0, 0, 0, 0, 0, 0, 0, 0, 0]
theorem fixed_snd : fixedP.2 = ⟨farCounts, List.range 32⟩ := by
  have h1 : countsOf (List.replicate 32 5) = farCounts := by decide +kernel
  have h2 : (putSyms (List.replicate 32 5) farCounts 32).1 = List.range 32 := by decide +kernel
  show newCds (List.replicate 32 5) = _
  unfold newCds
  rw [h1, List.length_replicate, h2]
set_option maxRecDepth 100000 in
theorem fix_bits : ∀ x, x < 288 → symBits ⟨fixCounts, fixSyms⟩ 15 1 0 0 0 (fixedSym x) = some (x, []) := by decide +kernel
set_option maxRecDepth 100000 in
theorem far_bits : ∀ x, x < 32 → symBits ⟨farCounts, List.range 32⟩ 15 1 0 0 0 (turned x 5) = some (x, []) := by decide +kernel
theorem reads_fixed (x : Nat) (h : x < 288) : Reads (symW fixedP.1) (fixedSym x) x := by
  rw [fixed_fst]
  have hd : (⟨fixCounts, fixSyms⟩ : Cds).deepest = 15 := by
    unfold Cds.deepest
    rw [if_neg (fun h => absurd h.1 (by decide +kernel))]
  unfold symW
  rw [hd]
  exact symBits_reads _ _ _ _ _ _ _ _ (fix_bits x h)
theorem reads_far (x : Nat) (h : x < 32) : Reads (symW fixedP.2) (turned x 5) x := by
  rw [fixed_snd]
  have hd : (⟨farCounts, List.range 32⟩ : Cds).deepest = 15 := by
    unfold Cds.deepest
    rw [if_neg (fun h => absurd h.1 (by decide))]
  unfold symW
  rw [hd]
  exact symBits_reads _ _ _ _ _ _ _ _ (far_bits x h)
/-! ### Lengths and distances -/
theorem reads_grouped (code group v : Nat) (h : v < 2 ^ (code / group - 1)) : Reads (groupedW code group) (bitsOf v (code / group - 1)) ((code - group * (code / group - 1)) * 2 ^ (code / group - 1) + v) := reads_map (reads_get v _ h)
theorem lens_are : ∀ i, i < 28 → lext.getD i 0 = i / 4 - 1 ∧ lens.getD i 0 = 3 + (i - 4 * (i / 4 - 1)) * 2 ^ (i / 4 - 1) := by decide
theorem dists_are : ∀ i, i < 30 → dext.getD i 0 = i / 2 - 1 ∧ dists.getD i 0 = 1 + (i - 2 * (i / 2 - 1)) * 2 ^ (i / 2 - 1) := by decide
theorem reads_length (i v : Nat) (hi : i < 29) (hv : v < 2 ^ lext.getD i 0) : Reads (lengthW (257 + i)) (bitsOf v (lext.getD i 0)) (lens.getD i 0 + v) := by
  unfold lengthW
  have hr : Reads (refuseW (285 < 257 + i) 10) [] () := reads_refuse (by omega)
  have := reads_bind (k := fun _ => if 257 + i = 285 then Way.pure 258 else (groupedW (257 + i - 257) 4).bind fun n => Way.pure (3 + n)) (b2 := bitsOf v (lext.getD i 0)) (c := lens.getD i 0 + v) hr ?_
  · rwa [List.nil_append] at this
  · by_cases h28 : i = 28
    · subst h28
      have h0 : v = 0 := by
        have : lext.getD 28 0 = 0 := rfl
        rw [this] at hv
        simpa using hv
      subst h0
      exact reads_pure 258
    · obtain ⟨e1, e2⟩ := lens_are i (by omega)
      rw [if_neg (by omega), Nat.add_sub_cancel_left, e1, e2]
      rw [e1] at hv
      have h3 := reads_map (f := fun n => 3 + n) (reads_grouped i 4 v hv)
      rw [Nat.add_assoc]
      exact h3
theorem reads_distance (i v : Nat) (hi : i < 30) (hv : v < 2 ^ dext.getD i 0) : Reads (distanceW fixedP.2) (turned i 5 ++ bitsOf v (dext.getD i 0)) (dists.getD i 0 + v) := by
  obtain ⟨e1, e2⟩ := dists_are i hi
  refine reads_bind (reads_far i (by omega)) ?_
  have hr : Reads (refuseW (30 ≤ i) 10) [] () := reads_refuse (by omega)
  have := reads_bind (k := fun _ => (groupedW i 2).bind fun n => Way.pure (1 + n)) (b2 := bitsOf v (dext.getD i 0)) (c := dists.getD i 0 + v) hr ?_
  · rwa [List.nil_append] at this
  · rw [e1, e2]
    rw [e1] at hv
    have h3 := reads_map (f := fun n => 1 + n) (reads_grouped i 2 v hv)
    rw [Nat.add_assoc]
    exact h3
/-! ### Matches -/
theorem copy_said (d n : Nat) (L : List Bool) (m p : Nat) (out : List Nat) (h : out.length + n ≤ m) : Says (copyW d n) L m ⟨p, out⟩ (.ok () ⟨p, copies out d n⟩) := by
  induction n generalizing out with
  | zero => exact Way.says_pure ()
  | succ n ih =>
    refine Way.says_bind (Way.says_put _ (by simp only; omega)) ?_
    exact ih _ (by simp only [List.length_append, List.length_singleton]; omega)
theorem match_said (n d : Nat) (L : List Bool) (m p : Nat) (out : List Nat) (hd : d ≤ out.length) (h : out.length + n ≤ m) : Says (matchW n d) L m ⟨p, out⟩ (.ok () ⟨p, copies out d n⟩) :=
  Way.says_bind (Way.says_behind d hd) (Way.says_bind (Way.says_room n h) (copy_said d n L m p out h))
/-! ### Symbols up to the end -/
theorem symbols_put (all : List Nat) (to f i : Nat) (L r : List Bool) (m p : Nat) (h8 : ∀ x ∈ all, x < 256) (hi : i ≤ to) (ht : to ≤ all.length) (hf : to ≤ i + f) (hm : to ≤ m) (hp : p ≤ L.length) (hd : L.drop p = (toks all to f i).flatMap tokBits ++ (fixedSym 256 ++ r)) :
    Says (symbolsW fixedP) L m ⟨p, all.take i⟩ (.ok () ⟨p + ((toks all to f i).flatMap tokBits).length + (fixedSym 256).length, all.take to⟩) := by
  have hend : ∀ p, p ≤ L.length → L.drop p = fixedSym 256 ++ r → Says (symbolsW fixedP) L m ⟨p, all.take to⟩ (.ok () ⟨p + (fixedSym 256).length, all.take to⟩) := fun p hp hd => by
    refine Way.says_loop_stop ?_
    refine Way.says_bind (reads_fixed 256 (by decide) L m ⟨p, all.take to⟩ r hp hd) ?_
    rw [if_neg (by decide), if_pos rfl]
    exact Way.says_pure _
  induction f generalizing i p with
  | zero =>
    obtain rfl : i = to := by omega
    have e : (toks all i 0 i).flatMap tokBits = [] := by simp [toks]
    rw [e] at hd ⊢
    exact hend p hp hd
  | succ f ih =>
    by_cases hlt : i < to
    · unfold toks at hd ⊢
      rw [if_pos hlt] at hd ⊢
      by_cases h3 : 3 ≤ (matchOf all i to).1
      · rw [if_pos h3, List.flatMap_cons] at hd ⊢
        obtain ⟨m1, m2, m3, m4, m5⟩ := matchOf_spec all i to (by omega)
        generalize (matchOf all i to).1 = n at *
        generalize (matchOf all i to).2 = q at *
        obtain ⟨l1, l2, l3⟩ := lens_fit n h3 m1
        obtain ⟨d1, d2, d3⟩ := dists_fit (i - q) (by omega) (by omega)
        have hb : tokBits ⟨n, i - q, 0⟩ = fixedSym (257 + find lens n) ++ (bitsOf (n - lens.getD (find lens n) 0) (lext.getD (find lens n) 0) ++ (turned (find dists (i - q)) 5 ++ bitsOf (i - q - dists.getD (find dists (i - q)) 0) (dext.getD (find dists (i - q)) 0))) := by
          unfold tokBits
          rw [if_neg (show ¬ i - q = 0 by omega)]
          simp only [List.append_assoc]
        rw [hb] at hd ⊢
        have r1 := reads_fixed (257 + find lens n) (by omega)
        have r2 := reads_length (find lens n) (n - lens.getD (find lens n) 0) l1 l3
        have r3 := reads_distance (find dists (i - q)) (i - q - dists.getD (find dists (i - q)) 0) d1 d3
        rw [show lens.getD (find lens n) 0 + (n - lens.getD (find lens n) 0) = n by omega] at r2
        rw [show dists.getD (find dists (i - q)) 0 + (i - q - dists.getD (find dists (i - q)) 0) = i - q by omega] at r3
        generalize fixedSym (257 + find lens n) = B1 at *
        generalize bitsOf (n - lens.getD (find lens n) 0) (lext.getD (find lens n) 0) = B2 at *
        generalize turned (find dists (i - q)) 5 ++ bitsOf (i - q - dists.getD (find dists (i - q)) 0) (dext.getD (find dists (i - q)) 0) = B3 at *
        simp only [List.append_assoc] at hd
        obtain ⟨hd1, hp1⟩ := drop_more hp hd
        obtain ⟨hd2, hp2⟩ := drop_more hp1 hd1
        obtain ⟨hd3, hp3⟩ := drop_more hp2 hd2
        have hil : (all.take i).length = i := by rw [List.length_take]; omega
        have hmt := match_said n (i - q) L m (p + B1.length + B2.length + B3.length) (all.take i) (by rw [hil]; omega) (by rw [hil]; omega)
        rw [copies_same all n i q m2 (by omega) m5] at hmt
        have hstep : Says (symStep fixedP) L m ⟨p, all.take i⟩ (.ok (.inl ()) ⟨p + B1.length + B2.length + B3.length, all.take (i + n)⟩) := by
          refine Way.says_bind (r1 L m ⟨p, all.take i⟩ _ hp hd) ?_
          rw [if_neg (by omega), if_neg (by omega)]
          refine Way.says_bind (r2 L m ⟨p + B1.length, all.take i⟩ _ hp1 hd1) ?_
          refine Way.says_bind (r3 L m ⟨p + B1.length + B2.length, all.take i⟩ _ hp2 hd2) ?_
          exact Way.says_bind hmt (Way.says_pure _)
        have hrest := ih (i + n) (p + B1.length + B2.length + B3.length) m4 (by omega) hp3 hd3
        have e : p + (B1 ++ (B2 ++ B3) ++ (toks all to f (i + n)).flatMap tokBits).length + (fixedSym 256).length = p + B1.length + B2.length + B3.length + ((toks all to f (i + n)).flatMap tokBits).length + (fixedSym 256).length := by
          simp only [List.length_append]
          omega
        rw [e]
        exact Way.says_loop_next hstep hrest
      · rw [if_neg h3, List.flatMap_cons] at hd ⊢
        have hx : all.getD i 0 < 256 := by
          rw [List.getD_eq_getElem?_getD, List.getElem?_eq_getElem (by omega)]
          exact h8 _ (List.getElem_mem _)
        have hb : tokBits ⟨0, 0, all.getD i 0⟩ = fixedSym (all.getD i 0) := by
          unfold tokBits
          rw [if_pos rfl]
        rw [hb] at hd ⊢
        rw [List.append_assoc] at hd
        have r1 := reads_fixed (all.getD i 0) (by omega)
        obtain ⟨hd1, hp1⟩ := drop_more hp hd
        have e : all.take i ++ [all.getD i 0] = all.take (i + 1) := by
          rw [List.take_add_one, List.getD_eq_getElem?_getD, List.getElem?_eq_getElem (by omega)]
          rfl
        have hil : (all.take i).length = i := by rw [List.length_take]; omega
        have hstep : Says (symStep fixedP) L m ⟨p, all.take i⟩ (.ok (.inl ()) ⟨p + (fixedSym (all.getD i 0)).length, all.take (i + 1)⟩) := by
          refine Way.says_bind (r1 L m ⟨p, all.take i⟩ _ hp hd) ?_
          rw [if_pos hx]
          refine Way.says_bind (Way.says_room 1 (by simp only; rw [hil]; omega)) ?_
          refine Way.says_bind (Way.says_put _ (by simp only; rw [hil]; omega)) ?_
          simp only
          rw [e]
          exact Way.says_pure _
        have hrest := ih (i + 1) (p + (fixedSym (all.getD i 0)).length) (by omega) (by omega) hp1 hd1
        have e2 : p + (fixedSym (all.getD i 0) ++ (toks all to f (i + 1)).flatMap tokBits).length + (fixedSym 256).length = p + (fixedSym (all.getD i 0)).length + ((toks all to f (i + 1)).flatMap tokBits).length + (fixedSym 256).length := by
          rw [List.length_append]
          omega
        rw [e2]
        exact Way.says_loop_next hstep hrest
    · obtain rfl : i = to := by omega
      unfold toks at hd ⊢
      rw [if_neg hlt] at hd ⊢
      exact hend p hp hd
end Go.Proofs.Ytefdlidjdmlnaaa.Fx
namespace Go.Proofs.Ytefdlidjdmlnaaa.Fx
set_option linter.unusedVariables false
theorem refuse_ok {c : Prop} [Decidable c] {e : Nat} {L : List Bool} {m : Nat} {s : St} (h : ¬ c) : Says (refuseW c e) L m s (.ok () s) := by
  unfold refuseW
  rw [if_neg h]
  exact Way.says_pure ()
theorem bytes_said (zs : List Nat) (h8 : ∀ x ∈ zs, x < 256) (L r : List Bool) (m p : Nat) (out : List Nat) (hm : out.length + zs.length ≤ m) (hp : p ≤ L.length) (hd : L.drop p = bitsOfBytes zs ++ r) :
    Says (bytesW zs.length) L m ⟨p, out⟩ (.ok () ⟨p + 8 * zs.length, out ++ zs⟩) := by
  induction zs generalizing p out with
  | nil =>
    rw [List.append_nil]
    exact Way.says_pure ()
  | cons z zs ih =>
    have e : bitsOfBytes (z :: zs) = bitsOf z 8 ++ bitsOfBytes zs := by
      unfold bitsOfBytes
      rw [List.flatMap_cons]
    rw [e, List.append_assoc] at hd
    rw [List.length_cons] at hm ⊢
    have hz := h8 z (List.mem_cons_self ..)
    obtain ⟨hd1, hp1⟩ := drop_more hp hd
    have r1 := reads_get z 8 hz L m ⟨p, out⟩ _ hp hd
    rw [bitsOf_length] at r1 hd1 hp1
    have h2 := ih (fun x hx => h8 x (List.mem_cons_of_mem _ hx)) (p + 8) (out ++ [z]) (by rw [List.length_append, List.length_singleton]; omega) hp1 hd1
    refine Way.says_bind r1 (Way.says_bind (Way.says_put _ (by simp only; omega)) ?_)
    simp only
    rw [List.append_assoc, List.singleton_append] at h2
    rw [show p + 8 * (zs.length + 1) = p + 8 + 8 * zs.length by omega]
    exact h2
/-- A block that says what stands between two places. -/
def Blocks (l X : List Bool) (all : List Nat) (a to last : Nat) : Prop := ∀ (L r : List Bool) (m : Nat), to ≤ m → l.length ≤ L.length → L.drop l.length = X ++ r → ∃ u, Says (Way.get 1) L m ⟨l.length, all.take a⟩ (.ok last u) ∧ Says blockW L m u (.ok () ⟨l.length + X.length, all.take to⟩)
theorem block_fixed (l : List Bool) (all : List Nat) (a to last : Nat) (h8 : ∀ x ∈ all, x < 256) (ha : a ≤ to) (ht : to ≤ all.length) (hl : last < 2) :
    ∃ X, fixedBlock l (tokens all a to) last = l ++ X ∧ Blocks l X all a to last := by
  refine ⟨bitsOf last 1 ++ (bitsOf 1 2 ++ ((tokens all a to).flatMap tokBits ++ fixedSym 256)), by unfold fixedBlock; simp only [List.append_assoc], ?_⟩
  intro L r m hm hp hd
  simp only [List.append_assoc] at hd
  obtain ⟨hd1, hp1⟩ := drop_more hp hd
  obtain ⟨hd2, hp2⟩ := drop_more hp1 hd1
  refine ⟨_, reads_get last 1 (by omega) L m ⟨l.length, all.take a⟩ _ hp hd, ?_⟩
  refine Way.says_bind (reads_get 1 2 (by decide) L m ⟨l.length + (bitsOf last 1).length, all.take a⟩ _ hp1 hd1) ?_
  rw [if_neg (by decide), if_pos rfl]
  have h := symbols_put all to (to - a) a L r m _ h8 ha ht (by omega) hm hp2 hd2
  have e : (bitsOf last 1 ++ (bitsOf 1 2 ++ ((tokens all a to).flatMap tokBits ++ fixedSym 256))).length = (bitsOf last 1).length + (bitsOf 1 2).length + ((toks all to (to - a) a).flatMap tokBits).length + (fixedSym 256).length := by
    simp only [List.length_append]
    unfold tokens
    omega
  rw [e]
  simp only [← Nat.add_assoc]
  exact h
theorem block_stored (l : List Bool) (all : List Nat) (a to last : Nat) (h8 : ∀ x ∈ all, x < 256) (ha : a ≤ to) (ht : to ≤ all.length) (hs : to - a < 65536) (hl : last < 2) :
    ∃ X, storedBlock l ((all.take to).drop a) last = l ++ X ∧ Blocks l X all a to last := by
  have hz : ((all.take to).drop a).length = to - a := by rw [List.length_drop, List.length_take]; omega
  have hcat : all.take a ++ (all.take to).drop a = all.take to := by
    have := List.take_append_drop a (all.take to)
    rwa [List.take_take, Nat.min_eq_left ha] at this
  have hz8 : ∀ x ∈ (all.take to).drop a, x < 256 := fun x hx => h8 x (List.mem_of_mem_take (List.mem_of_mem_drop hx))
  have hal : (all.take a).length = a := by rw [List.length_take]; omega
  generalize (all.take to).drop a = zs at *
  have hpl : (l ++ bitsOf last 1 ++ bitsOf 0 2).length = l.length + 3 := by rw [List.length_append, List.length_append, bitsOf_length, bitsOf_length]
  refine ⟨bitsOf last 1 ++ (bitsOf 0 2 ++ (List.replicate ((8 - (l.length + 3) % 8) % 8) false ++ (bitsOf zs.length 16 ++ (bitsOf (65535 - zs.length) 16 ++ bitsOfBytes zs)))), ?_, ?_⟩
  · unfold storedBlock aligned
    rw [hpl]
    simp only [List.append_assoc]
  · intro L r m hm hp hd
    simp only [List.append_assoc] at hd
    obtain ⟨hd1, hp1⟩ := drop_more hp hd
    obtain ⟨hd2, hp2⟩ := drop_more hp1 hd1
    obtain ⟨hd3, hp3⟩ := drop_more hp2 hd2
    obtain ⟨hd4, hp4⟩ := drop_more hp3 hd3
    obtain ⟨hd5, hp5⟩ := drop_more hp4 hd4
    refine ⟨_, reads_get last 1 (by omega) L m ⟨l.length, all.take a⟩ _ hp hd, ?_⟩
    refine Way.says_bind (reads_get 0 2 (by decide) L m ⟨l.length + (bitsOf last 1).length, all.take a⟩ _ hp1 hd1) ?_
    rw [if_pos rfl]
    have hal2 : (l.length + (bitsOf last 1).length + (bitsOf 0 2).length + 7) / 8 * 8 = l.length + (bitsOf last 1).length + (bitsOf 0 2).length + (List.replicate ((8 - (l.length + 3) % 8) % 8) false).length := by
      rw [bitsOf_length, bitsOf_length, List.length_replicate]
      omega
    refine Way.says_bind (a := ()) (u := ⟨l.length + (bitsOf last 1).length + (bitsOf 0 2).length + (List.replicate ((8 - (l.length + 3) % 8) % 8) false).length, all.take a⟩) (by
      have := Way.says_align (L := L) (m := m) (s := ⟨l.length + (bitsOf last 1).length + (bitsOf 0 2).length, all.take a⟩)
      simp only at this
      rw [hal2] at this
      exact this) ?_
    refine Way.says_bind (reads_get zs.length 16 (by omega) L m _ _ hp3 hd3) ?_
    refine Way.says_bind (reads_get (65535 - zs.length) 16 (by omega) L m _ _ hp4 hd4) ?_
    refine Way.says_bind (refuse_ok (fun h => h rfl)) ?_
    refine Way.says_bind (Way.says_room _ (by simp only; rw [hal]; omega)) ?_
    have h := bytes_said zs hz8 L r m _ (all.take a) (by rw [hal]; omega) hp5 hd5
    rw [hcat] at h
    have e : (bitsOf last 1 ++ (bitsOf 0 2 ++ (List.replicate ((8 - (l.length + 3) % 8) % 8) false ++ (bitsOf zs.length 16 ++ (bitsOf (65535 - zs.length) 16 ++ bitsOfBytes zs))))).length = (bitsOf last 1).length + (bitsOf 0 2).length + (List.replicate ((8 - (l.length + 3) % 8) % 8) false).length + (bitsOf zs.length 16).length + (bitsOf (65535 - zs.length) 16).length + 8 * zs.length := by
      simp only [List.length_append, bitsOfBytes_length]
      omega
    rw [e]
    simp only [← Nat.add_assoc]
    exact h
theorem block_put (l : List Bool) (all : List Nat) (a to last : Nat) (h8 : ∀ x ∈ all, x < 256) (ha : a ≤ to) (ht : to ≤ all.length) (hs : to - a < 65536) (hl : last < 2) :
    ∃ X, blockOf l all a to last = l ++ X ∧ Blocks l X all a to last := by
  unfold blockOf
  split
  · exact block_stored l all a to last h8 ha ht hs hl
  · exact block_fixed l all a to last h8 ha ht hl
theorem more_stop {L : List Bool} {m : Nat} {s u t : St} {l : Nat} (h1 : Says (Way.get 1) L m s (.ok l u)) (h2 : Says blockW L m u (.ok () t)) (h : ¬ l = 0) : Says blocksW L m s (.ok () t) := by
  have : Says ((fun _ : Unit => (Way.get 1).bind fun l => blockW.bind fun _ => if l = 0 then Way.pure (Sum.inl ()) else Way.pure (Sum.inr ())) ()) L m s (.ok (.inr ()) t) := Way.says_bind h1 (Way.says_bind h2 (by rw [if_neg h]; exact Way.says_pure _))
  exact Way.says_loop_stop this
theorem more_next {L : List Bool} {m : Nat} {s u t : St} {l : Nat} {r : Res Unit} (h1 : Says (Way.get 1) L m s (.ok l u)) (h2 : Says blockW L m u (.ok () t)) (h : l = 0) (h3 : Says blocksW L m t r) : Says blocksW L m s r := by
  have : Says ((fun _ : Unit => (Way.get 1).bind fun l => blockW.bind fun _ => if l = 0 then Way.pure (Sum.inl ()) else Way.pure (Sum.inr ())) ()) L m s (.ok (.inl ()) t) := Way.says_bind h1 (Way.says_bind h2 (by rw [if_pos h]; exact Way.says_pure _))
  exact Way.says_loop_next this h3
theorem blocks_put (all : List Nat) (d k : Nat) (h8 : ∀ x ∈ all, x < 256) (hk : k + d = fullOf all.length) :
    ∃ Y, blockOf (blocksOf all (fullOf all.length)) all (4096 * fullOf all.length) all.length 1 = blocksOf all k ++ Y ∧
      ∀ (L r : List Bool) (m : Nat), all.length ≤ m → (blocksOf all k).length ≤ L.length → L.drop (blocksOf all k).length = Y ++ r → Says blocksW L m ⟨(blocksOf all k).length, all.take (4096 * k)⟩ (.ok () ⟨(blocksOf all k).length + Y.length, all⟩) := by
  have hJ : 4096 * fullOf all.length ≤ all.length := by unfold fullOf; omega
  have hJ2 : all.length - 4096 * fullOf all.length < 65536 := by unfold fullOf; omega
  induction d generalizing k with
  | zero =>
    obtain rfl : k = fullOf all.length := by omega
    obtain ⟨X, hX, hg⟩ := block_put (blocksOf all (fullOf all.length)) all (4096 * fullOf all.length) all.length 1 h8 hJ (Nat.le_refl _) hJ2 (by decide)
    refine ⟨X, hX, fun L r m hm hp hd => ?_⟩
    obtain ⟨u, h1, h2⟩ := hg L r m hm hp hd
    rw [List.take_length] at h2
    exact more_stop h1 h2 (by decide)
  | succ d ih =>
    obtain ⟨Y, hY, hi⟩ := ih (k + 1) (by omega)
    have hk2 : 4096 * (k + 1) ≤ all.length := by
      have : k + 1 ≤ fullOf all.length := by omega
      have := Nat.mul_le_mul_left 4096 this
      omega
    obtain ⟨X, hX, hg⟩ := block_put (blocksOf all k) all (4096 * k) (4096 * (k + 1)) 0 h8 (by omega) hk2 (by omega) (by decide)
    have hb : blocksOf all (k + 1) = blocksOf all k ++ X := hX
    refine ⟨X ++ Y, by rw [hY, hb, List.append_assoc], fun L r m hm hp hd => ?_⟩
    rw [List.append_assoc] at hd
    obtain ⟨u, h1, h2⟩ := hg L (Y ++ r) m (by omega) hp hd
    obtain ⟨hd1, hp1⟩ := drop_more hp hd
    have hl : (blocksOf all (k + 1)).length = (blocksOf all k).length + X.length := by rw [hb, List.length_append]
    have h3 := hi L r m hm (by rw [hl]; exact hp1) (by rw [hl]; exact hd1)
    rw [hl] at h3
    rw [List.length_append, ← Nat.add_assoc]
    exact more_next h1 h2 rfl h3
/-- The bits of a stream, up to its last block's end. -/
def lastBits (all : List Nat) : List Bool := blockOf (blocksOf all (fullOf all.length)) all (4096 * fullOf all.length) all.length 1
/-- What deflate tells is told back, whatever stands behind it. -/
theorem told_back (all : List Nat) (x : List Bool) (m : Nat) (h8 : ∀ z ∈ all, z < 256) (hm : all.length ≤ m) : Says blocksW (endOf all ++ x) m ⟨0, []⟩ (.ok () ⟨(lastBits all).length, all⟩) := by
  obtain ⟨Y, hY, hi⟩ := blocks_put all (fullOf all.length) 0 h8 (by omega)
  have hY' : lastBits all = Y := by
    unfold lastBits
    rw [hY]
    rfl
  have h := hi (endOf all ++ x) (List.replicate ((8 - (lastBits all).length % 8) % 8) false ++ x) m hm (Nat.zero_le _) (by
    show List.drop 0 _ = _
    rw [List.drop_zero, ← hY']
    unfold endOf aligned lastBits
    rw [List.append_assoc])
  rw [hY']
  have e0 : (blocksOf all 0).length = 0 := rfl
  rw [e0, Nat.zero_add] at h
  exact h
theorem last_length (all : List Nat) : ((lastBits all).length + 7) / 8 * 8 = (endOf all).length ∧ 0 < (lastBits all).length := by
  refine ⟨by unfold endOf; rw [aligned_length]; rfl, ?_⟩
  unfold lastBits blockOf
  split
  · rw [storedBlock_length]
    omega
  · unfold fixedBlock
    simp only [List.length_append]
    have := fixedSym_some 256
    omega
/-! ### Cut, more behind, less room -/
theorem cut_short {L : List Bool} {m : Nat} {t : St} (h : Says blocksW L m ⟨0, []⟩ (.ok () t)) (hL : L.length % 8 = 0) (k : Nat) (hk : k < t.pos) (h8 : k % 8 = 0) : Says blocksW (L.take k) m ⟨0, []⟩ (.err 12) := by
  obtain ⟨f, h⟩ := h
  exact ⟨f, blocksW.cut f L m ⟨0, []⟩ () t (Nat.zero_le _) hL h k (Nat.zero_le _) hk h8⟩
theorem more_same {L L' : List Bool} {m m' : Nat} {t : St} (h : Says blocksW L m ⟨0, []⟩ (.ok () t)) (hL : L.length % 8 = 0) (hL' : L'.length % 8 = 0) (hp : t.pos ≤ L'.length) (he : L'.take t.pos = L.take t.pos) (hm : m ≤ m') : Says blocksW L' m' ⟨0, []⟩ (.ok () t) := by
  obtain ⟨f, h⟩ := h
  exact ⟨f, blocksW.alike f L m ⟨0, []⟩ () t (Nat.zero_le _) hL h L' m' hL' hp he hm⟩
theorem less_long {L : List Bool} {m m' : Nat} {t : St} (h : Says blocksW L m ⟨0, []⟩ (.ok () t)) (hL : L.length % 8 = 0) (hm : m' ≤ m) (ht : m' < t.out.length) : Says blocksW L m' ⟨0, []⟩ (.err 3) := by
  obtain ⟨f, h⟩ := h
  rcases blocksW.low f L m ⟨0, []⟩ () t h m' hm with h' | h'
  · have := (blocksW.on f L m' ⟨0, []⟩ () t (Nat.zero_le _) hL h').2.2.2 (Nat.zero_le _)
    omega
  · exact ⟨f, h'⟩
theorem some_bits {L : List Bool} {m : Nat} {t : St} (h : Says blocksW L m ⟨0, []⟩ (.ok () t)) (hL : L.length % 8 = 0) : 1 ≤ t.pos ∧ t.pos ≤ L.length ∧ t.out.length ≤ m := by
  have h0 := Way.says_on h (Nat.zero_le _) hL
  refine ⟨?_, h0.2.1, h0.2.2.2 (Nat.zero_le _)⟩
  obtain ⟨f, h⟩ := h
  cases f with
  | zero => cases h
  | succ f =>
    have first : ∀ (x : Unit ⊕ Unit) (u : St), ((Way.get 1).bind fun l => blockW.bind fun _ => if l = 0 then Way.pure (Sum.inl ()) else Way.pure (Sum.inr ()) : Way (Unit ⊕ Unit)).run (f + 1) L m ⟨0, []⟩ = some (.ok x u) → 1 ≤ u.pos := by
      intro x u hx
      obtain ⟨a, v, h1, h2⟩ := Way.bind_ok hx
      have hv : v.pos = 1 ∧ v.pos ≤ L.length := by
        unfold Way.get at h1
        simp only [Option.some.injEq] at h1
        split at h1
        · cases h1
        · cases h1
          exact ⟨rfl, by simp only; omega⟩
      have := (Way.on _ _ _ _ _ _ _ hv.2 hL h2).1
      omega
    have h : Way.rounds (fun _ : Unit => (Way.get 1).bind fun l => blockW.bind fun _ => if l = 0 then Way.pure (Sum.inl ()) else Way.pure (Sum.inr ())) (f + 1) L m (f + 1) () ⟨0, []⟩ = some (.ok () t) := h
    rcases Way.rounds_ok h with h | ⟨b', u, hx, h⟩
    · exact first _ _ h
    · have h1 := first _ _ hx
      have hu := (Way.on _ _ _ _ _ _ _ (Nat.zero_le _) hL hx).2.1
      have key : ∀ n b s, s.pos ≤ L.length → 1 ≤ s.pos → Way.rounds (fun _ : Unit => (Way.get 1).bind fun l => blockW.bind fun _ => if l = 0 then Way.pure (Sum.inl ()) else Way.pure (Sum.inr ())) (f + 1) L m n b s = some (.ok () t) → 1 ≤ t.pos := by
        intro n
        induction n with
        | zero => intro b s _ _ h; cases h
        | succ n ih =>
          intro b s hs h1 h
          rcases Way.rounds_ok h with h | ⟨b', u, hx, h⟩
          · have := (Way.on _ _ _ _ _ _ _ hs hL h).1
            omega
          · have h2 := Way.on _ _ _ _ _ _ _ hs hL hx
            exact ih b' u h2.2.1 (by omega) h
      exact key f b' u hu h1 h
end Go.Proofs.Ytefdlidjdmlnaaa.Fx
namespace Go.Proofs.Ytefdlidjdmlnaaa.Fx
theorem bits_join (x y : List Nat) : bitsOfBytes (x ++ y) = bitsOfBytes x ++ bitsOfBytes y := by
  unfold bitsOfBytes
  rw [List.flatMap_append]
theorem bits_cut (zs : List Nat) (q : Nat) (hq : q ≤ zs.length) : bitsOfBytes (zs.take q) = (bitsOfBytes zs).take (8 * q) := by
  have h : bitsOfBytes zs = bitsOfBytes (zs.take q) ++ bitsOfBytes (zs.drop q) := by rw [← bits_join, List.take_append_drop]
  have hl : (bitsOfBytes (zs.take q)).length = 8 * q := by
    rw [bitsOfBytes_length, List.length_take]
    omega
  rw [h, ← hl, List.take_left]
theorem bits_eight (zs : List Nat) : (bitsOfBytes zs).length % 8 = 0 := by
  rw [bitsOfBytes_length]
  omega
theorem some_bytes {zs : List Nat} {m : Nat} {t : St} (h : Says blocksW (bitsOfBytes zs) m ⟨0, []⟩ (.ok () t)) : 1 ≤ (t.pos + 7) / 8 ∧ (t.pos + 7) / 8 ≤ zs.length ∧ t.out.length ≤ m := by
  have h1 := some_bits h (bits_eight zs)
  rw [bitsOfBytes_length] at h1
  omega
theorem cut_bytes {zs : List Nat} {m : Nat} {t : St} (h : Says blocksW (bitsOfBytes zs) m ⟨0, []⟩ (.ok () t)) (q : Nat) (hq : q < (t.pos + 7) / 8) : Says blocksW (bitsOfBytes (zs.take q)) m ⟨0, []⟩ (.err 12) := by
  have h1 := some_bytes h
  rw [bits_cut zs q (by omega)]
  exact cut_short h (bits_eight zs) (8 * q) (by omega) (by omega)
theorem more_bytes {zs : List Nat} {m : Nat} {t : St} (h : Says blocksW (bitsOfBytes zs) m ⟨0, []⟩ (.ok () t)) (n : Nat) (hn : (t.pos + 7) / 8 = n) (xs : List Nat) (m' : Nat) (hm : m ≤ m') : Says blocksW (bitsOfBytes (zs.take n ++ xs)) m' ⟨0, []⟩ (.ok () t) := by
  have h1 := some_bytes h
  refine more_same h (bits_eight zs) (bits_eight _) ?_ ?_ hm
  · rw [bitsOfBytes_length, List.length_append, List.length_take]
    omega
  · rw [bits_join, bits_cut zs n (by omega), List.take_append_of_le_length (by rw [List.length_take, bitsOfBytes_length]; omega), List.take_take]
    congr 1
    omega
theorem less_bytes {zs : List Nat} {m m' : Nat} {t : St} (h : Says blocksW (bitsOfBytes zs) m ⟨0, []⟩ (.ok () t)) (hm : m' ≤ m) (ht : m' < t.out.length) : Says blocksW (bitsOfBytes zs) m' ⟨0, []⟩ (.err 3) := less_long h (bits_eight zs) hm ht
end Go.Proofs.Ytefdlidjdmlnaaa.Fx
namespace Go.Proofs.Ytefdlidjdmlnaaa.Fx
theorem back_says (zs x : List Nat) (m : Nat) (h8 : ∀ z ∈ zs, z < 256) (hm : zs.length ≤ m) : Says blocksW (bitsOfBytes (wholeOf zs ++ x)) m ⟨0, []⟩ (.ok () ⟨(lastBits zs).length, zs⟩) := by
  rw [bits_join, whole_bits]
  exact told_back zs _ m h8 hm
theorem back_all (zs : List Nat) (m : Nat) (h8 : ∀ z ∈ zs, z < 256) (hm : zs.length ≤ m) : Says blocksW (bitsOfBytes (wholeOf zs)) m ⟨0, []⟩ (.ok () ⟨(lastBits zs).length, zs⟩) := by
  have h := back_says zs [] m h8 hm
  rwa [List.append_nil] at h
theorem back_length (zs : List Nat) : ((lastBits zs).length + 7) / 8 = (wholeOf zs).length ∧ 0 < (wholeOf zs).length := by
  have h := congrArg List.length (whole_bits zs)
  rw [bitsOfBytes_length] at h
  have h1 := last_length zs
  omega
end Go.Proofs.Ytefdlidjdmlnaaa.Fx
