/-
  Ways: what is read of bits, with bytes that stand ahead and a room: each is the same with other bits behind, ErrShort where bits are wanting, ErrLong with less room. Built of small ones, these laws ride along. No condition but those that are said.
-/
import Derived.Test.YtbfpbmnnlckldaaDoorBitsP
namespace Go.Proofs.YtbfpbmnnlckldaaDoor.Fx
set_option linter.unusedVariables false
/-- Where the reading is, and the bytes so far. -/
structure St where
  pos : Nat
  out : List Nat
inductive Res (α : Type) where
  | ok (a : α) (s : St)
  | err (e : Nat)
structure Way (α : Type) where
  run : Nat → List Bool → Nat → St → Option (Res α)
  more : ∀ f L m s r, run f L m s = some r → run (f + 1) L m s = some r
  on : ∀ f L m s a t, s.pos ≤ L.length → L.length % 8 = 0 → run f L m s = some (.ok a t) → s.pos ≤ t.pos ∧ t.pos ≤ L.length ∧ s.out.length ≤ t.out.length ∧ (s.out.length ≤ m → t.out.length ≤ m)
  alike : ∀ f L m s a t, s.pos ≤ L.length → L.length % 8 = 0 → run f L m s = some (.ok a t) → ∀ L' m', L'.length % 8 = 0 → t.pos ≤ L'.length → L'.take t.pos = L.take t.pos → m ≤ m' → run f L' m' s = some (.ok a t)
  cut : ∀ f L m s a t, s.pos ≤ L.length → L.length % 8 = 0 → run f L m s = some (.ok a t) → ∀ k, s.pos ≤ k → k < t.pos → k % 8 = 0 → run f (L.take k) m s = some (.err 12)
  low : ∀ f L m s a t, run f L m s = some (.ok a t) → ∀ m', m' ≤ m → run f L m' s = some (.ok a t) ∨ run f L m' s = some (.err 3)
namespace Way
def pure {α : Type} (a : α) : Way α where
  run := fun _ _ _ s => some (.ok a s)
  more := fun f L m s r h => h
  on := fun f L m s a' t h1 h2 h => by
    cases h
    exact ⟨Nat.le_refl _, h1, Nat.le_refl _, fun h => h⟩
  alike := fun f L m s a' t _ _ h L' m' _ _ _ _ => h
  cut := fun f L m s a' t h1 h2 h k hk hk2 _ => by
    cases h
    omega
  low := fun f L m s a' t h m' _ => .inl h
def fail {α : Type} (e : Nat) : Way α where
  run := fun _ _ _ _ => some (.err e)
  more := fun f L m s r h => h
  on := fun f L m s a t _ _ h => by cases h
  alike := fun f L m s a t _ _ h => by cases h
  cut := fun f L m s a t _ _ h => by cases h
  low := fun f L m s a t h => by cases h
def get (k : Nat) : Way Nat where
  run := fun _ L _ s => some (if L.length < s.pos + k then .err 12 else .ok (numAt L s.pos k) ⟨s.pos + k, s.out⟩)
  more := fun f L m s r h => h
  on := fun f L m s a t h1 h2 h => by
    simp only [Option.some.injEq] at h
    split at h
    · cases h
    · cases h
      exact ⟨by simp only; omega, by simp only; omega, Nat.le_refl _, fun h => h⟩
  alike := fun f L m s a t h1 h2 h L' m' h3 h4 h5 h6 => by
    simp only [Option.some.injEq] at h ⊢
    split at h
    · cases h
    · cases h
      simp only at h4 h5
      rw [if_neg (by omega)]
      have e : ∀ X : List Bool, numAt X s.pos k = numOf ((X.take (s.pos + k)).drop s.pos) := fun X => by
        unfold numAt
        rw [List.drop_take, Nat.add_sub_cancel_left]
      rw [e, e, h5]
  cut := fun f L m s a t h1 h2 h k' hk hk2 _ => by
    simp only [Option.some.injEq] at h ⊢
    split at h
    · cases h
    · cases h
      simp only at hk2
      rw [if_pos (by rw [List.length_take]; omega)]
  low := fun f L m s a t h m' _ => .inl h
/-- Up to a whole byte. -/
def align : Way Unit where
  run := fun _ _ _ s => some (.ok () ⟨(s.pos + 7) / 8 * 8, s.out⟩)
  more := fun f L m s r h => h
  on := fun f L m s a t h1 h2 h => by
    cases h
    exact ⟨by simp only; omega, by simp only; omega, Nat.le_refl _, fun h => h⟩
  alike := fun f L m s a t _ _ h L' m' _ _ _ _ => h
  cut := fun f L m s a t h1 h2 h k hk hk2 h8 => by
    cases h
    simp only at hk2
    omega
  low := fun f L m s a t h m' _ => .inl h
/-- Room for so many bytes more. -/
def room (n : Nat) : Way Unit where
  run := fun _ _ m s => some (if m < s.out.length + n then .err 3 else .ok () s)
  more := fun f L m s r h => h
  on := fun f L m s a t h1 h2 h => by
    simp only [Option.some.injEq] at h
    split at h
    · cases h
    · cases h
      exact ⟨Nat.le_refl _, h1, Nat.le_refl _, fun h => h⟩
  alike := fun f L m s a t h1 h2 h L' m' h3 h4 h5 h6 => by
    simp only [Option.some.injEq] at h ⊢
    split at h
    · cases h
    · cases h
      rw [if_neg (by omega)]
  cut := fun f L m s a t h1 h2 h k hk hk2 h8 => by
    simp only [Option.some.injEq] at h
    split at h
    · cases h
    · cases h
      omega
  low := fun f L m s a t h m' hm => by
    simp only [Option.some.injEq] at h ⊢
    split at h
    · cases h
    · cases h
      split
      · exact .inr rfl
      · exact .inl rfl
/-- One byte more. -/
def put (x : List Nat → Nat) : Way Unit where
  run := fun _ _ m s => some (if m < s.out.length + 1 then .err 3 else .ok () ⟨s.pos, s.out ++ [x s.out]⟩)
  more := fun f L m s r h => h
  on := fun f L m s a t h1 h2 h => by
    simp only [Option.some.injEq] at h
    split at h
    · cases h
    · cases h
      refine ⟨Nat.le_refl _, h1, ?_, fun h => ?_⟩
      · simp
      · simp only [List.length_append, List.length_singleton]
        omega
  alike := fun f L m s a t h1 h2 h L' m' h3 h4 h5 h6 => by
    simp only [Option.some.injEq] at h ⊢
    split at h
    · cases h
    · cases h
      rw [if_neg (by omega)]
  cut := fun f L m s a t h1 h2 h k hk hk2 h8 => by
    simp only [Option.some.injEq] at h
    split at h
    · cases h
    · cases h
      simp only at hk2
      omega
  low := fun f L m s a t h m' hm => by
    simp only [Option.some.injEq] at h ⊢
    split at h
    · cases h
    · cases h
      split
      · exact .inr rfl
      · exact .inl rfl
/-- So many bytes stand ahead. -/
def behind (d : Nat) : Way Unit where
  run := fun _ _ _ s => some (if s.out.length < d then .err 10 else .ok () s)
  more := fun f L m s r h => h
  on := fun f L m s a t h1 h2 h => by
    simp only [Option.some.injEq] at h
    split at h
    · cases h
    · cases h
      exact ⟨Nat.le_refl _, h1, Nat.le_refl _, fun h => h⟩
  alike := fun f L m s a t h1 h2 h L' m' h3 h4 h5 h6 => h
  cut := fun f L m s a t h1 h2 h k hk hk2 h8 => by
    simp only [Option.some.injEq] at h
    split at h
    · cases h
    · cases h
      omega
  low := fun f L m s a t h m' hm => .inl h
def bindRun {α β : Type} (x : Way α) (k : α → Way β) (f : Nat) (L : List Bool) (m : Nat) (s : St) : Option (Res β) :=
  match x.run f L m s with
  | none => none
  | some (.err e) => some (.err e)
  | some (.ok a s) => (k a).run f L m s
theorem bind_ok {α β : Type} {x : Way α} {k : α → Way β} {f : Nat} {L : List Bool} {m : Nat} {s t : St} {b : β} (h : bindRun x k f L m s = some (.ok b t)) : ∃ a u, x.run f L m s = some (.ok a u) ∧ (k a).run f L m u = some (.ok b t) := by
  unfold bindRun at h
  cases hx : x.run f L m s with
  | none => rw [hx] at h; cases h
  | some r =>
    cases r with
    | err e => rw [hx] at h; cases h
    | ok a u => rw [hx] at h; exact ⟨a, u, rfl, h⟩
theorem bindRun_ok {α β : Type} {x : Way α} {k : α → Way β} {f : Nat} {L : List Bool} {m : Nat} {s u : St} {a : α} (h : x.run f L m s = some (.ok a u)) : bindRun x k f L m s = (k a).run f L m u := by
  unfold bindRun
  rw [h]
theorem bindRun_err {α β : Type} {x : Way α} {k : α → Way β} {f : Nat} {L : List Bool} {m : Nat} {s : St} {e : Nat} (h : x.run f L m s = some (.err e)) : bindRun x k f L m s = some (.err e) := by
  unfold bindRun
  rw [h]
def bind {α β : Type} (x : Way α) (k : α → Way β) : Way β where
  run := bindRun x k
  more := fun f L m s r h => by
    unfold bindRun at h ⊢
    cases hx : x.run f L m s with
    | none => rw [hx] at h; cases h
    | some r' =>
      rw [x.more _ _ _ _ _ hx]
      cases r' with
      | err e => rw [hx] at h; exact h
      | ok a u =>
        rw [hx] at h
        exact (k a).more _ _ _ _ _ h
  on := fun f L m s b t h1 h2 h => by
    obtain ⟨a, u, hx, hk⟩ := bind_ok h
    obtain ⟨p1, p2, p3, p4⟩ := x.on _ _ _ _ _ _ h1 h2 hx
    obtain ⟨q1, q2, q3, q4⟩ := (k a).on _ _ _ _ _ _ p2 h2 hk
    exact ⟨Nat.le_trans p1 q1, q2, Nat.le_trans p3 q3, fun h => q4 (p4 h)⟩
  alike := fun f L m s b t h1 h2 h L' m' h3 h4 h5 h6 => by
    obtain ⟨a, u, hx, hk⟩ := bind_ok h
    obtain ⟨p1, p2, p3, p4⟩ := x.on _ _ _ _ _ _ h1 h2 hx
    obtain ⟨q1, q2, q3, q4⟩ := (k a).on _ _ _ _ _ _ p2 h2 hk
    have e : L'.take u.pos = L.take u.pos := by
      have := congrArg (List.take u.pos) h5
      rwa [List.take_take, List.take_take, Nat.min_eq_left q1] at this
    rw [bindRun_ok (x.alike _ _ _ _ _ _ h1 h2 hx L' m' h3 (by omega) e h6)]
    exact (k a).alike _ _ _ _ _ _ p2 h2 hk L' m' h3 h4 h5 h6
  cut := fun f L m s b t h1 h2 h j hj hj2 h8 => by
    obtain ⟨a, u, hx, hk⟩ := bind_ok h
    obtain ⟨p1, p2, p3, p4⟩ := x.on _ _ _ _ _ _ h1 h2 hx
    obtain ⟨q1, q2, q3, q4⟩ := (k a).on _ _ _ _ _ _ p2 h2 hk
    by_cases hju : j < u.pos
    · exact bindRun_err (x.cut _ _ _ _ _ _ h1 h2 hx j hj hju h8)
    · have hl : (L.take j).length = j := by rw [List.length_take]; omega
      rw [bindRun_ok (x.alike _ _ _ _ _ _ h1 h2 hx (L.take j) m (by rw [hl]; exact h8) (by rw [hl]; omega) (by rw [List.take_take, Nat.min_eq_left (by omega)]) (Nat.le_refl _))]
      exact (k a).cut _ _ _ _ _ _ p2 h2 hk j (by omega) hj2 h8
  low := fun f L m s b t h m' hm => by
    obtain ⟨a, u, hx, hk⟩ := bind_ok h
    rcases x.low _ _ _ _ _ _ hx m' hm with hx' | hx'
    · rw [bindRun_ok hx']
      exact (k a).low _ _ _ _ _ _ hk m' hm
    · exact .inr (bindRun_err hx')
/-- Again and again, up to an answer: n rounds at most. -/
def rounds {α β : Type} (step : β → Way (β ⊕ α)) (f : Nat) (L : List Bool) (m : Nat) : Nat → β → St → Option (Res α)
  | 0, _, _ => none
  | n + 1, b, s =>
    match (step b).run f L m s with
    | none => none
    | some (.err e) => some (.err e)
    | some (.ok (.inl b') u) => rounds step f L m n b' u
    | some (.ok (.inr a) u) => some (.ok a u)
theorem rounds_ok {α β : Type} {step : β → Way (β ⊕ α)} {f : Nat} {L : List Bool} {m n : Nat} {b : β} {s t : St} {a : α} (h : rounds step f L m (n + 1) b s = some (.ok a t)) :
    (step b).run f L m s = some (.ok (.inr a) t) ∨ ∃ b' u, (step b).run f L m s = some (.ok (.inl b') u) ∧ rounds step f L m n b' u = some (.ok a t) := by
  unfold rounds at h
  cases hx : (step b).run f L m s with
  | none => rw [hx] at h; cases h
  | some r =>
    cases r with
    | err e => rw [hx] at h; cases h
    | ok x u =>
      cases x with
      | inl b' => rw [hx] at h; exact .inr ⟨b', u, rfl, h⟩
      | inr a' =>
        rw [hx] at h
        cases h
        exact .inl rfl
theorem rounds_stop {α β : Type} {step : β → Way (β ⊕ α)} {f : Nat} {L : List Bool} {m : Nat} {b : β} {s t : St} {a : α} (h : (step b).run f L m s = some (.ok (.inr a) t)) (n : Nat) : rounds step f L m (n + 1) b s = some (.ok a t) := by
  unfold rounds
  rw [h]
theorem rounds_next {α β : Type} {step : β → Way (β ⊕ α)} {f : Nat} {L : List Bool} {m : Nat} {b b' : β} {s u : St} (h : (step b).run f L m s = some (.ok (.inl b') u)) (n : Nat) : rounds step f L m (n + 1) b s = rounds step f L m n b' u := by
  rw [rounds, h]
theorem rounds_err {α β : Type} {step : β → Way (β ⊕ α)} {f : Nat} {L : List Bool} {m : Nat} {b : β} {s : St} {e : Nat} (h : (step b).run f L m s = some (.err e)) (n : Nat) : rounds step f L m (n + 1) b s = some (.err e) := by
  unfold rounds
  rw [h]
theorem rounds_more {α β : Type} (step : β → Way (β ⊕ α)) (f : Nat) (L : List Bool) (m n : Nat) (b : β) (s : St) (r : Res α) (h : rounds step f L m n b s = some r) : rounds step (f + 1) L m (n + 1) b s = some r := by
  induction n generalizing b s with
  | zero => cases h
  | succ n ih =>
    rw [rounds] at h ⊢
    cases hx : (step b).run f L m s with
    | none => rw [hx] at h; cases h
    | some r' =>
      rw [(step b).more _ _ _ _ _ hx]
      rw [hx] at h
      cases r' with
      | err e => exact h
      | ok x u =>
        cases x with
        | inl b' => exact ih b' u h
        | inr a' => exact h
def loop {α β : Type} (step : β → Way (β ⊕ α)) (b : β) : Way α where
  run := fun f L m s => rounds step f L m f b s
  more := fun f L m s r h => rounds_more step f L m f b s r h
  on := fun f L m s a t h1 h2 h => by
    revert h
    generalize hn : f = n at ⊢
    have key : ∀ n b s, s.pos ≤ L.length → rounds step f L m n b s = some (.ok a t) → s.pos ≤ t.pos ∧ t.pos ≤ L.length ∧ s.out.length ≤ t.out.length ∧ (s.out.length ≤ m → t.out.length ≤ m) := by
      intro n
      induction n with
      | zero => intro b s _ h; cases h
      | succ n ih =>
        intro b s h1 h
        rcases rounds_ok h with h | ⟨b', u, hx, h⟩
        · exact (step b).on _ _ _ _ _ _ h1 h2 h
        · obtain ⟨p1, p2, p3, p4⟩ := (step b).on _ _ _ _ _ _ h1 h2 hx
          obtain ⟨q1, q2, q3, q4⟩ := ih b' u p2 h
          exact ⟨Nat.le_trans p1 q1, q2, Nat.le_trans p3 q3, fun h => q4 (p4 h)⟩
    intro h
    rw [← hn] at h
    exact key f b s h1 h
  alike := fun f L m s a t h1 h2 h L' m' h3 h4 h5 h6 => by
    have grow : ∀ n b s, s.pos ≤ L.length → rounds step f L m n b s = some (.ok a t) → s.pos ≤ t.pos := by
      intro n
      induction n with
      | zero => intro b s _ h; cases h
      | succ n ih =>
        intro b s h1 h
        rcases rounds_ok h with h | ⟨b', u, hx, h⟩
        · exact ((step b).on _ _ _ _ _ _ h1 h2 h).1
        · obtain ⟨p1, p2, p3, p4⟩ := (step b).on _ _ _ _ _ _ h1 h2 hx
          exact Nat.le_trans p1 (ih b' u p2 h)
    have key : ∀ n b s, s.pos ≤ L.length → rounds step f L m n b s = some (.ok a t) → rounds step f L' m' n b s = some (.ok a t) := by
      intro n
      induction n with
      | zero => intro b s _ h; cases h
      | succ n ih =>
        intro b s h1 h
        rcases rounds_ok h with h | ⟨b', u, hx, h⟩
        · exact rounds_stop ((step b).alike _ _ _ _ _ _ h1 h2 h L' m' h3 h4 h5 h6) n
        · obtain ⟨p1, p2, p3, p4⟩ := (step b).on _ _ _ _ _ _ h1 h2 hx
          have q1 := grow n b' u p2 h
          have e : L'.take u.pos = L.take u.pos := by
            have := congrArg (List.take u.pos) h5
            rwa [List.take_take, List.take_take, Nat.min_eq_left q1] at this
          rw [rounds_next ((step b).alike _ _ _ _ _ _ h1 h2 hx L' m' h3 (by omega) e h6) n]
          exact ih b' u p2 h
    exact key f b s h1 h
  cut := fun f L m s a t h1 h2 h j hj hj2 h8 => by
    have key : ∀ n b s, s.pos ≤ L.length → s.pos ≤ j → rounds step f L m n b s = some (.ok a t) → rounds step f (L.take j) m n b s = some (.err 12) := by
      intro n
      induction n with
      | zero => intro b s _ _ h; cases h
      | succ n ih =>
        intro b s h1 hj h
        rcases rounds_ok h with h | ⟨b', u, hx, h⟩
        · exact rounds_err ((step b).cut _ _ _ _ _ _ h1 h2 h j hj hj2 h8) n
        · obtain ⟨p1, p2, p3, p4⟩ := (step b).on _ _ _ _ _ _ h1 h2 hx
          by_cases hju : j < u.pos
          · exact rounds_err ((step b).cut _ _ _ _ _ _ h1 h2 hx j hj hju h8) n
          · by_cases hjl : j ≤ L.length
            · have hl : (L.take j).length = j := by rw [List.length_take]; omega
              rw [rounds_next ((step b).alike _ _ _ _ _ _ h1 h2 hx (L.take j) m (by rw [hl]; exact h8) (by rw [hl]; omega) (by rw [List.take_take, Nat.min_eq_left (by omega)]) (Nat.le_refl _)) n]
              exact ih b' u p2 (by omega) h
            · exfalso
              have fin : ∀ n b s, s.pos ≤ L.length → rounds step f L m n b s = some (.ok a t) → t.pos ≤ L.length := by
                intro n
                induction n with
                | zero => intro b s _ h; cases h
                | succ n ih =>
                  intro b s h1 h
                  rcases rounds_ok h with h | ⟨b', u, hx, h⟩
                  · exact ((step b).on _ _ _ _ _ _ h1 h2 h).2.1
                  · exact ih b' u ((step b).on _ _ _ _ _ _ h1 h2 hx).2.1 h
              have := fin n b' u p2 h
              omega
    exact key f b s h1 hj h
  low := fun f L m s a t h m' hm => by
    have key : ∀ n b s, rounds step f L m n b s = some (.ok a t) → rounds step f L m' n b s = some (.ok a t) ∨ rounds step f L m' n b s = some (.err 3) := by
      intro n
      induction n with
      | zero => intro b s h; cases h
      | succ n ih =>
        intro b s h
        rcases rounds_ok h with h | ⟨b', u, hx, h⟩
        · rcases (step b).low _ _ _ _ _ _ h m' hm with h' | h'
          · exact .inl (rounds_stop h' n)
          · exact .inr (rounds_err h' n)
        · rcases (step b).low _ _ _ _ _ _ hx m' hm with h' | h'
          · rw [rounds_next h' n]
            exact ih b' u h
          · exact .inr (rounds_err h' n)
    exact key f b s h
end Way
/-! ### What a way comes to -/
def Says {α : Type} (x : Way α) (L : List Bool) (m : Nat) (s : St) (r : Res α) : Prop := ∃ f, x.run f L m s = some r
namespace Way
variable {α β : Type} {L : List Bool} {m : Nat} {s t u : St}
theorem run_add (x : Way α) {f : Nat} {r : Res α} (h : x.run f L m s = some r) (d : Nat) : x.run (f + d) L m s = some r := by
  induction d with
  | zero => exact h
  | succ d ih => exact x.more _ _ _ _ _ ih
theorem run_le (x : Way α) {f g : Nat} {r : Res α} (h : x.run f L m s = some r) (hg : f ≤ g) : x.run g L m s = some r := by
  have := run_add x h (g - f)
  rwa [show f + (g - f) = g by omega] at this
theorem says_one {x : Way α} {r r' : Res α} (h : Says x L m s r) (h' : Says x L m s r') : r = r' := by
  obtain ⟨f, h⟩ := h
  obtain ⟨g, h'⟩ := h'
  have h1 := run_le x h (Nat.le_max_left f g)
  have h2 := run_le x h' (Nat.le_max_right f g)
  rw [h1] at h2
  exact Option.some.inj h2
theorem says_bind {x : Way α} {k : α → Way β} {a : α} {r : Res β} (h : Says x L m s (.ok a u)) (h' : Says (k a) L m u r) : Says (x.bind k) L m s r := by
  obtain ⟨f, h⟩ := h
  obtain ⟨g, h'⟩ := h'
  refine ⟨max f g, ?_⟩
  show bindRun x k _ L m s = _
  rw [bindRun_ok (run_le x h (Nat.le_max_left f g))]
  exact run_le (k a) h' (Nat.le_max_right f g)
theorem says_bind_err {x : Way α} {k : α → Way β} {e : Nat} (h : Says x L m s (.err e)) : Says (x.bind k) L m s (.err e) := by
  obtain ⟨f, h⟩ := h
  exact ⟨f, bindRun_err h⟩
theorem says_pure (a : α) : Says (pure a) L m s (.ok a s) := ⟨0, rfl⟩
theorem says_fail (e : Nat) : Says (fail e : Way α) L m s (.err e) := ⟨0, rfl⟩
theorem says_get (k : Nat) (h : s.pos + k ≤ L.length) : Says (get k) L m s (.ok (numAt L s.pos k) ⟨s.pos + k, s.out⟩) := ⟨0, congrArg some (if_neg (by omega))⟩
theorem says_get_short (k : Nat) (h : L.length < s.pos + k) : Says (get k) L m s (.err 12) := ⟨0, congrArg some (if_pos h)⟩
theorem says_align : Says align L m s (.ok () ⟨(s.pos + 7) / 8 * 8, s.out⟩) := ⟨0, rfl⟩
theorem says_room (n : Nat) (h : s.out.length + n ≤ m) : Says (room n) L m s (.ok () s) := ⟨0, congrArg some (if_neg (by omega))⟩
theorem says_room_long (n : Nat) (h : m < s.out.length + n) : Says (room n) L m s (.err 3) := ⟨0, congrArg some (if_pos h)⟩
theorem says_put (x : List Nat → Nat) (h : s.out.length + 1 ≤ m) : Says (put x) L m s (.ok () ⟨s.pos, s.out ++ [x s.out]⟩) := ⟨0, congrArg some (if_neg (by omega))⟩
theorem says_put_long (x : List Nat → Nat) (h : m < s.out.length + 1) : Says (put x) L m s (.err 3) := ⟨0, congrArg some (if_pos h)⟩
theorem says_behind (d : Nat) (h : d ≤ s.out.length) : Says (behind d) L m s (.ok () s) := ⟨0, congrArg some (if_neg (by omega))⟩
theorem says_behind_bits (d : Nat) (h : s.out.length < d) : Says (behind d) L m s (.err 10) := ⟨0, congrArg some (if_pos h)⟩
theorem says_loop_next {step : β → Way (β ⊕ α)} {b b' : β} {r : Res α} (h : Says (step b) L m s (.ok (.inl b') u)) (h' : Says (loop step b') L m u r) : Says (loop step b) L m s r := by
  obtain ⟨f, h⟩ := h
  obtain ⟨g, h'⟩ := h'
  refine ⟨max f g + 1, ?_⟩
  have h1 := run_le (step b) h (show f ≤ max f g + 1 by omega)
  show rounds step _ L m (max f g + 1) b s = _
  rw [rounds_next h1]
  have h2 : (loop step b').run (max f g + 1) L m u = some r := run_le (loop step b') h' (by omega)
  have h3 : rounds step (max f g) L m (max f g) b' u = some r := run_le (loop step b') h' (Nat.le_max_right f g)
  have key : ∀ n b s, rounds step (max f g) L m n b s = some r → rounds step (max f g + 1) L m n b s = some r := by
    intro n
    induction n with
    | zero => intro b s h; cases h
    | succ n ih =>
      intro b s h
      rw [rounds] at h ⊢
      cases hx : (step b).run (max f g) L m s with
      | none => rw [hx] at h; cases h
      | some r' =>
        rw [(step b).more _ _ _ _ _ hx]
        rw [hx] at h
        cases r' with
        | err e => exact h
        | ok x u =>
          cases x with
          | inl b' => exact ih b' u h
          | inr a' => exact h
  exact key _ _ _ h3
theorem says_loop_stop {step : β → Way (β ⊕ α)} {b : β} {a : α} (h : Says (step b) L m s (.ok (.inr a) u)) : Says (loop step b) L m s (.ok a u) := by
  obtain ⟨f, h⟩ := h
  exact ⟨f + 1, rounds_stop ((step b).more _ _ _ _ _ h) f⟩
theorem says_loop_err {step : β → Way (β ⊕ α)} {b : β} {e : Nat} (h : Says (step b) L m s (.err e)) : Says (loop step b) L m s (.err e) := by
  obtain ⟨f, h⟩ := h
  exact ⟨f + 1, rounds_err ((step b).more _ _ _ _ _ h) f⟩
theorem says_on {x : Way α} {a : α} (h : Says x L m s (.ok a t)) (h1 : s.pos ≤ L.length) (h2 : L.length % 8 = 0) : s.pos ≤ t.pos ∧ t.pos ≤ L.length ∧ s.out.length ≤ t.out.length ∧ (s.out.length ≤ m → t.out.length ≤ m) := by
  obtain ⟨f, h⟩ := h
  exact x.on _ _ _ _ _ _ h1 h2 h
end Way
end Go.Proofs.YtbfpbmnnlckldaaDoor.Fx
