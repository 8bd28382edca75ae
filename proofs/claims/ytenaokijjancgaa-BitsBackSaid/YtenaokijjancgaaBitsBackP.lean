/-
  Numbers that are put one behind the other, aligned here and there, and got again; two writers beside two rows. The conditions stand in each.
-/
import Derived.ArgAppend
import Derived.Test.YtenaokijjancgaaBitsOps
namespace Go
/-- 'append' to a row of the call's own, elements of any size: where the new row lies is told. -/
theorem run_append_lies {P : Program} (w : World) (base : Nat) (t ty e : TypeId) (i : TypeInfo) (z : Value) (size bytes : Nat) (ht : P.underlying t = some (.slice e)) (hi : P.info? e = some i) (hz : i.zero = some z)
    (hsize : i.size = size) (hby : i.bytes = bytes) (hzs : z.cells.size = size) (hsz : 0 < size)
    (v : Value) (n : Nat) (xs : List Value) (hown : w.ownsRow base e size v n xs)
    (a : Addr) (m c : Nat) (news : List Value) (hl : news.length = m * size) (hnews : ∀ j u, news[j]? = some u → w.cell? (a.add j) = some u) (h1 : ∀ u ∈ news, u.oneCell' = true)
    (h63 : n + m ≤ maxLen) (hbytes : (n + m) * bytes ≤ 140737488355328) (hbase : base ≤ w.heap.size) :
    ∃ v' w', (Builtin.append_ #[t, t] ty #[v, .slice (some a) m c]).run P w = .ok v' w' ∧ w'.ownsRow base e size v' (n + m) (xs ++ news) ∧ w.grownBy w' v.ownBlock ∧ (∀ k, v'.ownBlock = some k → v.ownBlock = some k ∨ w.heap.size ≤ k) := by
  obtain ⟨v', w', hrun, r1, r2, _⟩ := run_append_own (P := P) w base t ty e i z size bytes ht hi hz hsize hby hzs hsz v n xs hown a m c news hl hnews h1 h63 hbytes hbase
  refine ⟨v', w', hrun, r1, r2, fun k hk => ?_⟩
  rcases hown.2 with ⟨rfl, rfl⟩ | ⟨g, cap, cur, rfl, hb, hg, hn, hm, hs, htk⟩
  · obtain rfl : xs = [] := List.eq_nil_of_length_eq_zero (by simpa using hown.1)
    obtain ⟨v'', w'', hrun', q1, _, _⟩ := run_append_own (P := P) w w.heap.size t ty e i z size bytes ht hi hz hsize hby hzs hsz (.slice none 0 0) 0 [] (World.ownsRow_nil w _ e size) a m c news hl hnews h1 h63 hbytes (Nat.le_refl _)
    rw [hrun] at hrun'
    obtain ⟨rfl, rfl⟩ : v' = v'' ∧ w' = w'' := by simpa using hrun'
    exact .inr (q1.lt k hk).1
  · by_cases hr : n + m ≤ cap
    · subst hsize
      have hfit : n * i.size + news.length ≤ cur.size := by rw [hl, hs, ← Nat.add_mul]; exact Nat.mul_le_mul_right _ hr
      have hrun' := run_append_room (P := P) w t ty e i ht hi g n cap cur hg a m c news hl hnews h1 hr hfit
      rw [hrun] at hrun'
      have e1 : v' = .slice (some ⟨g, 0, none⟩) (n + m) cap := by
        have := congrArg (fun r => match r with | Result.ok a _ => a | _ => undef) hrun'
        simpa using this
      subst e1
      exact .inl hk
    · obtain ⟨v'', w'', hrun', q1, _⟩ := run_append_arg_grows (P := P) w t ty e i z size bytes ht hi hz hsize hby hzs hsz ⟨g, 0, none⟩ n cap xs hown.1 (fun j u hj => hown.cells rfl j u hj) a m c news hl hnews (by omega) h63 hbytes
      rw [hrun] at hrun'
      obtain ⟨rfl, rfl⟩ : v' = v'' ∧ w' = w'' := by simpa using hrun'
      exact .inr (q1.lt k hk).1
theorem wpList_append_lies {P : Program} {w : World} {ops : Array Oper} {rest : List Oper} {o : Oper} {a : Act} {Q : Exit → Act → World → Prop} (hgd : o.guard = none) (s x : Operand) (t : TypeId)
    (ho : o.op = .call { callee := .builtin .append, args := #[s, x], argTypes := #[t, t] })
    (v u : Value) (hs : a.eval s = v) (hx : a.eval x = u) (R : Value → World → Prop) (hrun : ∃ v' w', (Builtin.append_ #[t, t] o.type #[v, u]).run P w = .ok v' w' ∧ R v' w')
    (h : ∀ v' w', R v' w' → wpList P ops Q rest (a.put o.dst v') w') : wpList P ops Q (o :: rest) a w := by
  refine wpList_plain hgd fun K hK => ?_
  obtain ⟨v', w', hr, hR⟩ := hrun
  unfold Oper.wp
  simp [execOp, ho, resolve, invoke, builtin, hs, hx, hr, Result.andThen]
  exact hK _ _ (h v' w' hR)
end Go
namespace Go.Proofs.Ytenaokijjancgaa.Fx
open Go Go.RowKit Go.Joins
set_option linter.unusedVariables false
/-- A number of so many bits, or an aligning. -/
structure Put1 where
  kind : Int
  n : Nat
  k : Nat
def Put1.ok (c : Put1) : Prop := c.k ≤ 32 ∧ c.n < 2 ^ c.k
def step1 (l : List Bool) (c : Put1) : List Bool := if c.kind = 6 then aligned l else l ++ bitsOf c.n c.k
def runs (ps : List Put1) : List Bool := ps.foldl step1 []
theorem runs_nil : runs [] = [] := rfl
theorem runs_snoc (ps : List Put1) (c : Put1) : runs (ps ++ [c]) = step1 (runs ps) c := by
  unfold runs
  rw [List.foldl_append]
  rfl
theorem step1_more (l : List Bool) (c : Put1) : ∃ x, step1 l c = l ++ x := by
  unfold step1
  split
  · exact ⟨_, rfl⟩
  · exact ⟨_, rfl⟩
theorem step1_length (l : List Bool) (c : Put1) (h : c.k ≤ 32) : (step1 l c).length ≤ l.length + 32 := by
  unfold step1
  split
  · rw [aligned_length]
    omega
  · rw [List.length_append, bitsOf_length]
    omega
theorem fold_more (ps : List Put1) (l : List Bool) : ∃ x, ps.foldl step1 l = l ++ x := by
  induction ps generalizing l with
  | nil => exact ⟨[], by simp⟩
  | cons c ps ih =>
    obtain ⟨x, hx⟩ := step1_more l c
    obtain ⟨y, hy⟩ := ih (step1 l c)
    exact ⟨x ++ y, by rw [List.foldl_cons, hy, hx, List.append_assoc]⟩
theorem runs_take (ps : List Put1) (i : Nat) : ∃ x, runs ps = runs (ps.take i) ++ x := by
  obtain ⟨x, hx⟩ := fold_more (ps.drop i) (runs (ps.take i))
  refine ⟨x, ?_⟩
  rw [← hx]
  unfold runs
  rw [← List.foldl_append, List.take_append_drop]
theorem runs_at (ps : List Put1) (i : Nat) (c : Put1) (h : ps[i]? = some c) : runs (ps.take (i + 1)) = step1 (runs (ps.take i)) c := by
  rw [List.take_add_one, h, Option.toList_some, runs_snoc]
/-- What was put is got: a number, at its place. -/
theorem got_again (ps : List Put1) (i : Nat) (c : Put1) (h : ps[i]? = some c) (hk : c.kind ≠ 6) (hn : c.n < 2 ^ c.k) :
    (runs (ps.take i)).length + c.k = (runs (ps.take (i + 1))).length ∧ (runs (ps.take (i + 1))).length ≤ (aligned (runs ps)).length ∧ numAt (aligned (runs ps)) (runs (ps.take i)).length c.k = c.n := by
  obtain ⟨x, hx⟩ := runs_take ps (i + 1)
  have h1 := runs_at ps i c h
  unfold step1 at h1
  rw [if_neg hk] at h1
  rw [h1] at hx
  have ha : aligned (runs ps) = (runs (ps.take i) ++ bitsOf c.n c.k) ++ (x ++ List.replicate ((8 - (runs ps).length % 8) % 8) false) := by
    unfold aligned
    rw [hx, List.append_assoc]
  refine ⟨by rw [h1, List.length_append, bitsOf_length], by rw [ha, h1]; simp only [List.length_append]; omega, ?_⟩
  rw [ha]
  unfold numAt
  rw [List.append_assoc, List.drop_left, List.take_append_of_le_length (by rw [bitsOf_length]; exact Nat.le_refl _), List.take_of_length_le (by rw [bitsOf_length]; exact Nat.le_refl _), numOf_small _ _ hn]
theorem aligned_again (ps : List Put1) (i : Nat) (c : Put1) (h : ps[i]? = some c) (hk : c.kind = 6) : ((runs (ps.take i)).length + 7) / 8 * 8 = (runs (ps.take (i + 1))).length := by
  have h1 := runs_at ps i c h
  unfold step1 at h1
  rw [if_pos hk] at h1
  rw [h1, aligned_length]
theorem runs_short (ps : List Put1) (i : Nat) : (runs (ps.take i)).length ≤ (runs ps).length := by
  obtain ⟨x, hx⟩ := runs_take ps i
  rw [hx, List.length_append]
  omega
theorem runs_length (ps : List Put1) (h : ∀ c ∈ ps, c.ok) : (runs ps).length ≤ 32 * ps.length := by
  have key : ∀ (ps : List Put1) (l : List Bool), (∀ c ∈ ps, c.ok) → (ps.foldl step1 l).length ≤ l.length + 32 * ps.length := by
    intro ps
    induction ps with
    | nil => intro l _; simp
    | cons c ps ih =>
      intro l h
      rw [List.foldl_cons, List.length_cons]
      have h1 := ih (step1 l c) (fun d hd => h d (List.mem_cons_of_mem _ hd))
      have h2 := step1_length l c (h c (List.mem_cons_self ..)).1
      omega
  have := key ps [] h
  simpa [runs] using this
/-- A script's cells. -/
def cells3 (ps : List Put1) : List Value := ps.flatMap fun c => [.int .i64 c.kind, .int .u32 (c.n : Int), .int .i64 (c.k : Int)]
theorem cells3_length (ps : List Put1) : (cells3 ps).length = ps.length * 3 := by
  induction ps with
  | nil => rfl
  | cons c ps ih =>
    have e : cells3 (c :: ps) = [.int .i64 c.kind, .int .u32 (c.n : Int), .int .i64 (c.k : Int)] ++ cells3 ps := by
      unfold cells3
      rw [List.flatMap_cons]
    rw [e, List.length_append, ih, List.length_cons]
    simp
    omega
theorem cells3_snoc (ps : List Put1) (c : Put1) : cells3 (ps ++ [c]) = cells3 ps ++ [.int .i64 c.kind, .int .u32 (c.n : Int), .int .i64 (c.k : Int)] := by
  unfold cells3
  rw [List.flatMap_append]
  simp
theorem cells3_at (ps : List Put1) (i : Nat) (c : Put1) (h : ps[i]? = some c) : (cells3 ps)[i * 3]? = some (.int .i64 c.kind) ∧ (cells3 ps)[i * 3 + 1]? = some (.int .u32 (c.n : Int)) ∧ (cells3 ps)[i * 3 + 2]? = some (.int .i64 (c.k : Int)) := by
  induction ps generalizing i with
  | nil => simp at h
  | cons d ps ih =>
    have e : cells3 (d :: ps) = [.int .i64 d.kind, .int .u32 (d.n : Int), .int .i64 (d.k : Int)] ++ cells3 ps := by
      unfold cells3
      rw [List.flatMap_cons]
    rw [e]
    cases i with
    | zero =>
      obtain rfl := Option.some.inj h
      exact ⟨rfl, rfl, rfl⟩
    | succ i =>
      obtain ⟨h1, h2, h3⟩ := ih i (by simpa using h)
      refine ⟨?_, ?_, ?_⟩
      · rw [List.getElem?_append_right (by simp; omega), show (i + 1) * 3 - [Value.int .i64 d.kind, .int .u32 (d.n : Int), .int .i64 (d.k : Int)].length = i * 3 by simp; omega]
        exact h1
      · rw [List.getElem?_append_right (by simp; omega), show (i + 1) * 3 + 1 - [Value.int .i64 d.kind, .int .u32 (d.n : Int), .int .i64 (d.k : Int)].length = i * 3 + 1 by simp; omega]
        exact h2
      · rw [List.getElem?_append_right (by simp; omega), show (i + 1) * 3 + 2 - [Value.int .i64 d.kind, .int .u32 (d.n : Int), .int .i64 (d.k : Int)].length = i * 3 + 2 by simp; omega]
        exact h3
end Go.Proofs.Ytenaokijjancgaa.Fx
