/-
  Plain Adam7 order: rows of passes, which pixels begin one; the document's own order and its own test. No condition but those that are said.
-/
import Derived.Test.YtefdlidjdmlnaaaPngP
namespace Go.Proofs.Ytefdlidjdmlnaaa.Fx
/-! ### Rows -/
def rowsOf (h : Nat) : List (Pass × Nat) := passes.flatMap fun p => (lane h p.y p.b).map fun y => (p, y)
def rowPixels (w : Nat) (r : Pass × Nat) : List Nat := (lane w r.1.x r.1.a).map fun x => r.2 * w + x
def rowMarked (w : Nat) (r : Pass × Nat) : List (Nat × Bool) := (lane w r.1.x r.1.a).map fun x => (r.2 * w + x, decide (x = r.1.x))
theorem order_rows (w h : Nat) : orderOf w h = (rowsOf h).flatMap (rowPixels w) := by
  unfold orderOf rowsOf passPixels rowPixels
  rw [List.flatMap_assoc]
  simp only [List.flatMap_map]
def markedOf (w h : Nat) : List (Nat × Bool) := (rowsOf h).flatMap (rowMarked w)
def passMarked (w h : Nat) (p : Pass) : List (Nat × Bool) := (lane h p.y p.b).flatMap fun y => rowMarked w (p, y)
theorem marked_passes (w h : Nat) : markedOf w h = passes.flatMap (passMarked w h) := by
  unfold markedOf rowsOf passMarked
  rw [List.flatMap_assoc]
  simp only [List.flatMap_map]
theorem marked_fst (w h : Nat) : (markedOf w h).map (·.1) = orderOf w h := by
  rw [order_rows]
  unfold markedOf rowMarked rowPixels
  rw [List.map_flatMap]
  simp [Function.comp_def]
def flagsOf (w h : Nat) : List Bool := (markedOf w h).map (·.2)
theorem flags_length (w h : Nat) : (flagsOf w h).length = w * h := by
  rw [← order_length, ← marked_fst]
  simp [flagsOf]
def rowFlags : Nat → List Bool
  | 0 => []
  | n + 1 => true :: List.replicate n false
theorem rowFlags_length (n : Nat) : (rowFlags n).length = n := by
  cases n <;> simp [rowFlags]
theorem row_flags (w : Nat) (r : Pass × Nat) (ha : 0 < r.1.a) : (rowMarked w r).map (·.2) = rowFlags (laneLen w r.1.x r.1.a) := by
  unfold rowMarked lane
  show (((List.range (laneLen w r.1.x r.1.a)).map _).map _).map _ = _
  generalize laneLen w r.1.x r.1.a = n
  rw [List.map_map, List.map_map]
  cases n with
  | zero => rfl
  | succ n =>
    rw [List.range_succ_eq_map, List.map_cons, List.map_map, rowFlags]
    congr 1
    · simp
    · apply List.ext_getElem
      · simp
      · intro i h1 h2
        have h3 : ¬ r.1.a * (i + 1) = 0 := Nat.ne_of_gt (Nat.mul_pos ha (Nat.succ_pos i))
        simp
        exact h3
theorem rows_ok {h : Nat} {r : Pass × Nat} (hr : r ∈ rowsOf h) : r.1 ∈ passes ∧ r.2 % r.1.b = r.1.y ∧ r.2 < h := by
  unfold rowsOf at hr
  obtain ⟨p, hp, hr⟩ := List.mem_flatMap.1 hr
  obtain ⟨y, hy, rfl⟩ := List.mem_map.1 hr
  have := (mem_lane (passes_ok p hp).2).1 hy
  exact ⟨hp, this.2, this.1⟩
def rowCounts (w h : Nat) : List Nat := ((rowsOf h).map fun r => laneLen w r.1.x r.1.a).filter fun n => decide (0 < n)
theorem counts_above {w h n : Nat} (hn : n ∈ rowCounts w h) : 0 < n := by
  have := List.mem_filter.1 hn
  simpa using this.2
theorem flat_rows (L : List Nat) : (L.filter fun n => decide (0 < n)).flatMap rowFlags = L.flatMap rowFlags := by
  induction L with
  | nil => rfl
  | cons n L ih =>
    rw [List.filter_cons]
    by_cases hn : 0 < n
    · rw [if_pos (by simpa using hn), List.flatMap_cons, List.flatMap_cons, ih]
    · rw [if_neg (by simpa using hn), List.flatMap_cons, ih]
      obtain rfl : n = 0 := by omega
      rfl
theorem flags_counts (w h : Nat) : flagsOf w h = (rowCounts w h).flatMap rowFlags := by
  unfold flagsOf rowCounts markedOf
  rw [flat_rows, List.map_flatMap, List.flatMap_map]
  have : ∀ L : List (Pass × Nat), (∀ r ∈ L, 0 < r.1.a) → (L.flatMap fun r => (rowMarked w r).map (·.2)) = L.flatMap fun r => rowFlags (laneLen w r.1.x r.1.a) := by
    intro L
    induction L with
    | nil => intro _; rfl
    | cons r L ih =>
      intro hL
      rw [List.flatMap_cons, List.flatMap_cons, ih (fun q hq => hL q (by simp [hq])), row_flags w r (hL r (by simp))]
  exact this _ (fun r hr => by have := passes_ok r.1 (rows_ok hr).1; omega)
/-! ### Rows counted as they come -/
def countStep (c : List Nat) (m : Bool) : List Nat := if m then c ++ [1] else c.set (c.length - 1) (c.getD (c.length - 1) 0 + 1)
theorem count_more (c : List Nat) (n k : Nat) : (List.replicate k false).foldl countStep (c ++ [n]) = c ++ [n + k] := by
  induction k generalizing n with
  | zero => rfl
  | succ k ih =>
    rw [List.replicate_succ, List.foldl_cons]
    have : countStep (c ++ [n]) false = c ++ [n + 1] := by
      unfold countStep
      rw [if_neg (by decide)]
      simp
    rw [this, ih]
    congr 2
    omega
theorem count_row (c : List Nat) (n : Nat) (hn : 0 < n) : (rowFlags n).foldl countStep c = c ++ [n] := by
  match n, hn with
  | n + 1, _ =>
    rw [rowFlags, List.foldl_cons]
    show (List.replicate n false).foldl countStep (c ++ [1]) = _
    rw [count_more, Nat.add_comm]
theorem count_rows (L c : List Nat) (hL : ∀ n ∈ L, 0 < n) : (L.flatMap rowFlags).foldl countStep c = c ++ L := by
  induction L generalizing c with
  | nil => simp
  | cons n L ih =>
    rw [List.flatMap_cons, List.foldl_append, count_row c n (hL n (by simp)), ih _ (fun m hm => hL m (by simp [hm]))]
    simp
theorem count_all (w h : Nat) : (flagsOf w h).foldl countStep [] = rowCounts w h := by
  rw [flags_counts, count_rows _ _ (fun n hn => counts_above hn), List.nil_append]
/-- A list of rows that is under way is never empty where a pixel is no first one. -/
theorem count_start (L : List Nat) (hL : ∀ n ∈ L, 0 < n) (k : Nat) (hk : (L.flatMap rowFlags)[k]? = some false) : ((L.flatMap rowFlags).take k).foldl countStep [] ≠ [] := by
  match L, hL, hk with
  | [], _, hk => simp at hk
  | 0 :: L, hL, _ => exact absurd (hL 0 (by simp)) (by omega)
  | (n + 1) :: L, hL, hk =>
    match k, hk with
    | 0, hk => simp [rowFlags] at hk
    | k + 1, hk =>
      rw [List.flatMap_cons, rowFlags, List.cons_append, List.take_succ_cons, List.foldl_cons]
      have hne : ∀ (l : List Bool) (c : List Nat), c ≠ [] → l.foldl countStep c ≠ [] := by
        intro l
        induction l with
        | nil => intro c hc; exact hc
        | cons b l ih =>
          intro c hc
          rw [List.foldl_cons]
          refine ih _ ?_
          unfold countStep
          split
          · simp
          · intro h
            exact hc (by simpa using h)
      exact hne _ _ (by simp [countStep])
/-! ### What is left of the rows -/
def remFlags (col : Nat) : List Nat → List Bool
  | [] => []
  | r :: rs => (rowFlags r).drop col ++ rs.flatMap rowFlags
theorem rem_zero (rs : List Nat) : remFlags 0 rs = rs.flatMap rowFlags := by
  cases rs with
  | nil => rfl
  | cons r rs => rw [remFlags, List.drop_zero, List.flatMap_cons]
theorem drop_flags (n k : Nat) : (rowFlags n).drop (k + 1) = List.replicate (n - (k + 1)) false := by
  cases n with
  | zero => simp [rowFlags]
  | succ n =>
    rw [rowFlags, List.drop_succ_cons, List.drop_replicate]
    congr 1
    omega
theorem rem_next (col r : Nat) (rs : List Nat) (h : col < r) : remFlags col (r :: rs) = decide (col = 0) :: (if col + 1 = r then remFlags 0 rs else remFlags (col + 1) (r :: rs)) := by
  have hh : (if col + 1 = r then remFlags 0 rs else remFlags (col + 1) (r :: rs)) = List.replicate (r - (col + 1)) false ++ rs.flatMap rowFlags := by
    split
    · rename_i e
      rw [rem_zero, e, Nat.sub_self]
      rfl
    · rw [remFlags, drop_flags]
  rw [hh, remFlags]
  cases col with
  | zero =>
    rw [List.drop_zero]
    match r, h with
    | r + 1, _ => rfl
  | succ k =>
    rw [drop_flags, show r - (k + 1) = (r - (k + 1 + 1)) + 1 by omega, List.replicate_succ]
    simp
/-! ### The document's own table of passes -/
def tableOf : List Nat := [1, 6, 4, 6, 2, 6, 4, 6, 7, 7, 7, 7, 7, 7, 7, 7, 5, 6, 5, 6, 5, 6, 5, 6, 7, 7, 7, 7, 7, 7, 7, 7, 3, 6, 4, 6, 3, 6, 4, 6, 7, 7, 7, 7, 7, 7, 7, 7, 5, 6, 5, 6, 5, 6, 5, 6, 7, 7, 7, 7, 7, 7, 7, 7]
def passNo (x y : Nat) : Nat := tableOf.getD (8 * (y % 8) + x % 8) 0
theorem pass_table : ∀ i, i < 8 → ∀ j, j < 8 → ∀ p ∈ passes, (tableOf.getD (8 * j + i) 0 = passNo p.x p.y ↔ (i % p.a = p.x ∧ j % p.b = p.y)) := by decide +kernel
theorem pass_steps : ∀ p ∈ passes, p.a ∣ 8 ∧ p.b ∣ 8 := by decide +kernel
theorem pass_iff (x y : Nat) {p : Pass} (hp : p ∈ passes) : passNo x y = passNo p.x p.y ↔ (x % p.a = p.x ∧ y % p.b = p.y) := by
  have h := pass_table (x % 8) (Nat.mod_lt _ (by decide)) (y % 8) (Nat.mod_lt _ (by decide)) p hp
  obtain ⟨ha, hb⟩ := pass_steps p hp
  rw [Nat.mod_mod_of_dvd x ha, Nat.mod_mod_of_dvd y hb] at h
  exact h
theorem pass_apart_no : ∀ p ∈ passes, ∀ q ∈ passes, passNo p.x p.y = passNo q.x q.y → p = q := by decide +kernel
theorem passNo_range : ∀ i, i < 8 → ∀ j, j < 8 → 1 ≤ tableOf.getD (8 * j + i) 0 ∧ tableOf.getD (8 * j + i) 0 ≤ 7 := by decide +kernel
theorem passNo_most (x y : Nat) : 1 ≤ passNo x y ∧ passNo x y ≤ 7 := passNo_range _ (Nat.mod_lt _ (by decide)) _ (Nat.mod_lt _ (by decide))
/-- The document's test: the first one, or another row, or another pass than the one ahead. -/
def docFlag (w : Nat) (prev : Option Nat) (k : Nat) : Bool :=
  match prev with
  | none => true
  | some j => decide (j / w ≠ k / w ∨ k % w < j % w ∨ passNo (k % w) (k / w) ≠ passNo (j % w) (j / w))
def docFlags (w : Nat) : Option Nat → List Nat → List Bool
  | _, [] => []
  | prev, k :: l => docFlag w prev k :: docFlags w (some k) l
theorem doc_append (w : Nat) (l m : List Nat) (prev : Option Nat) : docFlags w prev (l ++ m) = docFlags w prev l ++ docFlags w (match l.getLast? with | none => prev | some k => some k) m := by
  induction l generalizing prev with
  | nil => rfl
  | cons k l ih =>
    rw [List.cons_append, docFlags, ih, docFlags, List.cons_append]
    cases l with
    | nil => rfl
    | cons k' l => simp [List.getLast?_cons]
/-- Not of that row. -/
def OffRow (w : Nat) (prev : Option Nat) (r : Pass × Nat) : Prop :=
  match prev with
  | none => True
  | some j => j / w ≠ r.2 ∨ passNo (j % w) (j / w) ≠ passNo r.1.x r.1.y
theorem in_row {w k : Nat} {r : Pass × Nat} (hp : r.1 ∈ passes) (hy : r.2 % r.1.b = r.1.y) (hk : k ∈ rowPixels w r) : k / w = r.2 ∧ passNo (k % w) (k / w) = passNo r.1.x r.1.y ∧ k % w < w := by
  unfold rowPixels at hk
  obtain ⟨x, hx, rfl⟩ := List.mem_map.1 hk
  have h := (mem_lane (passes_ok _ hp).1).1 hx
  rw [place_row h.1, place_col h.1]
  exact ⟨rfl, (pass_iff x r.2 hp).2 ⟨h.2, hy⟩, h.1⟩
theorem row_doc (w : Nat) (prev : Option Nat) (r : Pass × Nat) (hp : r.1 ∈ passes) (hy : r.2 % r.1.b = r.1.y) (ho : OffRow w prev r) : docFlags w prev (rowPixels w r) = rowFlags (laneLen w r.1.x r.1.a) := by
  have hin : ∀ k ∈ rowPixels w r, k / w = r.2 ∧ passNo (k % w) (k / w) = passNo r.1.x r.1.y := fun k hk => ⟨(in_row hp hy hk).1, (in_row hp hy hk).2.1⟩
  have hlen : (rowPixels w r).length = laneLen w r.1.x r.1.a := by simp [rowPixels, lane_length]
  have hmod : ∀ x ∈ lane w r.1.x r.1.a, (r.2 * w + x) % w = x := fun x hx => place_col ((mem_lane (passes_ok _ hp).1).1 hx).1
  have hsort : (rowPixels w r).Pairwise (fun j k => j % w ≤ k % w) := by
    unfold rowPixels
    rw [List.pairwise_map]
    have hl : (lane w r.1.x r.1.a).Pairwise (· ≤ ·) := by
      unfold lane
      rw [List.pairwise_map]
      refine List.Pairwise.imp (R := (· < ·)) ?_ List.pairwise_lt_range
      intro a b hab
      exact Nat.add_le_add_left (Nat.mul_le_mul_left _ (Nat.le_of_lt hab)) _
    refine (List.Pairwise.and_mem.1 hl).imp ?_
    rintro a b ⟨ha, hb, hab⟩
    rw [hmod a ha, hmod b hb]
    exact hab
  rw [← hlen]
  generalize rowPixels w r = L at hin hsort
  cases L with
  | nil => rfl
  | cons k L =>
    rw [docFlags, List.length_cons, rowFlags]
    congr 1
    · unfold docFlag
      cases prev with
      | none => rfl
      | some j =>
        simp only [decide_eq_true_eq]
        obtain ⟨h1, h2⟩ := hin k (by simp)
        rcases ho with ho | ho
        · exact .inl (by rw [h1]; exact ho)
        · exact .inr (.inr (by rw [h2]; exact fun e => ho e.symm))
    · clear ho
      induction L generalizing k with
      | nil => rfl
      | cons k' L ih =>
        rw [docFlags, List.length_cons, List.replicate_succ]
        congr 1
        · unfold docFlag
          simp only [decide_eq_false_iff_not]
          obtain ⟨h1, h2⟩ := hin k (by simp)
          obtain ⟨h3, h4⟩ := hin k' (by simp)
          have h5 : k % w ≤ k' % w := (List.pairwise_cons.1 hsort).1 k' (by simp)
          rintro (h | h | h)
          · exact h (by rw [h1, h3])
          · omega
          · exact h (by rw [h2, h4])
        · exact ih k' (fun q hq => hin q (List.mem_cons_of_mem _ hq)) (List.pairwise_cons.1 hsort).2
theorem rows_apart (h : Nat) : (rowsOf h).Pairwise (· ≠ ·) := by
  unfold rowsOf
  rw [List.pairwise_flatMap]
  refine ⟨fun p hp => ?_, ?_⟩
  · rw [List.pairwise_map]
    exact (lane_apart h p.y p.b (by have := passes_ok p hp; omega)).imp (fun hn e => hn (by simpa using congrArg Prod.snd e))
  · have hne : passes.Pairwise (· ≠ ·) := by decide +kernel
    refine hne.imp ?_
    rintro p q hn r hr r' hr' rfl
    obtain ⟨y, _, e⟩ := List.mem_map.1 hr
    obtain ⟨y', _, e'⟩ := List.mem_map.1 hr'
    rw [← e] at e'
    exact hn (congrArg Prod.fst e').symm
theorem rows_doc (w : Nat) (L : List (Pass × Nat)) (hL : ∀ r ∈ L, r.1 ∈ passes ∧ r.2 % r.1.b = r.1.y) (hn : L.Pairwise (· ≠ ·)) (prev : Option Nat) (hp : ∀ r ∈ L, OffRow w prev r) :
    docFlags w prev (L.flatMap (rowPixels w)) = L.flatMap fun r => rowFlags (laneLen w r.1.x r.1.a) := by
  induction L generalizing prev with
  | nil => rfl
  | cons r L ih =>
    obtain ⟨h1, h2⟩ := List.pairwise_cons.1 hn
    obtain ⟨h3, h4⟩ := hL r (by simp)
    rw [List.flatMap_cons, List.flatMap_cons, doc_append, row_doc w prev r h3 h4 (hp r (by simp))]
    congr 1
    refine ih (fun q hq => hL q (by simp [hq])) h2 _ ?_
    intro q hq
    cases hl : (rowPixels w r).getLast? with
    | none => exact hp q (by simp [hq])
    | some k =>
      have hk := in_row h3 h4 (List.mem_of_getLast? hl)
      show k / w ≠ q.2 ∨ _
      by_cases he : k / w = q.2
      · refine .inr fun e => ?_
        rw [hk.2.1] at e
        have hpq := pass_apart_no _ h3 _ (hL q (by simp [hq])).1 e
        exact h1 q hq (Prod.ext hpq (by rw [← hk.1, he]))
      · exact .inl he
/-- The document's test tells the first ones of rows. -/
theorem doc_flags (w h : Nat) : docFlags w none (orderOf w h) = flagsOf w h := by
  rw [order_rows, rows_doc w _ (fun r hr => ⟨(rows_ok hr).1, (rows_ok hr).2.1⟩) (rows_apart h) none (fun r _ => trivial), flags_counts]
  unfold rowCounts
  rw [flat_rows, List.flatMap_map]
theorem doc_get (w : Nat) (l : List Nat) (prev : Option Nat) (i k : Nat) (hk : l[i]? = some k) : (docFlags w prev l)[i]? = some (docFlag w (if i = 0 then prev else l[i - 1]?) k) := by
  induction l generalizing prev i with
  | nil => simp at hk
  | cons q l ih =>
    cases i with
    | zero =>
      obtain rfl := Option.some.inj hk
      rfl
    | succ i =>
      rw [docFlags, List.getElem?_cons_succ, ih (some q) i hk, if_neg (Nat.succ_ne_zero i), Nat.add_sub_cancel]
      cases i with
      | zero => rfl
      | succ i => rw [if_neg (Nat.succ_ne_zero i), Nat.add_sub_cancel, List.getElem?_cons_succ]
theorem order_flag (w h i k : Nat) (hk : (orderOf w h)[i]? = some k) : (flagsOf w h)[i]? = some (docFlag w (if i = 0 then none else (orderOf w h)[i - 1]?) k) := by
  rw [← doc_flags]
  exact doc_get w _ none i k hk
/-! ### The document's own order -/
theorem lane_filter (n s a : Nat) (ha : a = 1 ∨ a = 2 ∨ a = 4 ∨ a = 8) (hs : s < a) : lane n s a = (List.range n).filter fun x => decide (x % a = s) := by
  induction n with
  | zero =>
    unfold lane
    have : (0 + a - 1 - s) / a = 0 := Nat.div_eq_of_lt (by omega)
    rw [this]
    rfl
  | succ n ih =>
    rw [List.range_succ, List.filter_append, ← ih, List.filter_cons, List.filter_nil]
    unfold lane
    by_cases hn : n % a = s
    · rw [if_pos (by simpa using hn)]
      have h1 : (n + 1 + a - 1 - s) / a = (n + a - 1 - s) / a + 1 := by rcases ha with rfl | rfl | rfl | rfl <;> omega
      have h2 : s + a * ((n + a - 1 - s) / a) = n := by rcases ha with rfl | rfl | rfl | rfl <;> omega
      rw [h1, List.range_succ, List.map_append, List.map_cons, List.map_nil, h2]
    · rw [if_neg (by simpa using hn), List.append_nil]
      have h1 : (n + 1 + a - 1 - s) / a = (n + a - 1 - s) / a := by rcases ha with rfl | rfl | rfl | rfl <;> omega
      rw [h1]
theorem pass_ones : ∀ p ∈ passes, (p.a = 1 ∨ p.a = 2 ∨ p.a = 4 ∨ p.a = 8) ∧ (p.b = 1 ∨ p.b = 2 ∨ p.b = 4 ∨ p.b = 8) := by decide +kernel
/-- The pixels of a row that the document finds in a pass. -/
def docRow (w p y : Nat) : List Nat := ((List.range w).filter fun x => decide (passNo x y = p)).map fun x => y * w + x
def docPass (w h p : Nat) : List Nat := (List.range h).flatMap (docRow w p)
theorem flat_filter {α : Type} (L : List Nat) (f : Nat → Bool) (g k : Nat → List α) (h1 : ∀ y, f y = true → k y = g y) (h2 : ∀ y, f y = false → k y = []) : (L.filter f).flatMap g = L.flatMap k := by
  induction L with
  | nil => rfl
  | cons y L ih =>
    rw [List.filter_cons, List.flatMap_cons]
    cases hf : f y with
    | true => rw [if_pos rfl, List.flatMap_cons, ih, h1 y hf]
    | false => rw [if_neg (by simp), ih, h2 y hf, List.nil_append]
theorem pass_doc (w h : Nat) (p : Pass) (hp : p ∈ passes) : passPixels w h p = docPass w h (passNo p.x p.y) := by
  obtain ⟨o1, o2⟩ := pass_ones p hp
  obtain ⟨s1, s2⟩ := passes_ok p hp
  unfold passPixels docPass
  rw [lane_filter h p.y p.b o2 s2, lane_filter w p.x p.a o1 s1]
  refine flat_filter _ _ _ _ (fun y hy => ?_) (fun y hy => ?_)
  · have hy : y % p.b = p.y := by simpa using hy
    unfold docRow
    congr 1
    refine List.filter_congr fun x _ => ?_
    rw [Bool.eq_iff_iff]
    simp only [decide_eq_true_eq]
    rw [pass_iff x y hp]
    exact ⟨fun h => h.1, fun h => ⟨h, hy⟩⟩
  · have hy : ¬ y % p.b = p.y := by simpa using hy
    unfold docRow
    rw [List.filter_eq_nil_iff.2 ?_]
    · rfl
    · intro x _ h
      have h := (pass_iff x y hp).1 (by simpa using h)
      exact hy h.2
theorem order_doc (w h : Nat) : orderOf w h = (List.range 7).flatMap fun i => docPass w h (i + 1) := by
  have e : orderOf w h = passes.flatMap fun p => docPass w h (passNo p.x p.y) := by
    unfold orderOf
    have : ∀ L : List Pass, (∀ p ∈ L, p ∈ passes) → L.flatMap (passPixels w h) = L.flatMap fun p => docPass w h (passNo p.x p.y) := by
      intro L
      induction L with
      | nil => intro _; rfl
      | cons p L ih =>
        intro hL
        rw [List.flatMap_cons, List.flatMap_cons, ih (fun q hq => hL q (by simp [hq])), pass_doc w h p (hL p (by simp))]
    exact this _ (fun _ h => h)
  rw [e]
  have : (List.range 7).flatMap (fun i => docPass w h (i + 1)) = (passes.map fun p => passNo p.x p.y).flatMap (docPass w h) := by
    have h1 : (passes.map fun p => passNo p.x p.y) = (List.range 7).map (· + 1) := by decide +kernel
    rw [h1, List.flatMap_map]
  rw [this, List.flatMap_map]
end Go.Proofs.Ytefdlidjdmlnaaa.Fx
