/-
  The order of pixels, as landed: which sizes may be, the passes, each pixel handed to a closure; Order; rows. The conditions stand in each.
-/
import Derived.Test.YtefdlidjdmlnaaaNums
import Derived.Test.YtefdlidjdmlnaaaBitsO
import Derived.Test.YtefdlidjdmlnaaaPngQ
import Derived.Deep.RegionHeld3
import Derived.Deep.WholeRow
namespace Go.Proofs.Ytefdlidjdmlnaaa.Fx
open Go Go.RowKit Go.Joins
set_option linter.unusedVariables false
theorem mayBe_code (a b : Int) (W : World) : Calls Try.prog 20 #[.int .i64 a, .int .i64 b] W fun e w' => e = .returned (.bool (decide (1 ≤ a ∧ a ≤ 1024 ∧ 1 ≤ b ∧ b ≤ 1024))) ∧ W = w' := by
  by_cases h1 : 1 ≤ a
  · by_cases h2 : a ≤ 1024
    · by_cases h3 : 1 ≤ b
      · by_cases h4 : b ≤ 1024
        · rw [decide_eq_true (⟨h1, h2, h3, h4⟩ : 1 ≤ a ∧ a ≤ 1024 ∧ 1 ≤ b ∧ b ≤ 1024)]
          have d1 : decide (1 ≤ a) = true := decide_eq_true h1
          have d2 : decide (a ≤ 1024) = true := decide_eq_true h2
          have d3 : decide (1 ≤ b) = true := decide_eq_true h3
          have d4 : decide (b ≤ 1024) = true := decide_eq_true h4
          go_enter Try.func20, Try.ntmps20
          go_wp2_with fail
          go_ret
          exact ⟨rfl, rfl⟩
        · rw [decide_eq_false (fun h : 1 ≤ a ∧ a ≤ 1024 ∧ 1 ≤ b ∧ b ≤ 1024 => h4 h.2.2.2)]
          have d1 : decide (1 ≤ a) = true := decide_eq_true h1
          have d2 : decide (a ≤ 1024) = true := decide_eq_true h2
          have d3 : decide (1 ≤ b) = true := decide_eq_true h3
          have d4 : decide (b ≤ 1024) = false := decide_eq_false h4
          go_enter Try.func20, Try.ntmps20
          go_wp2_with fail
          go_ret
          exact ⟨rfl, rfl⟩
      · rw [decide_eq_false (fun h : 1 ≤ a ∧ a ≤ 1024 ∧ 1 ≤ b ∧ b ≤ 1024 => h3 h.2.2.1)]
        have d1 : decide (1 ≤ a) = true := decide_eq_true h1
        have d2 : decide (a ≤ 1024) = true := decide_eq_true h2
        have d3 : decide (1 ≤ b) = false := decide_eq_false h3
        go_enter Try.func20, Try.ntmps20
        go_wp2_with fail
        go_ret
        exact ⟨rfl, rfl⟩
    · rw [decide_eq_false (fun h : 1 ≤ a ∧ a ≤ 1024 ∧ 1 ≤ b ∧ b ≤ 1024 => h2 h.2.1)]
      have d1 : decide (1 ≤ a) = true := decide_eq_true h1
      have d2 : decide (a ≤ 1024) = false := decide_eq_false h2
      go_enter Try.func20, Try.ntmps20
      go_wp2_with fail
      go_ret
      exact ⟨rfl, rfl⟩
  · rw [decide_eq_false (fun h : 1 ≤ a ∧ a ≤ 1024 ∧ 1 ≤ b ∧ b ≤ 1024 => h1 h.1)]
    have d1 : decide (1 ≤ a) = false := decide_eq_false h1
    go_enter Try.func20, Try.ntmps20
    go_wp2_with fail
    go_ret
    exact ⟨rfl, rfl⟩
def passVal (p : Pass) : Value := .agg #[.int .i64 (p.x : Int), .int .i64 (p.y : Int), .int .i64 (p.a : Int), .int .i64 (p.b : Int)]
def passCells : Array Value := #[.int .i64 0, .int .i64 0, .int .i64 8, .int .i64 8, .int .i64 4, .int .i64 0, .int .i64 8, .int .i64 8, .int .i64 0, .int .i64 4, .int .i64 4, .int .i64 8, .int .i64 2, .int .i64 0, .int .i64 4, .int .i64 4, .int .i64 0, .int .i64 2, .int .i64 2, .int .i64 4, .int .i64 1, .int .i64 0, .int .i64 2, .int .i64 2, .int .i64 0, .int .i64 1, .int .i64 1, .int .i64 2]
theorem info_passes : (Try.prog.info? 86).map (fun i => (i.zero, i.size)) = some (some (.agg (Array.replicate 28 (.int .i64 0))), 28) := by kernel_rfl
theorem passes_index (k : Nat) (p : Pass) (hk : passes[k]? = some p) (w : World) : (Instr.index 86 (.agg passCells) (.int .i64 (k : Int))).run Try.prog w = .ok (passVal p) w := by
  match k, hk with
  | 0, hk => obtain rfl := Option.some.inj hk; unfold passCells passVal; simp [Instr.index, go_sem, Result.andThen, part]
  | 1, hk => obtain rfl := Option.some.inj hk; unfold passCells passVal; simp [Instr.index, go_sem, Result.andThen, part]
  | 2, hk => obtain rfl := Option.some.inj hk; unfold passCells passVal; simp [Instr.index, go_sem, Result.andThen, part]
  | 3, hk => obtain rfl := Option.some.inj hk; unfold passCells passVal; simp [Instr.index, go_sem, Result.andThen, part]
  | 4, hk => obtain rfl := Option.some.inj hk; unfold passCells passVal; simp [Instr.index, go_sem, Result.andThen, part]
  | 5, hk => obtain rfl := Option.some.inj hk; unfold passCells passVal; simp [Instr.index, go_sem, Result.andThen, part]
  | 6, hk => obtain rfl := Option.some.inj hk; unfold passCells passVal; simp [Instr.index, go_sem, Result.andThen, part]
  | k + 7, hk => simp [passes] at hk
theorem passCells_one : passCells.all (·.oneCell') = true := by
  unfold passCells
  simp [Value.oneCell']
theorem wpList_build_is {P : Program} {ops : Array Oper} {rest : List Oper} {o : Oper} {a : Act} {w : World} {Q : Exit → Act → World → Prop} (hg : o.guard = none) (t : TypeId) (parts : Array (Nat × Operand)) (ho : o.op = .build t parts) (cells : Array Value)
    (hb : P.built t (parts.map fun (i, x) => (i, a.eval x)).toList = some cells) (h : wpList P ops Q rest (a.put o.dst (.agg cells)) w) : wpList P ops Q (o :: rest) a w :=
  wpList_build hg t parts ho (by rw [hb]; rfl) (by rw [hb]; exact h)
theorem passes_all : Try.prog.built 86 [(0, .agg #[.int .i64 0, .int .i64 0, .int .i64 8, .int .i64 8]), (1, .agg #[.int .i64 4, .int .i64 0, .int .i64 8, .int .i64 8]), (2, .agg #[.int .i64 0, .int .i64 4, .int .i64 4, .int .i64 8]), (3, .agg #[.int .i64 2, .int .i64 0, .int .i64 4, .int .i64 4]), (4, .agg #[.int .i64 0, .int .i64 2, .int .i64 2, .int .i64 4]), (5, .agg #[.int .i64 1, .int .i64 0, .int .i64 2, .int .i64 2]), (6, .agg #[.int .i64 0, .int .i64 1, .int .i64 1, .int .i64 2])] = some passCells := by kernel_rfl
theorem pass_built0 : Try.prog.built 85 [(0, .int .i64 0), (1, .int .i64 0), (2, .int .i64 8), (3, .int .i64 8)] = some #[.int .i64 0, .int .i64 0, .int .i64 8, .int .i64 8] := by kernel_rfl
theorem pass_built1 : Try.prog.built 85 [(0, .int .i64 4), (1, .int .i64 0), (2, .int .i64 8), (3, .int .i64 8)] = some #[.int .i64 4, .int .i64 0, .int .i64 8, .int .i64 8] := by kernel_rfl
theorem pass_built2 : Try.prog.built 85 [(0, .int .i64 0), (1, .int .i64 4), (2, .int .i64 4), (3, .int .i64 8)] = some #[.int .i64 0, .int .i64 4, .int .i64 4, .int .i64 8] := by kernel_rfl
theorem pass_built3 : Try.prog.built 85 [(0, .int .i64 2), (1, .int .i64 0), (2, .int .i64 4), (3, .int .i64 4)] = some #[.int .i64 2, .int .i64 0, .int .i64 4, .int .i64 4] := by kernel_rfl
theorem pass_built4 : Try.prog.built 85 [(0, .int .i64 0), (1, .int .i64 2), (2, .int .i64 2), (3, .int .i64 4)] = some #[.int .i64 0, .int .i64 2, .int .i64 2, .int .i64 4] := by kernel_rfl
theorem pass_built5 : Try.prog.built 85 [(0, .int .i64 1), (1, .int .i64 0), (2, .int .i64 2), (3, .int .i64 2)] = some #[.int .i64 1, .int .i64 0, .int .i64 2, .int .i64 2] := by kernel_rfl
theorem pass_built6 : Try.prog.built 85 [(0, .int .i64 0), (1, .int .i64 1), (2, .int .i64 1), (3, .int .i64 2)] = some #[.int .i64 0, .int .i64 1, .int .i64 1, .int .i64 2] := by kernel_rfl
set_option maxHeartbeats 2000000 in
set_option maxRecDepth 100000 in
theorem passes_code (W : World) : Calls Try.prog 39 #[] W fun e w' => ∃ PC, e = .returned PC ∧ Hid (∀ (k : Nat) (p : Pass), passes[k]? = some p → ∀ w, (Instr.index 86 PC (.int .i64 (k : Int))).run Try.prog w = .ok (passVal p) w) ∧ Hid (Below W.heap.size W w') := by
  obtain ⟨hzero, hi⟩ := zero_of_info info_passes
  obtain ⟨Z, eZ⟩ : ∃ Z, Array.replicate 28 (Value.int .i64 0) = Z := ⟨_, rfl⟩
  have hzs : Z.size = 28 := by rw [← eZ]; rfl
  rw [eZ] at hzero
  obtain ⟨T, eT⟩ : ∃ T, passCells = T := ⟨_, rfl⟩
  have hsz : T.size = 28 := by rw [← eT]; rfl
  have h1c : T.all (·.oneCell') = true := by rw [← eT]; exact passCells_one
  have HIX : Hid (∀ (k : Nat) (p : Pass), passes[k]? = some p → ∀ w, (Instr.index 86 (.agg T) (.int .i64 (k : Int))).run Try.prog w = .ok (passVal p) w) := by
    rw [← eT]
    exact passes_index
  have HALL := Lib.hid passes_all
  rw [eT] at HALL
  have HSZ := Lib.hid hsz
  have HI := Lib.hid hi
  have H1C := Lib.hid h1c
  have HZS := Lib.hid hzs
  clear eT eZ hzs hsz h1c hi
  go_enter Try.func39, Try.ntmps39
  go_upto_region 1 with fail
  refine wp_region_lit ?_
  refine wpList_build_is rfl 85 _ rfl #[.int .i64 0, .int .i64 0, .int .i64 8, .int .i64 8] (by simp only [List.map_toArray, List.map_cons, List.map_nil, Act.eval]; exact pass_built0) ?_
  refine wpList_build_is rfl 85 _ rfl #[.int .i64 4, .int .i64 0, .int .i64 8, .int .i64 8] (by simp only [List.map_toArray, List.map_cons, List.map_nil, Act.eval]; exact pass_built1) ?_
  refine wpList_build_is rfl 85 _ rfl #[.int .i64 0, .int .i64 4, .int .i64 4, .int .i64 8] (by simp only [List.map_toArray, List.map_cons, List.map_nil, Act.eval]; exact pass_built2) ?_
  refine wpList_build_is rfl 85 _ rfl #[.int .i64 2, .int .i64 0, .int .i64 4, .int .i64 4] (by simp only [List.map_toArray, List.map_cons, List.map_nil, Act.eval]; exact pass_built3) ?_
  refine wpList_build_is rfl 85 _ rfl #[.int .i64 0, .int .i64 2, .int .i64 2, .int .i64 4] (by simp only [List.map_toArray, List.map_cons, List.map_nil, Act.eval]; exact pass_built4) ?_
  refine wpList_build_is rfl 85 _ rfl #[.int .i64 1, .int .i64 0, .int .i64 2, .int .i64 2] (by simp only [List.map_toArray, List.map_cons, List.map_nil, Act.eval]; exact pass_built5) ?_
  refine wpList_build_is rfl 85 _ rfl #[.int .i64 0, .int .i64 1, .int .i64 1, .int .i64 2] (by simp only [List.map_toArray, List.map_cons, List.map_nil, Act.eval]; exact pass_built6) ?_
  refine wpList_build_is rfl 86 _ rfl T (by simp [Act.eval, Act.put]; exact HALL.out) ?_
  have e1 : (W.alloc (.cells Z 86)).heap[W.heap.size]? = some (.cells Z 86 (0, 0)) := heap_alloc_new W _
  have e2 : (Try.prog.info? 86).map (·.size) = some T.size := by rw [HSZ.out]; exact HI.out
  have e3 : Z.size = T.size := by rw [HSZ.out, HZS.out]
  refine wpList_store_row rfl 86 _ _ rfl W.heap.size T ?_ ?_ 86 Z e1 e2 e3 H1C.out ?_
  · simp [Act.eval, Act.put]
  · simp [Act.eval, Act.put]
  refine wpList_nil ?_
  rw [World.setRow_alloc_new]
  clear e1 e2 e3
  simp only [Act.put, List.setIfInBounds_toArray, List.set_cons_succ, List.set_cons_zero]
  go_wp2_with fail
  refine bodyPost_ret (v := .agg T) ?_ rfl ⟨_, rfl, HIX.out, below_alloc1 _ _⟩
  exact results_cell_row (P := Try.prog) (p := 0) (ty := 86) (d := _) rfl _ _ W.heap.size 86 T (0, 0) rfl (heap_alloc_new W _) Try.underlying86 rfl (by rw [HSZ.out]; exact HI.out)
/-! ### Each pixel -/
/-- A closure that is handed pixels: what it has taken (I), in which blocks of its own. -/
structure Walker (F : Nat) (cp : Value) (w h : Nat) (I : World → List (Nat × Bool) → (Nat → Prop) → Prop) : Prop where
  enter : ∀ (args : Array Value) (v : World), (callFunc F args).run Try.prog v = .ok (.enter F args) v
  lt : ∀ v l O, I v l O → ∀ k, O k → k < v.heap.size
  keep : ∀ v v' l O, I v l O → v.heap.size ≤ v'.heap.size → (∀ k, k < v.heap.size → v'.heap[k]? = v.heap[k]?) → I v' l O
  put : ∀ v l O (n : Nat) (b : Bool) r, I v l O → markedOf w h = l ++ (n, b) :: r → n < w * h → Calls Try.prog F #[.int .i64 (n : Int), .bool b, cp] v fun e v' => e = .returned (.tuple #[]) ∧ ∃ O', I v' (l ++ [(n, b)]) O' ∧ (∀ b, O' b → O b ∨ v.heap.size ≤ b) ∧ Past O v v'
theorem lane_lt (n s a i : Nat) (ha : 0 < a) : s + a * i < n ↔ i < laneLen n s a := by
  unfold laneLen
  rw [Nat.lt_div_iff_mul_lt ha]
  rw [Nat.mul_comm a i]
  omega
theorem lane_get (n s a i : Nat) (hi : i < laneLen n s a) : (lane n s a)[i]? = some (s + a * i) := by
  unfold lane
  show (List.map _ (List.range (laneLen n s a)))[i]? = _
  rw [List.getElem?_map, List.getElem?_range hi]
  rfl
theorem row_next (w : Nat) (r : Pass × Nat) (i : Nat) (hi : i < laneLen w r.1.x r.1.a) : (rowMarked w r).take (i + 1) = (rowMarked w r).take i ++ [(r.2 * w + (r.1.x + r.1.a * i), decide (r.1.x + r.1.a * i = r.1.x))] := by
  unfold rowMarked
  rw [← List.map_take, ← List.map_take, List.take_add_one, lane_get _ _ _ _ hi, List.map_append]
  rfl
theorem row_all (w : Nat) (r : Pass × Nat) (i : Nat) (hi : laneLen w r.1.x r.1.a ≤ i) : (rowMarked w r).take i = rowMarked w r := List.take_of_length_le (by simp [rowMarked, lane_length]; exact hi)
def rowsUpto (w h : Nat) (p : Pass) (j : Nat) : List (Nat × Bool) := ((lane h p.y p.b).take j).flatMap fun y => rowMarked w (p, y)
theorem upto_next (w h : Nat) (p : Pass) (j : Nat) (hj : j < laneLen h p.y p.b) : rowsUpto w h p (j + 1) = rowsUpto w h p j ++ rowMarked w (p, p.y + p.b * j) := by
  unfold rowsUpto
  rw [List.take_add_one, lane_get _ _ _ _ hj, List.flatMap_append]
  simp
theorem upto_all (w h : Nat) (p : Pass) (j : Nat) (hj : laneLen h p.y p.b ≤ j) : rowsUpto w h p j = passMarked w h p := by
  unfold rowsUpto passMarked
  rw [List.take_of_length_le (by rw [lane_length]; exact hj)]
def passUpto (w h k : Nat) : List (Nat × Bool) := (passes.take k).flatMap (passMarked w h)
theorem pass_next (w h k : Nat) (p : Pass) (hk : passes[k]? = some p) : passUpto w h (k + 1) = passUpto w h k ++ passMarked w h p := by
  unfold passUpto
  rw [List.take_add_one, hk, List.flatMap_append]
  simp
theorem pass_all (w h : Nat) : passUpto w h 7 = markedOf w h := by
  rw [marked_passes]
  rfl
/-- What is put is just what comes next. -/
theorem put_here (w h k j i : Nat) (p : Pass) (hk : passes[k]? = some p) (hj : j < laneLen h p.y p.b) (hi : i < laneLen w p.x p.a) :
    ∃ r, markedOf w h = (passUpto w h k ++ rowsUpto w h p j ++ (rowMarked w (p, p.y + p.b * j)).take i) ++ ((p.y + p.b * j) * w + (p.x + p.a * i), decide (p.x + p.a * i = p.x)) :: r := by
  have h1 : ∃ r, markedOf w h = passUpto w h (k + 1) ++ r := ⟨(passes.drop (k + 1)).flatMap (passMarked w h), by rw [marked_passes]; unfold passUpto; rw [← List.flatMap_append, List.take_append_drop]⟩
  have h2 : ∃ r, passMarked w h p = rowsUpto w h p (j + 1) ++ r := ⟨((lane h p.y p.b).drop (j + 1)).flatMap fun y => rowMarked w (p, y), by unfold rowsUpto passMarked; rw [← List.flatMap_append, List.take_append_drop]⟩
  have h3 : ∃ r, rowMarked w (p, p.y + p.b * j) = (rowMarked w (p, p.y + p.b * j)).take (i + 1) ++ r := ⟨_, (List.take_append_drop _ _).symm⟩
  obtain ⟨r1, h1⟩ := h1
  obtain ⟨r2, h2⟩ := h2
  obtain ⟨r3, h3⟩ := h3
  rw [h1, pass_next w h k p hk, h2, upto_next w h p j hj]
  rw [row_next w (p, p.y + p.b * j) i hi] at h3
  refine ⟨r3 ++ (r2 ++ r1), ?_⟩
  conv => lhs; rw [h3]
  simp only [List.append_assoc, List.cons_append, List.nil_append]
theorem pass_small {k : Nat} {p : Pass} (hk : passes[k]? = some p) : p.x ≤ 8 ∧ p.y ≤ 8 ∧ 1 ≤ p.a ∧ p.a ≤ 8 ∧ 1 ≤ p.b ∧ p.b ≤ 8 := (by decide +kernel : ∀ p ∈ passes, p.x ≤ 8 ∧ p.y ≤ 8 ∧ 1 ≤ p.a ∧ p.a ≤ 8 ∧ 1 ≤ p.b ∧ p.b ≤ 8) p (List.mem_of_getElem? hk)
/-- What is left of the passes, behind some pixels of a row. -/
structure AtPixel (I : World → List (Nat × Bool) → (Nat → Prop) → Prop) (W : World) (O : Nat → Prop) (l : List (Nat × Bool)) (w : World) (O' : Nat → Prop) : Prop where
  has : I w l O'
  sub : ∀ b, O' b → O b ∨ W.heap.size ≤ b
  past : Past O W w
theorem AtPixel.alloc {F : Nat} {cp : Value} {w h : Nat} {I : World → List (Nat × Bool) → (Nat → Prop) → Prop} (hI : Walker F cp w h I) {W v v' : World} {O O' : Nat → Prop} {l : List (Nat × Bool)} (a : AtPixel I W O l v O') (hb : Below v.heap.size v v') : AtPixel I W O l v' O' :=
  ⟨hI.keep _ _ _ _ a.has hb.size (fun k hk => hb.block k hk), a.sub, a.past.trans (Past.of_below hb : Past (fun _ => False) _ _) (fun _ h => h.elim)⟩
theorem AtPixel.put {I : World → List (Nat × Bool) → (Nat → Prop) → Prop} {W v v' : World} {O O' O'' : Nat → Prop} {l l' : List (Nat × Bool)} (a : AtPixel I W O l v O') (h1 : I v' l' O'') (h2 : ∀ b, O'' b → O' b ∨ v.heap.size ≤ b) (h3 : Past O' v v') : AtPixel I W O l' v' O'' :=
  ⟨h1, fun b hb => (h2 b hb).elim (a.sub b) (fun h => .inr (Nat.le_trans a.past.size h)), a.past.trans h3 a.sub⟩
set_option maxHeartbeats 4000000 in
set_option maxRecDepth 100000 in
theorem eachPixel_code {F : Nat} {cp : Value} {w h : Nat} {I : World → List (Nat × Bool) → (Nat → Prop) → Prop} (hI : Walker F cp w h I) (hw : w ≤ 1024) (hh : h ≤ 1024) (W : World) (O : Nat → Prop) (h0 : I W [] O) :
    Calls Try.prog 24 #[.int .i64 (w : Int), .int .i64 (h : Int), .func (Fn.func F) #[] #[cp]] W fun e w' => e = .returned (.tuple #[]) ∧ ∃ O', AtPixel I W O (markedOf w h) w' O' := by
  have hent := hI.enter
  have HI := Lib.hid hI
  have H0 : Hid (AtPixel I W O [] W O) := ⟨h0, fun b hb => .inl hb, Past.refl _ _⟩
  clear hI h0
  go_enter Try.func24, Try.ntmps24
  go_wp2_with fail
  go_at_call 39
  refine (passes_code W).mono ?_
  rintro e w1 ⟨PC, rfl, HP, HB1⟩
  have H1 : Hid (AtPixel I W O [] w1 O) := H0.out.alloc HI.out HB1.out
  clear H0 HB1
  go_wp2_with fail
  go_loopw [11] (fun s11 wr => ∃ (k : Nat) (O' : Nat → Prop), k ≤ 7 ∧ s11 = .int .i64 (k : Int) ∧ Hid (AtPixel I W O (passUpto w h k) wr O')) (fun s11 _ => 7 - (intOf s11).toNat)
  case atStart => exact ⟨0, O, Nat.zero_le _, rfl, H1.out⟩
  case round =>
    clear H1
    obtain ⟨k, O1, hk, rfl, HA⟩ := hrel
    by_cases hk7 : k < 7
    · obtain ⟨p, hp⟩ : ∃ p, passes[k]? = some p := ⟨passes[k]'hk7, List.getElem?_eq_getElem _⟩
      have hix := HP.out k p hp
      have hsm := pass_small hp
      have HPK := Lib.hid hp
      have HNX := Lib.hid (pass_next w h k p hp)
      have HNL : Hid (∀ n, laneLen n p.x p.a = laneLen n p.x p.a) := fun n => rfl
      have HLX : Hid (∀ i, p.x + p.a * i < w ↔ i < laneLen w p.x p.a) := fun i => lane_lt _ _ _ _ (by omega)
      have HLY : Hid (∀ i, p.y + p.b * i < h ↔ i < laneLen h p.y p.b) := fun i => lane_lt _ _ _ _ (by omega)
      unfold passVal at hix
      obtain ⟨x0, ex⟩ : ∃ v, p.x = v := ⟨_, rfl⟩
      obtain ⟨y0, ey⟩ : ∃ v, p.y = v := ⟨_, rfl⟩
      obtain ⟨a, ea⟩ : ∃ v, p.a = v := ⟨_, rfl⟩
      obtain ⟨b, eb⟩ : ∃ v, p.b = v := ⟨_, rfl⟩
      rw [ex, ey, ea, eb] at hix hsm
      have HE := Lib.hid (And.intro ex (And.intro ey (And.intro ea eb)))
      rw [ex, ea] at HLX
      rw [ey, eb] at HLY
      have hd : decide ((k : Int) < 7) = true := decide_eq_true (by omega)
      clear ex ey ea eb hp HNL
      go_wp2_with fail
      -- the pass's box
      obtain ⟨wb, ewb⟩ : ∃ wb, wb = wr.alloc (.cells #[.int .i64 (x0 : Int), .int .i64 (y0 : Int), .int .i64 (a : Int), .int .i64 (b : Int)] 85) := ⟨_, rfl⟩
      have hblk : wb.heap[wr.heap.size]? = some (.cells #[.int .i64 (x0 : Int), .int .i64 (y0 : Int), .int .i64 (a : Int), .int .i64 (b : Int)] 85 (0, 0)) := by rw [ewb]; exact heap_alloc_new wr _
      have HA2 : Hid (AtPixel I W O (passUpto w h k) wb O1) := by
        rw [ewb]
        exact HA.out.alloc HI.out (below_alloc1 wr _)
      have HG1 : Hid (¬ O1 wr.heap.size) := fun ho => Nat.lt_irrefl _ (HI.out.lt _ _ _ HA.out.has _ ho)
      obtain ⟨g, eg⟩ : ∃ g, wr.heap.size = g := ⟨_, rfl⟩
      rw [eg] at hblk HG1 ⊢
      have HBK := Lib.hid hblk
      rw [← ewb]
      clear ewb HA eg
      go_loopw [8] (fun s8 wy => ∃ (j : Nat) (y : Nat) (O2 : Nat → Prop), j ≤ laneLen h y0 b ∧ Hid (y = y0 + b * j) ∧ y ≤ 2000 ∧ s8 = .int .i64 (y : Int) ∧ Hid (AtPixel I W O (passUpto w h k ++ rowsUpto w h p j) wy O2) ∧ Hid (wy.heap[g]? = some (.cells #[.int .i64 (x0 : Int), .int .i64 (y0 : Int), .int .i64 (a : Int), .int .i64 (b : Int)] 85 (0, 0)) ∧ ¬ O2 g)) (fun s8 _ => 3000 - (intOf s8).toNat)
      case atStart => exact ⟨0, y0, O1, Nat.zero_le _, by show _ = _; rw [Nat.mul_zero, Nat.add_zero], by omega, by first | rfl | trivial, by
        have : rowsUpto w h p 0 = [] := rfl
        rw [this, List.append_nil]
        exact HA2.out, HBK.out, HG1.out⟩
      case round =>
        clear HA2 HBK HG1 hblk
        obtain ⟨j, y, O2, hj, HY, hyb, rfl, HA2, HBK⟩ := hrel
        have q0 := cell_of_block HBK.out.1 0
        have q3 := cell_of_block HBK.out.1 3
        by_cases hjl : j < laneLen h y0 b
        · have hyh : y < h := by
            have := (HLY.out j).2 hjl
            rw [← HY.out] at this
            exact this
          have d1 : decide ((y : Int) < (h : Int)) = true := decide_eq_true (by omega)
          obtain ⟨M, eM⟩ : ∃ M, y * w = M := ⟨_, rfl⟩
          have HM := Lib.hid eM
          have hM : M ≤ 1024 * 1024 := by rw [← eM]; exact Nat.mul_le_mul (by omega) hw
          have hmul : (y : Int) * (w : Int) = (M : Int) := by rw [← eM]; exact (Int.natCast_mul y w).symm
          have HYN : Hid (y + b = y0 + b * (j + 1)) := by
            show _ = _
            rw [HY.out, Nat.mul_add, Nat.mul_one, Nat.add_assoc]
          obtain ⟨y2, ey2⟩ : ∃ v, y + b = v := ⟨_, rfl⟩
          have hsb : (y : Int) + (b : Int) = (y2 : Int) := by omega
          have hyy : y < y2 := by omega
          have hy2 : y2 ≤ 1100 := by omega
          rw [ey2] at HYN
          clear eM ey2
          go_wp2_with fail
          go_loopw [9] (fun s9 wx => ∃ (i : Nat) (x : Nat) (O3 : Nat → Prop), i ≤ laneLen w x0 a ∧ Hid (x = x0 + a * i) ∧ x ≤ 2000 ∧ s9 = .int .i64 (x : Int) ∧ Hid (AtPixel I W O (passUpto w h k ++ rowsUpto w h p j ++ (rowMarked w (p, p.y + p.b * j)).take i) wx O3) ∧ Hid (wx.heap[g]? = some (.cells #[.int .i64 (x0 : Int), .int .i64 (y0 : Int), .int .i64 (a : Int), .int .i64 (b : Int)] 85 (0, 0)) ∧ ¬ O3 g)) (fun s9 _ => 3000 - (intOf s9).toNat)
          case atStart => exact ⟨0, x0, O2, Nat.zero_le _, by show _ = _; rw [Nat.mul_zero, Nat.add_zero], by omega, by first | rfl | trivial, by
            rw [List.take_zero, List.append_nil]
            exact HA2.out, HBK.out⟩
          case round =>
            clear q0 q3 HA2 HBK
            obtain ⟨i, x, O3, hi, HX, hxb, rfl, HA3, HBK⟩ := hrel
            have q0 := cell_of_block HBK.out.1 0
            have q2 := cell_of_block HBK.out.1 2
            have q3 := cell_of_block HBK.out.1 3
            by_cases hil : i < laneLen w x0 a
            · have hxw : x < w := by
                have := (HLX.out i).2 hil
                rw [← HX.out] at this
                exact this
              have d2 : decide ((x : Int) < (w : Int)) = true := decide_eq_true (by omega)
              have HXN : Hid (x + a = x0 + a * (i + 1)) := by
                show _ = _
                rw [HX.out, Nat.mul_add, Nat.mul_one, Nat.add_assoc]
              obtain ⟨x2, ex2⟩ : ∃ v, x + a = v := ⟨_, rfl⟩
              have hsa : (x : Int) + (a : Int) = (x2 : Int) := by omega
              have hxx : x < x2 := by omega
              have hx2 : x2 ≤ 1100 := by omega
              rw [ex2] at HXN
              clear ex2
              obtain ⟨n, en⟩ : ∃ n, M + x = n := ⟨_, rfl⟩
              have hsn : (M : Int) + (x : Int) = (n : Int) := by omega
              have hnb : n ≤ 2000000 := by omega
              obtain ⟨f, ef⟩ : ∃ f, decide (x = x0) = f := ⟨_, rfl⟩
              have hf1 : ((x : Int) == (x0 : Int)) = f := by
                rw [← ef, Bool.eq_iff_iff]
                simp only [beq_iff_eq, decide_eq_true_eq]
                omega
              have hf2 : decide ((x : Int) = (x0 : Int)) = f := by
                rw [← ef, Bool.eq_iff_iff]
                simp only [decide_eq_true_eq]
                omega
              have HPUT : Hid (∃ r, markedOf w h = (passUpto w h k ++ rowsUpto w h p j ++ (rowMarked w (p, p.y + p.b * j)).take i) ++ (n, f) :: r) := by
                have h1 := put_here w h k j i p HPK.out (by rw [HE.out.2.1, HE.out.2.2.2]; exact hjl) (by rw [HE.out.1, HE.out.2.2.1]; exact hil)
                rw [HE.out.1, HE.out.2.2.1] at h1
                rw [HE.out.2.1, HE.out.2.2.2, ← HY.out, ← HX.out, HM.out, en, ef] at h1
                rw [HE.out.2.1, HE.out.2.2.2, ← HY.out]
                exact h1
              have HROW : Hid ((rowMarked w (p, p.y + p.b * j)).take (i + 1) = (rowMarked w (p, p.y + p.b * j)).take i ++ [(n, f)]) := by
                have h1 := row_next w (p, p.y + p.b * j) i (by show i < laneLen w p.x p.a; rw [HE.out.1, HE.out.2.2.1]; exact hil)
                have h2 : ((p, p.y + p.b * j) : Pass × Nat).2 * w + ((p, p.y + p.b * j) : Pass × Nat).1.x = (p.y + p.b * j) * w + p.x := rfl
                refine h1.trans ?_
                show _ ++ [((p.y + p.b * j) * w + (p.x + p.a * i), decide (p.x + p.a * i = p.x))] = _
                rw [HE.out.1, HE.out.2.2.1, HE.out.2.1, HE.out.2.2.2, ← HY.out, ← HX.out, HM.out, en, ef]
              have hnwh : n < w * h := by
                rw [← en, ← HM.out]
                exact place_below hxw hyh
              have HKP : Hid (∀ wz, wz = wr → Calls Try.prog F #[.int .i64 (n : Int), .bool f, cp] wz fun e w' => e = .returned (.tuple #[]) ∧ ∃ O', Hid (AtPixel I W O (passUpto w h k ++ rowsUpto w h p j ++ (rowMarked w (p, p.y + p.b * j)).take (i + 1)) w' O') ∧ Hid (w'.heap[g]? = some (.cells #[.int .i64 (x0 : Int), .int .i64 (y0 : Int), .int .i64 (a : Int), .int .i64 (b : Int)] 85 (0, 0)) ∧ ¬ O' g)) := by
                rintro wz rfl
                obtain ⟨r, hr⟩ := HPUT.out
                refine (HI.out.put _ _ _ n f r HA3.out.has hr hnwh).mono ?_
                rintro e w' ⟨rfl, O', k1, k2, k3⟩
                refine ⟨rfl, O', ?_, ?_, ?_⟩
                · show AtPixel _ _ _ _ _ _
                  rw [HROW.out, ← List.append_assoc]
                  exact HA3.out.put k1 k2 k3
                · exact (k3.block g (Array.getElem?_eq_some_iff.1 HBK.out.1).1 HBK.out.2).trans HBK.out.1
                · intro ho
                  exact (k2 g ho).elim HBK.out.2 (fun h' => by have := (Array.getElem?_eq_some_iff.1 HBK.out.1).1; omega)
              clear hnwh HPUT HROW en ef
              go_wp2_with fail
              refine (HKP.out _ rfl).mono ?_
              clear q0 q2 q3 HKP
              rintro e w5 ⟨rfl, O5, HA5, HB5⟩
              have q2 := cell_of_block HB5.out.1 2
              go_wp2_with fail
              go_roundw
              case rel => exact ⟨i + 1, x2, O5, by omega, HXN.out, by omega, by first | rfl | go_num, HA5.out, HB5.out⟩
              case measure => simp [intOf]; omega
            · have hxw : ¬ x < w := by
                intro hlt
                rw [HX.out] at hlt
                exact hil ((HLX.out i).1 hlt)
              have d2 : decide ((x : Int) < (w : Int)) = false := decide_eq_false (by omega)
              have HA4 : Hid (AtPixel I W O (passUpto w h k ++ rowsUpto w h p (j + 1)) wr O3) := by
                have h1 := HA3.out
                rw [row_all w _ i (by show laneLen w p.x p.a ≤ i; rw [HE.out.1, HE.out.2.2.1]; omega)] at h1
                show AtPixel _ _ _ _ _ _
                rw [upto_next w h p j (by rw [HE.out.2.1, HE.out.2.2.2]; exact hjl), ← List.append_assoc]
                exact h1
              clear HA3 q0 q2
              go_wp2_with fail
              go_roundw
              case rel => exact ⟨j + 1, y2, O3, by omega, HYN.out, by omega, by first | rfl | go_num, HA4.out, HBK.out⟩
              case measure => simp [intOf]; omega
        · have hyh : ¬ y < h := by
            intro hlt
            rw [HY.out] at hlt
            exact hjl ((HLY.out j).1 hlt)
          have d1 : decide ((y : Int) < (h : Int)) = false := decide_eq_false (by omega)
          have HA4 : Hid (AtPixel I W O (passUpto w h (k + 1)) wr O2) := by
            have h1 := HA2.out
            rw [upto_all w h p j (by rw [HE.out.2.1, HE.out.2.2.2]; omega)] at h1
            show AtPixel _ _ _ _ _ _
            rw [HNX.out]
            exact h1
          clear HA2 q0 q3
          go_wp2_with fail
          go_roundw
          case rel => exact ⟨k + 1, O2, by omega, by first | rfl | go_num, HA4.out⟩
          case measure => simp [intOf]; omega
    · obtain rfl : k = 7 := by omega
      have hd : decide ((7 : Int) < 7) = false := by decide
      go_wp2_with fail
      refine bodyPost_end (v := .tuple #[]) (by simp [results, Try.results24, go_sem]) rfl ⟨rfl, O1, ?_⟩
      rw [← pass_all]
      exact HA.out
end Go.Proofs.Ytefdlidjdmlnaaa.Fx
