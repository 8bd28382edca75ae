/-
  Lists of bytes: as texts, out of texts, alike, copied, that came in; a place that is picked. The conditions stand in each.
  Lists of numbers and of lists of bytes that came in; a call's own row beside what others write. The conditions stand in each.
-/
import Derived.OpenShut
import Derived.ProofKit
import Derived.Carry
import Derived.Laws.BytesArg
import Derived.Laws.IdiomStrings
import Derived.Test.YtefdlidjdmlnaaaRegion
import Derived.Deep.Matrix
namespace Go.Proofs.Ytefdlidjdmlnaaa.Fx
open Go Go.RowKit Go.Joins Go.ChangeShapes Go.WideShapes Go.ChangeAt
set_option linter.unusedVariables false
theorem cells8 : Try.prog.cellsOf 5 = 1 := by kernel_rfl
theorem laid : laidOutB Try.prog = true := by kernel_rfl
theorem byte_wf {n : Int} (h : (Lit.int .u8 n).wf = true) : 0 ≤ n ∧ n ≤ 255 := by
  simp [Lit.wf, IntKind.min, IntKind.max, IntKind.bits, IntKind.signed] at h
  omega
theorem half_wf {n : Int} (h : (Lit.int .u16 n).wf = true) : ∃ m : Nat, n = (m : Int) ∧ m ≤ 65535 := by
  simp [Lit.wf, IntKind.min, IntKind.max, IntKind.bits, IntKind.signed] at h
  exact ⟨n.toNat, by omega, by omega⟩
theorem word_wf {n : Int} (h : (Lit.int .u32 n).wf = true) : ∃ m : Nat, n = (m : Int) ∧ m ≤ 4294967295 := by
  simp [Lit.wf, IntKind.min, IntKind.max, IntKind.bits, IntKind.signed] at h
  exact ⟨n.toNat, by omega, by omega⟩
theorem int_wf {n : Int} (h : (Lit.int .i64 n).wf = true) : -9223372036854775808 ≤ n ∧ n ≤ 9223372036854775807 := by
  simp [Lit.wf, IntKind.min, IntKind.max, IntKind.bits, IntKind.signed] at h
  omega
/-- A list of bytes as its words in memory say it: of any length. -/
theorem bytes_cells {W : World} {a : Addr} {len len' cap : Nat} {zs : List Int} (hl : len ≤ len') (hm : len' ≤ cap) (hz : zs.length = len') (hcell : ∀ j, j < len' → W.cell? (a.add j) = some (.int .u8 (zs.getD j 0))) (hwz : ∀ z ∈ zs, (Lit.int .u8 z).wf = true) :
    ∃ xs, bytesIn W (.slice (some a) len cap) xs ∧ ∀ x ∈ xs, x < 256 := by
  by_cases h0 : len = 0
  · subst h0
    exact ⟨[], .inl ⟨⟨_, _, rfl, fun h => by cases h⟩, rfl⟩, fun b hb => (by cases hb)⟩
  · obtain ⟨ab, ao, spot⟩ := a
    have hspot : spot = none := by simpa [Addr.add] using World.cell?_spot (hcell 0 (by omega))
    subst hspot
    have hlen : ((zs.take len).map Int.toNat).length = len := by simp; omega
    have hget : ∀ (j z : Nat), ((zs.take len).map Int.toNat)[j]? = some z → j < len ∧ zs.getD j 0 = (z : Int) ∧ z < 256 := by
      intro j z hj
      have hj1 : j < len := by have := (List.getElem?_eq_some_iff.mp hj).1; omega
      have hj2 : j < zs.length := by omega
      have e : zs.getD j 0 = zs[j] := by simp [List.getD, hj2]
      have hw := byte_wf (hwz _ (List.getElem_mem hj2))
      rw [List.getElem?_map, List.getElem?_take, if_pos hj1, List.getElem?_eq_getElem hj2, Option.map_some] at hj
      obtain rfl := Option.some.inj hj
      rw [e]
      exact ⟨hj1, by omega, by omega⟩
    refine ⟨(zs.take len).map Int.toNat, .inr ⟨ab, ao, cap, by rw [hlen], ?_, by rw [hlen]; omega, fun j z hj => ?_⟩, fun z hz2 => ?_⟩
    · have := World.block_lt_of_cell? W _ (hcell 0 (by omega))
      rwa [Addr.add_lit] at this
    · obtain ⟨h1, h2, h3⟩ := hget j z hj
      have hcj := hcell j (by omega)
      rw [Addr.add_lit, h2] at hcj
      exact hcj
    · obtain ⟨j, hj, rfl⟩ := List.getElem_of_mem hz2
      exact (hget j _ (List.getElem?_eq_getElem hj)).2.2
set_option maxRecDepth 100000 in
theorem open_bytes {H : Type} {enc : TypeId × Value → H} {W : World} {base : Nat} {v : Value} {d : DataW H} {p : List MemPlace} (hval : Value.okWide Try.prog W .any base 36 v)
    (h : DataW.Trod enc Try.prog W 0 (fun _ => true) true 36 v d p) : ∃ zs, bytesIn W v zs ∧ ∀ x ∈ zs, x < 256 := by
  obtain ⟨a1, len, cap, rfl⟩ := okWide_slice Try.underlying36 hval
  obtain ⟨fuel, hf⟩ := h
  rcases open_ints Try.underlying36 Try.underlying5 cells8 hf with ⟨hcs, hx⟩ | ⟨a, len', cap', zs, hcs, _, hl, hm, hz, hx, hcell, hwz⟩
  · simp [Value.cells] at hcs
    obtain ⟨rfl, rfl, rfl⟩ := hcs
    exact ⟨[], .inl ⟨⟨_, _, rfl, fun _ => rfl⟩, rfl⟩, fun b hb => (by cases hb)⟩
  · simp [Value.cells] at hcs
    obtain ⟨rfl, rfl, rfl⟩ := hcs
    simp only [if_true] at hz
    exact bytes_cells (len' := zs.length) (by omega) (by omega) rfl (fun j hj => hcell j (by omega)) hwz
/-! ### Texts -/
def textOf (zs : List Nat) : ByteArray := strOfNums (zs.map fun (n : Nat) => (n : Int))
theorem textOf_inj {x y : List Nat} (hx : ∀ z ∈ x, z < 256) (hy : ∀ z ∈ y, z < 256) (h : textOf x = textOf y) : x = y := by
  have hd : (textOf x).data.toList = (textOf y).data.toList := by rw [h]
  unfold textOf at hd
  rw [strOfNums_data, strOfNums_data, List.map_map, List.map_map] at hd
  have back : ∀ (l : List Nat), (∀ z ∈ l, z < 256) → (l.map ((fun n : Int => UInt8.ofNat n.toNat) ∘ fun (n : Nat) => (n : Int))).map UInt8.toNat = l := by
    intro l hl
    rw [List.map_map]
    have : ∀ z ∈ l, (UInt8.toNat ∘ (fun n : Int => UInt8.ofNat n.toNat) ∘ fun (n : Nat) => (n : Int)) z = z := by
      intro z hz
      have := hl z hz
      simp
      omega
    rw [List.map_congr_left this, List.map_id']
  rw [← back x hx, hd, back y hy]
theorem convert_text {w : World} {v : Value} {zs : List Nat} (h : bytesIn w v zs) : (convert 36 9 v).run Try.prog w = .ok (.string (textOf zs)) w := by
  rcases h with ⟨⟨o, cap, rfl, ho⟩, rfl⟩ | ⟨b, off, cap, rfl, hlt, hle, hc⟩
  · cases o with
    | none => exact run_convert_bytes_nil w 36 5 Try.underlying36 Try.underlying5 0 cap 9 Try.underlying9
    | some a =>
      have hl : (loadCells a 0).run Try.prog w = .ok (([] : List Int).map (Value.int .u8)).toArray w := run_loadCells_list (P := Try.prog) w a [] (fun j v hj => by simp at hj)
      rw [run_convert_bytes_string w 36 9 5 (some a) 0 cap Try.underlying36 Try.underlying5 Try.underlying9, run_bytesToString w a 0 cap [] hl]
      rfl
  · refine run_convert_bytes_arg w 36 5 Try.underlying36 Try.underlying5 b off zs.length cap (zs.map fun (n : Nat) => (n : Int)) (by simp) (fun i hi => ?_) 9 Try.underlying9
    have := hc i zs[i] (List.getElem?_eq_getElem hi)
    rw [this]
    simp [byteVal, List.getD, hi]
theorem same_is (p q : Value) (xs ys : List Nat) (w : World) (hp : bytesIn w p xs) (hq : bytesIn w q ys) (hx : ∀ z ∈ xs, z < 256) (hy : ∀ z ∈ ys, z < 256) :
    Calls Try.prog 18 #[p, q] w fun e w' => e = .returned (.bool (decide (xs = ys))) ∧ w = w' := by
  have c1 := convert_text hp
  have c2 := convert_text hq
  have hd : decide (xs = ys) = decide (textOf xs = textOf ys) := by
    by_cases h : xs = ys
    · rw [decide_eq_true h, decide_eq_true (by rw [h])]
    · rw [decide_eq_false h, decide_eq_false (fun h2 => h (textOf_inj hx hy h2))]
  rw [hd]
  clear hp hq hd
  generalize textOf xs = S at *
  generalize textOf ys = T at *
  go_enter Try.func18, Try.ntmps18
  go_wp2
  go_ret
  refine ⟨?_, rfl⟩
  have he : (S.toList == T.toList) = decide (S = T) := by
    rw [ByteArray.toList_eq, ByteArray.toList_eq]
    by_cases h : S = T
    · subst h; simp
    · rw [decide_eq_false h]
      exact beq_eq_false_iff_ne.2 (fun e => h (Go.WideShapes.bytes_inj e))
  first | rfl | (rw [he]; rfl) | (simp only [← he]; rfl)
theorem same_yes (p q : Value) (zs : List Nat) (w : World) (hp : bytesIn w p zs) (hq : bytesIn w q zs) :
    Calls Try.prog 18 #[p, q] w fun e w' => e = .returned (.bool true) ∧ w = w' := by
  have c1 := convert_text hp
  have c2 := convert_text hq
  clear hp hq
  generalize textOf zs = S at *
  go_enter Try.func18, Try.ntmps18
  go_wp2
  go_ret
  first | exact ⟨rfl, rfl⟩ | simp
/-- The bytes of a text. -/
def numsOf (s : ByteArray) : List Nat := s.data.toList.map UInt8.toNat
theorem numsOf_lt (s : ByteArray) : ∀ x ∈ numsOf s, x < 256 := by
  intro x hx
  obtain ⟨y, _, rfl⟩ := List.mem_map.1 hx
  exact y.toNat_lt
set_option maxRecDepth 100000 in
/-- '[]byte(s)': a new row. -/
theorem run_bytes (s : ByteArray) (w : World) : ∃ v w', (convert 9 36 (.string s)).run Try.prog w = .ok v w' ∧ bytesIn w' v (numsOf s) ∧ (∀ b, inBlock v b → w.heap.size ≤ b) ∧ Below w.heap.size w w' := by
  have hr := run_bytes_of_string (P := Try.prog) w 9 36 5 s Try.underlying9 Try.underlying36 Try.underlying5
  have hge := grownCap_ge w s.size 0 5
  generalize grownCap w s.size 0 5 = G at *
  have hl : (numsOf s).length = s.size := by
    unfold numsOf
    rw [List.length_map, Array.length_toList]
    rfl
  refine ⟨_, _, hr, .inr ⟨w.heap.size, 0, G, by rw [hl], ?_, by rw [hl]; exact hge, fun j z hz => ?_⟩, fun b hb => ?_, (Below.refl _ _).drew.alloc (Nat.le_refl _) _⟩
  · show _ < (w.heap.push _).size
    simp
  · have hn := heap_alloc_new w.drew (.cells (bytesRow s G) 5 ((bytesRow s G).size, (bytesRow s G).size + 1))
    have hc := cell_of_block (w := w.drew.alloc (.cells (bytesRow s G) 5 ((bytesRow s G).size, (bytesRow s G).size + 1))) hn j
    rw [Nat.zero_add]
    refine hc.trans ?_
    unfold numsOf at hz
    rw [List.getElem?_map] at hz
    cases hy : s.data.toList[j]? with
    | none => rw [hy] at hz; cases hz
    | some y =>
      rw [hy] at hz
      obtain rfl := Option.some.inj hz
      have hj : j < s.data.size := by have := (List.getElem?_eq_some_iff.1 hy).1; simpa using this
      unfold bytesRow
      rw [Array.getElem?_append_left (by simpa using hj), Array.getElem?_map, ← Array.getElem?_toList, hy]
      rfl
  · obtain ⟨off, n, cap, e, _⟩ := hb
    simp only [Value.slice.injEq, Option.some.injEq, Addr.mk.injEq] at e
    obtain ⟨⟨rfl, _⟩, _⟩ := e
    exact Nat.le_refl _
/-! ### Copies -/
theorem infoByte : (Try.prog.info? 5).map (fun i => (i.zero, i.size, i.bytes)) = some (some (.int .u8 0), 1, 1) := by kernel_rfl
/-! ### A place that is picked -/
theorem pick_any (n m : Int) (hn : -9223372036854775808 ≤ n ∧ n ≤ 9223372036854775807) (hm : 0 ≤ m) (km : m ≤ 9223372036854775807) (w : World) :
    Calls Try.prog 19 #[.int .i64 n, .int .i64 m] w fun e w' => (∃ p : Nat, e = .returned (.int .i64 (p : Int)) ∧ (1 ≤ m → (p : Int) < m)) ∧ w = w' := by
  obtain ⟨hn, kn⟩ := hn
  by_cases h1 : m ≤ 1
  · have d1 : decide (m ≤ 1) = true := decide_eq_true h1
    go_enter Try.func19, Try.ntmps19
    go_wp2
    go_ret
    exact ⟨⟨0, rfl, fun h => by omega⟩, rfl⟩
  · have d1 : decide (m ≤ 1) = false := decide_eq_false h1
    have hz : ¬ m = 0 := by omega
    have hz2 : (m == 0) = false := by simpa using hz
    by_cases h2 : n < 0
    · have d2 : decide (n < 0) = true := decide_eq_true h2
      have hq : (-(n + 1)).tmod m = (-(n + 1)) % m := Int.tmod_eq_emod_of_nonneg (by omega)
      have hr0 := Int.emod_nonneg (-(n + 1)) hz
      have hr1 := Int.emod_lt_of_pos (-(n + 1)) (show 0 < m by omega)
      generalize (-(n + 1)) % m = r at *
      go_enter Try.func19, Try.ntmps19
      go_wp2
      go_ret
      exact ⟨⟨(m - 1 - r).toNat, by rw [Int.toNat_of_nonneg (by omega)]; rfl, fun h => by omega⟩, rfl⟩
    · have d2 : decide (n < 0) = false := decide_eq_false h2
      have hq : n.tmod m = n % m := Int.tmod_eq_emod_of_nonneg (by omega)
      have hr0 := Int.emod_nonneg n hz
      have hr1 := Int.emod_lt_of_pos n (show 0 < m by omega)
      generalize n % m = r at *
      go_enter Try.func19, Try.ntmps19
      go_wp2
      go_ret
      exact ⟨⟨r.toNat, by rw [Int.toNat_of_nonneg hr0]; rfl, fun h => by omega⟩, rfl⟩
end Go.Proofs.Ytefdlidjdmlnaaa.Fx
namespace Go.Proofs.Ytefdlidjdmlnaaa.Fx
open Go Go.RowKit Go.Joins Go.ChangeShapes Go.WideShapes Go.ChangeAt
set_option linter.unusedVariables false
def numVal (n : Int) : Value := .int .i64 n
abbrev numsIn (w : World) (v : Value) (l : List Int) : Prop := listed numVal w v l
theorem cells64 : Try.prog.cellsOf 3 = 1 := by kernel_rfl
set_option maxRecDepth 100000 in
theorem open_numbers {H : Type} {enc : TypeId × Value → H} {W : World} {base : Nat} {v : Value} {d : DataW H} {p : List MemPlace} (hval : Value.okWide Try.prog W .any base 28 v)
    (h : DataW.Trod enc Try.prog W 0 (fun _ => true) true 28 v d p) : ∃ zs, numsIn W v zs ∧ ∀ x ∈ zs, -9223372036854775808 ≤ x ∧ x ≤ 9223372036854775807 := by
  obtain ⟨a1, len, cap, rfl⟩ := okWide_slice Try.underlying28 hval
  obtain ⟨fuel, hf⟩ := h
  rcases open_ints Try.underlying28 Try.underlying3 cells64 hf with ⟨hcs, hx⟩ | ⟨a, len', cap', zs, hcs, _, hl, hm, hz, hx, hcell, hwz⟩
  · simp [Value.cells] at hcs
    obtain ⟨rfl, rfl, rfl⟩ := hcs
    exact ⟨[], .inl ⟨⟨_, _, rfl, fun _ => rfl⟩, rfl⟩, fun b hb => (by cases hb)⟩
  · simp [Value.cells] at hcs
    obtain ⟨rfl, rfl, rfl⟩ := hcs
    simp only [if_true] at hz
    by_cases h0 : len = 0
    · subst h0
      exact ⟨[], .inl ⟨⟨_, _, rfl, fun h => by cases h⟩, rfl⟩, fun b hb => (by cases hb)⟩
    · obtain ⟨ab, ao, spot⟩ := a
      have hspot : spot = none := by simpa [Addr.add] using World.cell?_spot (hcell 0 (by omega))
      subst hspot
      have hlen : (zs.take len).length = len := by rw [List.length_take]; omega
      refine ⟨zs.take len, .inr ⟨ab, ao, cap, by rw [hlen], ?_, by rw [hlen]; omega, fun j z hj => ?_⟩, fun z hz2 => int_wf (hwz z (List.mem_of_mem_take hz2))⟩
      · have := World.block_lt_of_cell? W _ (hcell 0 (by omega))
        rwa [Addr.add_lit] at this
      · have hj1 : j < len := by have := (List.getElem?_eq_some_iff.mp hj).1; omega
        rw [List.getElem?_take, if_pos hj1] at hj
        have hcj := hcell j (by omega)
        rw [Addr.add_lit] at hcj
        rw [hcj]
        simp [numVal, List.getD, hj]
/-! ### Lists of lists of bytes -/
/-- A slice's value that reads as these lists of bytes. -/
def listsIn (W : World) (v : Value) (zss : List (List Nat)) : Prop :=
  ∃ us : List Value, listed (fun u : Value => u) W v us ∧ us.length = zss.length ∧ ∀ (j : Nat) (u : Value) (zs : List Nat), us[j]? = some u → zss[j]? = some zs → bytesIn W u zs
theorem cellsOf_bytes : Try.prog.cellsOf 36 = 1 := by kernel_rfl
set_option maxRecDepth 100000 in
theorem open_lists {H : Type} {enc : TypeId × Value → H} {W : World} {base : Nat} {v : Value} {d : DataW H} {p : List MemPlace} (hval : Value.okWide Try.prog W .any base 34 v)
    (h : DataW.Trod enc Try.prog W 0 (fun _ => true) true 34 v d p) : ∃ zss, listsIn W v zss ∧ ∀ zs ∈ zss, ∀ x ∈ zs, x < 256 := by
  obtain ⟨a1, len, cap, rfl⟩ := okWide_slice Try.underlying34 hval
  obtain ⟨fuel, hf⟩ := h
  rcases Go.Deep.open_int_rows Try.underlying34 Try.underlying36 Try.underlying5 cellsOf_bytes cells8 hf with ⟨hcs, hx⟩ | ⟨a, len', cap', A, L, C, Z, hcs, _, hl, hm, hx, hrow⟩
  · simp [Value.cells] at hcs
    obtain ⟨rfl, rfl, rfl⟩ := hcs
    exact ⟨[], ⟨[], .inl ⟨⟨_, _, rfl, fun _ => rfl⟩, rfl⟩, rfl, fun j u zs h => by simp at h⟩, fun b hb => (by cases hb)⟩
  · simp [Value.cells] at hcs
    obtain ⟨rfl, rfl, rfl⟩ := hcs
    by_cases h0 : len = 0
    · subst h0
      exact ⟨[], ⟨[], .inl ⟨⟨_, _, rfl, fun h => by cases h⟩, rfl⟩, rfl, fun j u zs h => by simp at h⟩, fun b hb => (by cases hb)⟩
    · obtain ⟨ab, ao, spot⟩ := a
      have hspot : spot = none := by simpa [Addr.add] using World.cell?_spot (hrow 0 (by omega)).1
      subst hspot
      have each : ∀ r, r < cap → ∃ xs, bytesIn W (.slice (A r) (L r) (C r)) xs ∧ ∀ x ∈ xs, x < 256 := by
        intro r hr
        obtain ⟨_, h2, h3, h4, h5, h6, h7⟩ := hrow r hr
        cases hA : A r with
        | none =>
          have hC := h6 hA
          have hL : L r = 0 := by omega
          rw [hC, hL]
          exact ⟨[], .inl ⟨⟨_, _, rfl, fun _ => rfl⟩, rfl⟩, fun b hb => (by cases hb)⟩
        | some a' => exact bytes_cells (len' := C r) h2 (Nat.le_refl _) h4 (fun j hj => (h7 a' hA).2 j hj) h5
      obtain ⟨f, hf⟩ := Go.Deep.choose_lt each
      have hget : ∀ {β : Type} (g : Nat → β) (j : Nat) (y : β), ((List.range len).map g)[j]? = some y → j < len ∧ g j = y := by
        intro β g j y hj
        rw [List.getElem?_map] at hj
        cases hr : (List.range len)[j]? with
        | none => rw [hr] at hj; cases hj
        | some i =>
          rw [hr] at hj
          obtain ⟨h1, h2⟩ := List.getElem?_eq_some_iff.1 hr
          rw [List.getElem_range] at h2
          subst h2
          exact ⟨by simpa using h1, Option.some.inj hj⟩
      refine ⟨(List.range len).map f, ⟨(List.range len).map fun r => .slice (A r) (L r) (C r), .inr ⟨ab, ao, cap, by simp, ?_, by simpa using hl, fun j z hj => ?_⟩, by simp, fun j u zs h1 h2 => ?_⟩, fun zs hz => ?_⟩
      · have := World.block_lt_of_cell? W _ (hrow 0 (by omega)).1
        rwa [Addr.add_lit] at this
      · obtain ⟨hj1, rfl⟩ := hget _ _ _ hj
        have hcj := (hrow j (by omega)).1
        rw [Addr.add_lit] at hcj
        exact hcj
      · obtain ⟨hj1, rfl⟩ := hget _ _ _ h1
        obtain ⟨_, rfl⟩ := hget _ _ _ h2
        exact (hf j (by omega)).1
      · obtain ⟨r, hr, rfl⟩ := List.mem_map.1 hz
        exact (hf r (by have := List.mem_range.1 hr; omega)).2
/-! ### A row of a call's own -/
theorem owns_kept {w w' : World} {base : Nat} {e : TypeId} {v : Value} {n : Nat} {xs : List Value} (h : w.ownsRow base e 1 v n xs) (hk : ∀ k, v.ownBlock = some k → w'.heap[k]? = w.heap[k]?) : w'.ownsRow base e 1 v n xs := by
  obtain ⟨hl, h⟩ := h
  refine ⟨hl, ?_⟩
  rcases h with h | ⟨g, cap, cur, rfl, hb, hg, hn, hm, hs, ht⟩
  · exact .inl h
  · exact .inr ⟨g, cap, cur, rfl, hb, (hk g rfl).trans hg, hn, hm, hs, ht⟩
theorem own_in {w : World} {base : Nat} {e : TypeId} {v : Value} {n : Nat} {xs : List Value} (h : w.ownsRow base e 1 v n xs) (b : Nat) (hb : inBlock v b) : v.ownBlock = some b := by
  obtain ⟨off, m, cap, rfl, hm⟩ := hb
  rcases h.2 with ⟨h, _⟩ | ⟨g, c, cur, h, _⟩
  · simp at h
  · simp only [Value.slice.injEq, Option.some.injEq, Addr.mk.injEq] at h
    obtain ⟨⟨rfl, rfl, _⟩, _⟩ := h
    rfl
end Go.Proofs.Ytefdlidjdmlnaaa.Fx
