/-
  An encoder, as landed: what it holds; New, Left, moveOn, pack, Put. The conditions stand in each.
-/
import Derived.Test.YtefdlidjdmlnaaaPngH
import Derived.Test.YtefdlidjdmlnaaaPngL
import Derived.Test.YtefdlidjdmlnaaaZlH
import Derived.BigQuiet
namespace Go.Proofs.Ytefdlidjdmlnaaa.Fx
open Go Go.RowKit Go.Joins
set_option linter.unusedVariables false
/-- A picture's own block. -/
abbrev picCells (hd sv : Value) (left col : Nat) (rv : Value) : Array Value := #[hd, sv, .int .i64 (left : Int), .int .i64 (col : Int), rv]
abbrev numsRead (w : World) (v : Value) (ns : List Nat) : Prop := listed nv w v ns
theorem ints_type : Try.prog.underlying 28 = some (.slice (Try.prog.elem 28)) := by kernel_rfl
set_option maxRecDepth 100000 in
theorem ints_one : ∀ w : World, (sizeOf (Try.prog.elem 28)).run Try.prog w = .ok 1 w := fun w => by rfl
set_option maxHeartbeats 2000000 in
set_option maxRecDepth 100000 in
theorem moveOn_code (g left col r : Nat) (rs : List Nat) (hd sv rv : Value) (W : World) (hg : W.heap[g]? = some (.cells (picCells hd sv (left + 1) col rv) 59 (0, 0))) (hr : numsRead W rv (r :: rs)) (hcr : col < r) (hr2 : r ≤ 1000000) (hl : left ≤ 2000000) (hrg : ∀ b, inBlock rv b → b ≠ g) :
    Calls Try.prog 48 #[.pointer (some ⟨g, 0, none⟩)] W fun e w' => e = .returned (.tuple #[]) ∧ Past (fun k => k = g) W w' ∧ ((col + 1 = r ∧ ∃ rv', w'.heap[g]? = some (.cells (picCells hd sv left 0 rv') 59 (0, 0)) ∧ numsRead w' rv' rs ∧ ∀ b, inBlock rv' b → inBlock rv b) ∨ (col + 1 ≠ r ∧ w'.heap[g]? = some (.cells (picCells hd sv left (col + 1) rv) 59 (0, 0)))) := by
  obtain ⟨b, off, cap, rfl, hb, hc⟩ := listed_cell hr 0 r rfl
  have hbg : b ≠ g := hrg b ⟨off, _, cap, rfl, by simp⟩
  obtain ⟨ut, hst, hut, hin⟩ := listed_drop ints_type ints_one hr 1 (by simp)
  have hut : numsRead W ut rs := hut
  obtain ⟨uo, uc, rfl⟩ := listed_length hut
  have q2 := cell_of_block hg 2
  have q3 := cell_of_block hg 3
  have f2 := unfrozen_of_block hg 2
  obtain ⟨w1, ew1⟩ : ∃ w1, w1 = (W.setCell ⟨g, 2, none⟩ (.int .i64 (left : Int))).setCell ⟨g, 3, none⟩ (.int .i64 ((col + 1 : Nat) : Int)) := ⟨_, rfl⟩
  have h1 : w1.heap[g]? = some (.cells (picCells hd sv left (col + 1) (.slice (some ⟨b, off, none⟩) (r :: rs).length cap)) 59 (0, 0)) := by
    rw [ew1]
    exact block_setCell (block_setCell hg _) _
  have hk1 : ∀ k, k ≠ g → w1.heap[k]? = W.heap[k]? := fun k hk => by rw [ew1]; exact (Below.heap_setCell _ _ _ k hk).trans (Below.heap_setCell _ _ _ k hk)
  have hp1 : Past (fun k => k = g) W w1 := by
    rw [ew1]
    exact ⟨rfl, rfl, rfl, by simp, fun k _ hn => (Below.heap_setCell _ _ _ k hn).trans (Below.heap_setCell _ _ _ k hn)⟩
  have hc1 : w1.cell? ⟨b, off, none⟩ = some (.int .i64 (r : Int)) := (World.cell?_of_block (w := W) (a := ⟨b, off, none⟩) (hk1 b hbg)).trans (by simpa [nv] using hc)
  have hst1 : ∀ w, (Instr.slice 28 (.slice (some ⟨b, off, none⟩) (r :: rs).length cap) (some (.int .i64 1)) none none).run Try.prog w = .ok (.slice uo rs.length uc) w := hst
  have HUT : Hid (numsRead w1 (.slice uo rs.length uc) rs) := listed_past hut hp1 (fun q hq e => hbg (by
    have := hin q hq
    obtain ⟨off', n', cap', e', _⟩ := this
    simp only [Value.slice.injEq, Option.some.injEq, Addr.mk.injEq] at e'
    rw [e'.1.1]
    exact e))
  have HP1 := Lib.hid hp1
  have H1 := Lib.hid h1
  have HIN := Lib.hid hin
  have HUG : Hid (∀ q, inBlock (.slice uo rs.length uc) q → q ≠ g) := fun q hq => hrg q (hin q hq)
  have r3 := cell_of_block h1 3
  have r4 := cell_of_block h1 4
  have f3 := unfrozen_of_block h1 3
  have f4 := unfrozen_of_block h1 4
  have hs2 : (W.setCell ⟨g, 2, none⟩ (.int .i64 (left : Int))).cell? ⟨g, 3, none⟩ = some (.int .i64 (col : Int)) := cell_of_block (block_setCell hg (.int .i64 (left : Int)) (i := 2)) 3
  have hs3 : (W.setCell ⟨g, 2, none⟩ (.int .i64 (left : Int))).frozen? ⟨g, 3, none⟩ = false := unfrozen_of_block (block_setCell hg (.int .i64 (left : Int)) (i := 2)) 3
  obtain ⟨N, eN⟩ : ∃ N, (r :: rs).length = N := ⟨_, rfl⟩
  obtain ⟨U, eU⟩ : ∃ U, rs.length = U := ⟨_, rfl⟩
  have hN : 1 ≤ N := by rw [← eN]; simp
  have hN2 : (0 : Int) < (N : Int) := by omega
  obtain ⟨L1, eL1⟩ : ∃ v, left + 1 = v := ⟨_, rfl⟩
  have hL : (L1 : Int) - 1 = (left : Int) := by omega
  have hL2 : L1 ≤ 2000001 := by omega
  have hL3 : 1 ≤ L1 := by omega
  obtain ⟨C1, eC1⟩ : ∃ v, col + 1 = v := ⟨_, rfl⟩
  have hC : (col : Int) + 1 = (C1 : Int) := by omega
  have hC2 : C1 ≤ r := by omega
  have HC1 := Lib.hid eC1
  rw [eL1] at q2
  rw [eN] at H1 hst1 r3 r4 HIN ⊢
  rw [eU] at HUT hst1 HIN HUG
  rw [eC1] at ew1 H1 r3 ⊢
  clear hg hr hut hst hrg hc h1 hk1 hp1 hin eN eL1 eC1 eU hcr hb
  by_cases hq : C1 = r
  · subst hq
    go_enter Try.func48, Try.ntmps48
    go_upto_region 2 with fail
    rw [← ew1]
    clear ew1 hs2 hs3 q2 q3 f2
    go_wp2_with fail
    go_quiet (fail)
    go_wp2_with fail
    go_region
    all_goals go_wp2_with fail
    all_goals refine bodyPost_end (v := .tuple #[]) (by simp [results, Try.results48, go_sem]) rfl ⟨rfl, ?_, .inl ⟨by first | rfl | trivial, _, ?_, ?_, HIN.out⟩⟩
    · exact ⟨HP1.out.os, HP1.out.tape, HP1.out.output, by have := HP1.out.size; simpa using this, fun k hk hn => (Below.heap_setCell _ _ _ k hn).trans ((Below.heap_setCell _ _ _ k hn).trans (HP1.out.block k hk hn))⟩
    · exact block_setCell (i := 4) (block_setCell (i := 3) (show (w1.drewN (nq + 1)).heap[g]? = _ from H1.out) (.int .i64 0)) (.slice uo U uc)
    · exact listed_kept HUT.out (Nat.le_of_eq (by simp)) (fun q hq => (Below.heap_setCell _ _ _ q (HUG.out q hq)).trans (Below.heap_setCell _ _ _ q (HUG.out q hq)))
  · have hq1 : ((C1 : Int) == (r : Int)) = false := by simp; omega
    have hq2 : decide ((C1 : Int) = (r : Int)) = false := decide_eq_false (by omega)
    have hq3 : decide (C1 = r) = false := decide_eq_false hq
    have HQ := Lib.hid hq
    clear hq
    go_enter Try.func48, Try.ntmps48
    go_upto_region 2 with fail
    rw [← ew1]
    clear ew1 hs2 hs3 q2 q3 f2
    go_wp2_with fail
    go_quiet (fail)
    go_wp2_with fail
    refine bodyPost_end (v := .tuple #[]) (by simp [results, Try.results48, go_sem]) rfl ⟨rfl, ⟨HP1.out.os, HP1.out.tape, HP1.out.output, HP1.out.size, HP1.out.block⟩, .inr ⟨HQ.out, H1.out⟩⟩
/-- A picture that is under way: its block, the rows that are left, the stream. -/
structure Pic (w : World) (g : Nat) (hd sv rv : Value) (col : Nat) (rs : List Nat) (fl : List Bool) (all : List Nat) (begun : Bool) (OZ : Nat → Prop) : Prop where
  own : w.heap[g]? = some (.cells (picCells hd sv fl.length col rv) 59 (0, 0))
  rows : numsRead w rv rs
  rvF : ∀ b, inBlock rv b → b ≠ g ∧ ¬ OZ b
  rem : remFlags col rs = fl
  pos : ∀ r ∈ rs, 0 < r ∧ r ≤ 1000000
  here : ∀ r rs', rs = r :: rs' → col < r
  zw : isZW w sv all begun OZ
  nog : ¬ OZ g
  few : fl.length ≤ 2000000
theorem Pic.first {w : World} {g : Nat} {hd sv rv : Value} {col : Nat} {rs : List Nat} {f : Bool} {fl : List Bool} {all : List Nat} {begun : Bool} {OZ : Nat → Prop} (h : Pic w g hd sv rv col rs (f :: fl) all begun OZ) :
    ∃ r rs', rs = r :: rs' ∧ f = decide (col = 0) ∧ fl = (if col + 1 = r then remFlags 0 rs' else remFlags (col + 1) (r :: rs')) := by
  match rs, h.rem, h.here with
  | [], hr, _ => cases hr
  | r :: rs', hr, hh =>
    rw [rem_next col r rs' (hh r rs' rfl)] at hr
    simp only [List.cons.injEq] at hr
    exact ⟨r, rs', rfl, hr.1.symm, hr.2.symm⟩
theorem rem_none {rs : List Nat} (hp : ∀ r ∈ rs, 0 < r) (h : remFlags 0 rs = []) : rs = [] := by
  match rs, hp, h with
  | [], _, _ => rfl
  | r :: rs, hp, h =>
    rw [rem_zero, List.flatMap_cons] at h
    have := hp r (by simp)
    match r, this with
    | r + 1, _ => simp [rowFlags] at h
/-- What a pixel's stream tells, to its end behind the last one. -/
def packedOf (begun : Bool) (all zs : List Nat) (last : Bool) : List Nat := headOf begun ++ nextOf all zs ++ (if last then restOf (all ++ zs) ++ fourOf (sumOf (all ++ zs)) else [])
def wroteOf (f : Bool) (px : List Nat) : List Nat := (if f then [0] else []) ++ px
theorem wrote_length (f : Bool) (px : List Nat) : (wroteOf f px).length ≤ px.length + 1 := by
  unfold wroteOf
  cases f <;> simp
theorem packed_length (begun : Bool) (all zs : List Nat) (last : Bool) (h : (all ++ zs).length ≤ 100000000) : (packedOf begun all zs last).length ≤ 400000010 := by
  unfold packedOf
  have h1 := headOf_two begun
  have h2 := nextOf_length all zs h
  have h3 := restOf_length (all ++ zs) h
  cases last with
  | true =>
    simp only [List.length_append, if_pos, fourOf_length]
    omega
  | false =>
    simp only [List.length_append, Bool.false_eq_true, if_false, List.length_nil]
    omega
theorem block_fresh {w : World} {vals : Array Value} {zs : List Nat} {n : Nat} (ty : TypeId) (c3 : vals.toList = zs.map byteVal) (c4 : zs.length = n) :
    bytesIn (w.alloc (.cells vals ty)) (.slice (some ⟨w.heap.size, 0, none⟩) n n) zs ∧ (∀ b, inBlock (.slice (some ⟨w.heap.size, 0, none⟩) n n) b → w.heap.size ≤ b) ∧ Below w.heap.size w (w.alloc (.cells vals ty)) := by
  subst c4
  refine ⟨.inr ⟨w.heap.size, 0, zs.length, rfl, ?_, Nat.le_refl _, fun j z hj => ?_⟩, fun b hb => ?_, (Below.refl _ _).alloc (Nat.le_refl _) _⟩
  · show _ < (w.heap.push _).size
    simp
  · rw [Nat.zero_add, cell_of_block (heap_alloc_new w _) j, ← Array.getElem?_toList, c3, List.getElem?_map, hj]
    rfl
  · obtain ⟨off, m, cap, e, _⟩ := hb
    simp only [Value.slice.injEq, Option.some.injEq, Addr.mk.injEq] at e
    obtain ⟨⟨rfl, _⟩, _⟩ := e
    exact Nat.le_refl _
theorem nums_lt {w : World} {v : Value} {ns : List Nat} (h : numsRead w v ns) {b : Nat} (hb : inBlock v b) : b < w.heap.size := by
  obtain ⟨off, n, cap, rfl, hn⟩ := hb
  rcases h with ⟨⟨o, c', h, _⟩, _⟩ | ⟨b', off', cap', h, hlt, _⟩
  · simp only [Value.slice.injEq] at h
    omega
  · simp only [Value.slice.injEq, Option.some.injEq, Addr.mk.injEq] at h
    obtain ⟨⟨rfl, _⟩, _⟩ := h
    exact hlt
theorem alloc_size (w : World) (o : Obj) : (w.alloc o).heap.size = w.heap.size + 1 := by
  show (w.heap.push _).size = _
  simp
/-- A picture stays what it is, where its blocks do. -/
theorem Pic.keep {w w' : World} {g : Nat} {hd sv rv : Value} {col : Nat} {rs : List Nat} {fl : List Bool} {all : List Nat} {begun : Bool} {OZ : Nat → Prop} (h : Pic w g hd sv rv col rs fl all begun OZ) (hs : w.heap.size ≤ w'.heap.size) (hg : w'.heap[g]? = w.heap[g]?) (hz : ∀ k, OZ k → w'.heap[k]? = w.heap[k]?) (hr : ∀ k, inBlock rv k → w'.heap[k]? = w.heap[k]?) : Pic w' g hd sv rv col rs fl all begun OZ :=
  { h with own := hg.trans h.own, rows := listed_kept h.rows hs hr, zw := isZW_keep h.zw hs hz }
theorem Pic.below {w w' : World} {g : Nat} {hd sv rv : Value} {col : Nat} {rs : List Nat} {fl : List Bool} {all : List Nat} {begun : Bool} {OZ : Nat → Prop} (h : Pic w g hd sv rv col rs fl all begun OZ) (hb : Below w.heap.size w w') : Pic w' g hd sv rv col rs fl all begun OZ :=
  h.keep hb.size (hb.block g (Array.getElem?_eq_some_iff.1 h.own).1) (fun k hk => hb.block k (isZW_lt h.zw k hk)) (fun k hk => hb.block k (nums_lt h.rows hk))
theorem zw_ptr {w : World} {v : Value} {all : List Nat} {b : Bool} {O : Nat → Prop} (h : isZW w v all b O) : ∃ p, v = .pointer p := by
  obtain ⟨h, _, _, _, _, rfl, _⟩ := h
  exact ⟨_, rfl⟩
/-- Behind the stream's Write and the count: the picture goes on. -/
theorem Pic.moved {W w w2 w3 : World} {g : Nat} {hd sv rv : Value} {col r : Nat} {rs : List Nat} {f : Bool} {fl : List Bool} {all zs : List Nat} {begun : Bool} {OZ OZ' : Nat → Prop} (h : Pic w g hd sv rv col (r :: rs) (f :: fl) all begun OZ)
    (z1 : isZW w2 sv (all ++ zs) true OZ') (z2 : ∀ b, OZ' b → OZ b ∨ w.heap.size ≤ b) (z3 : Past OZ w w2) (m1 : Past (fun k => k = g) w2 w3)
    (m2 : (col + 1 = r ∧ ∃ rv', w3.heap[g]? = some (.cells (picCells hd sv fl.length 0 rv') 59 (0, 0)) ∧ numsRead w3 rv' rs ∧ ∀ b, inBlock rv' b → inBlock rv b) ∨ (col + 1 ≠ r ∧ w3.heap[g]? = some (.cells (picCells hd sv fl.length (col + 1) rv) 59 (0, 0)))) :
    ∃ rv' col' rs', Pic w3 g hd sv rv' col' rs' fl (all ++ zs) true OZ' ∧ ∀ b, inBlock rv' b → inBlock rv b := by
  obtain ⟨r0, rs0, e0, ef, efl⟩ := h.first
  simp only [List.cons.injEq] at e0
  obtain ⟨rfl, rfl⟩ := e0
  have hg := (Array.getElem?_eq_some_iff.1 h.own).1
  have hng : ¬ OZ' g := fun ho => (z2 g ho).elim h.nog (fun h' => by omega)
  have hz3 : isZW w3 sv (all ++ zs) true OZ' := isZW_keep z1 m1.size (fun k hk => m1.block k (isZW_lt z1 k hk) (fun e => hng (e ▸ hk)))
  have hrv : ∀ b, inBlock rv b → b ≠ g ∧ ¬ OZ' b := fun b hb => ⟨(h.rvF b hb).1, fun ho => (z2 b ho).elim (h.rvF b hb).2 (fun h' => by have := nums_lt h.rows hb; omega)⟩
  have hfew : fl.length ≤ 2000000 := by have := h.few; rw [List.length_cons] at this; omega
  rcases m2 with ⟨hc, rv', k1, k2, k3⟩ | ⟨hc, k1⟩
  · rw [if_pos hc] at efl
    exact ⟨rv', 0, rs, ⟨k1, k2, fun b hb => hrv b (k3 b hb), efl.symm, fun q hq => h.pos q (by simp [hq]), fun q rs' e => (h.pos q (by rw [e]; simp)).1, hz3, hng, hfew⟩, k3⟩
  · rw [if_neg hc] at efl
    refine ⟨rv, col + 1, r :: rs, ⟨k1, ?_, hrv, efl.symm, h.pos, fun q rs' e => ?_, hz3, hng, hfew⟩, fun b hb => hb⟩
    · exact listed_past (listed_past h.rows z3 (fun b hb => (h.rvF b hb).2)) m1 (fun b hb => (h.rvF b hb).1)
    · have h1 := h.here r rs rfl
      simp only [List.cons.injEq] at e
      obtain ⟨rfl, _⟩ := e
      omega
abbrev px4 (a b c d : Nat) : Array Value := #[.int .u8 (a : Int), .int .u8 (b : Int), .int .u8 (c : Int), .int .u8 (d : Int)]
/-- What pack leaves. -/
def Packed (W : World) (g : Nat) (hd sv rv : Value) (f : Bool) (fl : List Bool) (all zs : List Nat) (begun : Bool) (OZ : Nat → Prop) (e : Ending) (w' : World) : Prop :=
  ∃ o n c rv' col' rs' OZ', e = .returned (.slice o n c) ∧ (packedOf begun all zs fl.isEmpty).length = n ∧ bytesIn w' (.slice o n c) (packedOf begun all zs fl.isEmpty) ∧ (if fl = [] then w'.heap[g]? = some (.cells (picCells hd sv 0 col' rv') 59 (0, 0)) else Pic w' g hd sv rv' col' rs' fl (all ++ zs) true OZ') ∧ (∀ b, inBlock rv' b → inBlock rv b) ∧ (∀ b, OZ' b → OZ b ∨ W.heap.size ≤ b) ∧ Past (fun k => k = g ∨ OZ k) W w' ∧ ∀ b, OZ' b → b < w'.heap.size
set_option maxHeartbeats 4000000 in
set_option maxRecDepth 100000 in
theorem pack_code (g : Nat) (hd sv rv : Value) (col : Nat) (rs : List Nat) (f : Bool) (fl : List Bool) (all : List Nat) (begun : Bool) (OZ : Nat → Prop) (a b c d : Nat) (W : World) (hP : Pic W g hd sv rv col rs (f :: fl) all begun OZ) (h8 : ∀ x ∈ all ++ wroteOf f [a, b, c, d], x < 256) (hl : (all ++ wroteOf f [a, b, c, d]).length ≤ 100000000) :
    Calls Try.prog 31 #[.pointer (some ⟨g, 0, none⟩), .agg (px4 a b c d)] W (Packed W g hd sv rv f fl all (wroteOf f [a, b, c, d]) begun OZ) := by
  obtain ⟨r, rs', rfl, ef, efl⟩ := hP.first
  have hcr := hP.here r rs' rfl
  have hr2 := (hP.pos r (by simp)).2
  obtain ⟨hrow8, hrowF, hrowB⟩ := block_fresh (w := W) (vals := px4 a b c d) (zs := [a, b, c, d]) (n := 4) 39 rfl rfl
  have q3 := cell_of_block hP.own 3
  have hlt := (Array.getElem?_eq_some_iff.1 hP.own).1
  obtain ⟨w1, ew1⟩ : ∃ w1, w1 = W.alloc (.cells (px4 a b c d) 39) := ⟨_, rfl⟩
  rw [← ew1] at hrow8 hrowB
  have p3 : w1.cell? ⟨g, 3, none⟩ = some (.int .i64 (col : Int)) := cell_of_block ((hrowB.block g hlt).trans hP.own) 3
  have HP := Lib.hid hP
  have HEF := Lib.hid (And.intro ef efl)
  have HR8 := Lib.hid (And.intro hrow8 (And.intro hrowF hrowB))
  have H8 := Lib.hid h8
  have HL := Lib.hid hl
  obtain ⟨zs, ezs⟩ : ∃ zs, wroteOf f [a, b, c, d] = zs := ⟨_, rfl⟩
  have HZ := Lib.hid ezs
  have hzl : zs.length ≤ 5 := by rw [← ezs]; exact wrote_length f _
  have hzl2 : 4 ≤ zs.length := by rw [← ezs]; unfold wroteOf; simp
  obtain ⟨N, eN⟩ : ∃ N, zs.length = N := ⟨_, rfl⟩
  have HN := Lib.hid eN
  rw [ezs] at H8 HL ⊢
  rw [eN] at hzl hzl2
  clear hP ef efl hrow8 hrowF hrowB h8 hl ezs eN
  go_enter Try.func31, Try.ntmps31
  go_upto_if 15 with fail
  rw [← ew1]
  clear ew1
  go_cut [5] (fun s5 wx => ∃ (o : Option Addr) (c : Nat), s5 = .slice o N c ∧ Hid (bytesIn wx (.slice o N c) zs ∧ (∀ b, inBlock (.slice o N c) b → W.heap.size ≤ b) ∧ Below W.heap.size W wx))
  case first =>
    by_cases hc0 : col = 0
    · have d1 : ((col : Int) == 0) = true := by simp; omega
      have d2 : decide ((col : Int) = 0) = true := decide_eq_true (by omega)
      have ez : zs = [0] ++ [a, b, c, d] := by
        rw [← HZ.out, HEF.out.1, decide_eq_true hc0]
        rfl
      have hN5 : N = 5 := by rw [← HN.out, ez]; rfl
      subst hN5
      have HL1 : Hid (bytesIn (w1.alloc (.cells #[.int .u8 0] 5)) (.slice (some ⟨w1.heap.size, 0, none⟩) 1 1) [0] ∧ bytesIn (w1.alloc (.cells #[.int .u8 0] 5)) (.slice (some ⟨W.heap.size, 0, none⟩) 4 4) [a, b, c, d] ∧ Below W.heap.size W (w1.alloc (.cells #[.int .u8 0] 5))) := by
        obtain ⟨h1, _, h3⟩ := block_fresh (w := w1) (vals := #[.int .u8 0]) (zs := [0]) (n := 1) 5 rfl rfl
        exact ⟨h1, listed_on HR8.out.1 h3, HR8.out.2.2.trans (h3.mono HR8.out.2.2.size)⟩
      have HEZ := Lib.hid ez
      clear ez hc0
      obtain ⟨wA, ewA⟩ : ∃ wA, wA = (w1.alloc (.cells #[.int .u8 0] 5)).alloc (.cells #[.slice (some ⟨w1.heap.size, 0, none⟩) 1 1, .slice (some ⟨W.heap.size, 0, none⟩) 4 4] 36) := ⟨_, rfl⟩
      have HLS : Hid (listsIn wA (.slice (some ⟨w1.heap.size + 1, 0, none⟩) 2 2) [[0], [a, b, c, d]] ∧ Below W.heap.size W wA) := by
        have h1 := lists_two HL1.out.1 HL1.out.2.1
        rw [alloc_size, ← ewA] at h1
        refine ⟨h1, ?_⟩
        rw [ewA]
        exact HL1.out.2.2.alloc HL1.out.2.2.size _
      have KCC := concats_code _ [[0], [a, b, c, d]] _ HLS.out.1 (by simp) (by simp)
      rw [ewA] at KCC
      go_wp2_with fail
      go_at_call 33
      refine KCC.mono ?_
      clear KCC
      rintro e w3 ⟨u3, rfl, k1, k2, k3, k4⟩
      rw [← ewA] at k2 k3
      have e3 : ([[0], [a, b, c, d]] : List (List Nat)).flatten = zs := by rw [HEZ.out]; rfl
      rw [e3] at k1
      obtain ⟨uo, uc, rfl⟩ := listed_length k1
      rw [HN.out] at k1 k2 ⊢
      have hs0 := HLS.out.2.size
      have HU : Hid (bytesIn w3 (.slice uo 5 uc) zs ∧ (∀ b, inBlock (.slice uo 5 uc) b → W.heap.size ≤ b) ∧ Below W.heap.size W w3) := ⟨k1, fun b hb => Nat.le_trans hs0 (k2 b hb), HLS.out.2.trans (k3.mono hs0)⟩
      clear k1 k2 k3 k4 e3 hs0
      go_wp2_with fail
      go_meet
      exact ⟨_, _, rfl, HU.out⟩
    · have d1 : ((col : Int) == 0) = false := by simp; omega
      have d2 : decide ((col : Int) = 0) = false := decide_eq_false (by omega)
      have ez : zs = [a, b, c, d] := by
        rw [← HZ.out, HEF.out.1, decide_eq_false hc0]
        rfl
      have hN4 : N = 4 := by rw [← HN.out, ez]; rfl
      subst hN4
      have HEZ := Lib.hid ez
      clear ez
      go_wp2_with fail
      go_meet
      exact ⟨_, _, rfl, by rw [HEZ.out]; exact HR8.out.1, HR8.out.2.1, HR8.out.2.2⟩
  case rest =>
    obtain ⟨so, sc, rfl, HS⟩ := hcut
    have HP1 : Hid (Pic wc g hd sv rv col (r :: rs') (f :: fl) all begun OZ) := HP.out.below (HS.out.2.2.mono (Nat.le_refl _))
    obtain ⟨va, rfl⟩ := zw_ptr HP1.out.zw
    have q1 := cell_of_block HP1.out.own 1
    have KW := zwrite_code wc (.pointer va) (.slice so N sc) all zs begun OZ HP1.out.zw HS.out.1 H8.out (fun b hb ho => by
      have h1 := HS.out.2.1 b hb
      have h2 := isZW_lt HP.out.zw b ho
      omega) HL.out
    have HSB := Lib.hid HS.out.2.2
    clear HR8 p3 q3 HS
    go_wp2_with fail
    go_at_call 47
    refine KW.mono ?_
    clear KW
    rintro e w2 ⟨u, OZ', rfl, j1, j2, j3, j4, j5, _, _⟩
    obtain ⟨uo, uc, eu⟩ := listed_length j1
    subst eu
    have hgW := (Array.getElem?_eq_some_iff.1 HP1.out.own).1
    have KM := moveOn_code g fl.length col r rs' hd (.pointer va) rv w2 ((j5.block g hgW HP1.out.nog).trans HP1.out.own) (listed_past HP1.out.rows j5 (fun b hb => (HP1.out.rvF b hb).2)) hcr hr2 (by have := HP1.out.few; rw [List.length_cons] at this; omega) (fun b hb => (HP1.out.rvF b hb).1)
    have HJ1 := Lib.hid j1
    have HJ2 := Lib.hid j2
    have HJ3 := Lib.hid j3
    have HJ4 := Lib.hid j4
    have HJ5 := Lib.hid j5
    have hxl := nextOf_length all zs HL.out
    have hhl := headOf_two begun
    obtain ⟨X, eX⟩ : ∃ n, (headOf begun ++ nextOf all zs).length = n := ⟨_, rfl⟩
    have HX := Lib.hid eX
    rw [eX] at HJ1 HJ2 ⊢
    have hX : X ≤ 200000002 := by rw [← eX, List.length_append]; omega
    clear j1 j2 j3 j4 j5 q1 eX hxl hhl
    go_wp2_with fail
    go_at_call 48
    refine KM.mono ?_
    clear KM
    rintro e w3 ⟨rfl, m1, m2⟩
    obtain ⟨rv', col', rs2, hP3, hin⟩ := HP1.out.moved (W := W) HJ3.out HJ4.out HJ5.out m1 m2
    have HP3 := Lib.hid hP3
    have HIN := Lib.hid hin
    have HU3 : Hid (bytesIn w3 (.slice uo X uc) (headOf begun ++ nextOf all zs)) := listed_past HJ1.out m1 (fun b hb e => by have := (HJ2.out b hb).1; omega)
    have HPA : Hid (Past (fun k => k = g ∨ OZ k) W w3) := by
      have h1 : Past (fun k => k = g ∨ OZ k) wc w2 := past_more HJ5.out (fun k hk => .inr hk)
      have h2 : Past (fun k => k = g ∨ OZ k) wc w3 := h1.trans m1 (fun b hb => .inl (.inl hb))
      exact (Past.of_below HSB.out : Past (fun k => k = g ∨ OZ k) W wc).trans h2 (fun b hb => .inl hb)
    have HSUB : Hid (∀ b, OZ' b → OZ b ∨ W.heap.size ≤ b) := fun b hb => (HJ4.out b hb).imp id (fun h => Nat.le_trans HSB.out.size h)
    have q1 := cell_of_block hP3.own 1
    have q2 := cell_of_block hP3.own 2
    have HFU : Hid (∀ b, inBlock (.slice uo X uc) b → ¬ OZ' b) := fun b hb => (HJ2.out b hb).2
    clear m1 m2 hin hP3 HP1 HJ1 HJ2 HJ3 HJ4 HJ5 hgW hcr hr2 hzl hzl2 HEF HP HZ
    cases fl with
    | cons f2 fl2 =>
      have h0 : (0 : Int) < ((f2 :: fl2).length : Int) := by rw [List.length_cons]; omega
      have HPK : Hid (packedOf begun all zs (f2 :: fl2).isEmpty = headOf begun ++ nextOf all zs) := by
        show _ = _
        unfold packedOf
        rw [List.isEmpty_cons, if_neg (by decide), List.append_nil]
      obtain ⟨Lf, eLf⟩ : ∃ v, (f2 :: fl2).length = v := ⟨_, rfl⟩
      rw [eLf] at q2 h0
      have d1 : decide ((0 : Int) < (Lf : Int)) = true := decide_eq_true h0
      clear eLf
      go_wp2_with fail
      go_ret
      exact ⟨uo, X, uc, rv', col', rs2, OZ', rfl, by rw [HPK.out]; exact HX.out, by rw [HPK.out]; exact HU3.out, by rw [if_neg (by simp)]; exact HP3.out, HIN.out, HSUB.out, HPA.out, fun b hb => isZW_lt HP3.out.zw b hb⟩
    | nil =>
      have d1 : decide ((0 : Int) < (([] : List Bool).length : Int)) = false := by decide
      have KE := zend_code w3 (.pointer va) (all ++ zs) true OZ' HP3.out.zw H8.out HL.out
      go_wp2_with fail
      go_at_call 49
      refine KE.mono ?_
      clear KE
      rintro e w4 ⟨u4, O4, rfl, k1, _, _, k4, k5⟩
      have k1 : bytesIn w4 u4 (restOf (all ++ zs) ++ fourOf (sumOf (all ++ zs))) := k1
      obtain ⟨yo, yc, ey⟩ := listed_length k1
      subst ey
      have HY := Lib.hid k1
      have HU4 : Hid (bytesIn w4 (.slice uo X uc) (headOf begun ++ nextOf all zs)) := listed_past HU3.out k5 HFU.out
      have HG4 : Hid (w4.heap[g]? = some (.cells (picCells hd (.pointer va) 0 col' rv') 59 (0, 0))) := (k5.block g (Array.getElem?_eq_some_iff.1 HP3.out.own).1 HP3.out.nog).trans HP3.out.own
      have HPB : Hid (Past (fun k => k = g ∨ OZ k) W w4) := HPA.out.trans k5 (fun b hb => (HSUB.out b hb).imp .inr id)
      have hyl := restOf_length (all ++ zs) HL.out
      obtain ⟨Y, eY⟩ : ∃ n, (restOf (all ++ zs) ++ fourOf (sumOf (all ++ zs))).length = n := ⟨_, rfl⟩
      have hY : Y ≤ 200000004 := by rw [← eY, List.length_append, fourOf_length]; omega
      have HEY := Lib.hid eY
      rw [eY] at HY ⊢
      have hflt : [headOf begun ++ nextOf all zs, restOf (all ++ zs) ++ fourOf (sumOf (all ++ zs))].flatten = packedOf begun all zs ([] : List Bool).isEmpty := by
        unfold packedOf
        rw [List.isEmpty_nil, if_pos rfl]
        simp
      have HFL := Lib.hid hflt
      have HLN : Hid ((packedOf begun all zs ([] : List Bool).isEmpty).length = X + Y) := by
        show _ = _
        rw [← hflt]
        simp only [List.flatten_cons, List.flatten_nil, List.append_nil]
        rw [List.length_append, HX.out, eY]
      have HOL : Hid (∀ b, OZ' b → b < w4.heap.size) := fun b hb => Nat.lt_of_lt_of_le (isZW_lt HP3.out.zw b hb) k5.size
      clear k1 k4 k5 hyl eY hflt q1 q2 HP3 HPA HU3 HFU
      go_wp2_with fail
      go_at_call 33
      refine (concats_code _ [headOf begun ++ nextOf all zs, restOf (all ++ zs) ++ fourOf (sumOf (all ++ zs))] _ (lists_two HU4.out HY.out) (by rw [HFL.out, HLN.out]; omega) (by simp)).mono ?_
      rintro e w5 ⟨u5, rfl, k1, _, k3, _⟩
      rw [HFL.out] at k1
      obtain ⟨o5, c5, e5⟩ := listed_length k1
      rw [HLN.out] at e5
      subst e5
      have hsz : w4.heap.size ≤ (w4.alloc (.cells #[.slice uo X uc, .slice yo Y yc] 36)).heap.size := by show _ ≤ (w4.heap.push _).size; simp
      have hb5 : Below w4.heap.size w4 w5 := (below_alloc1 w4 _).trans (k3.mono hsz)
      have HB5 := Lib.hid hb5
      have HK1 := Lib.hid k1
      clear k1 k3 hsz hb5
      generalize X + Y = Z at *
      go_wp2_with fail
      go_ret
      exact ⟨o5, Z, c5, rv', col', rs2, OZ', rfl, HLN.out, HK1.out, by rw [if_pos rfl]; exact (HB5.out.block g (Array.getElem?_eq_some_iff.1 HG4.out).1).trans HG4.out, HIN.out, HSUB.out, past_on HPB.out HB5.out, fun b hb => Nat.lt_of_lt_of_le (HOL.out b hb) HB5.out.size⟩
end Go.Proofs.Ytefdlidjdmlnaaa.Fx
