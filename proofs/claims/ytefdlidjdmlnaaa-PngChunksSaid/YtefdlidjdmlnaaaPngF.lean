/-
  An encoder, as landed: New, Left, Put; one that New did not make. The conditions stand in each.
-/
import Derived.Test.YtefdlidjdmlnaaaPngE
import Derived.StillTailTactics
namespace Go.Proofs.Ytefdlidjdmlnaaa.Fx
open Go Go.RowKit Go.Joins
set_option linter.unusedVariables false
def ownE (h g : Nat) (hd rv : Value) (OZ : Nat → Prop) : Nat → Prop := fun k => k = h ∨ k = g ∨ hd.ownBlock = some k ∨ inBlock rv k ∨ OZ k
/-- An encoder under way: its box, its picture, the head that did not go out yet. -/
structure Enc (w : World) (h g : Nat) (hd sv rv : Value) (col : Nat) (rs : List Nat) (hs : List Nat) (fl : List Bool) (all : List Nat) (begun : Bool) (OZ : Nat → Prop) : Prop where
  box : w.heap[h]? = some (.cells #[.pointer (some ⟨g, 0, none⟩)] 44 (0, 0))
  pic : Pic w g hd sv rv col rs fl all begun OZ
  head : w.ownsRow 0 5 1 hd hs.length (hs.map byteVal)
  hdF : ∀ k, hd.ownBlock = some k → k ≠ h ∧ k ≠ g ∧ ¬ OZ k ∧ ¬ inBlock rv k
  ne : h ≠ g
  noh : ¬ OZ h
  rvh : ¬ inBlock rv h
abbrev picZero : Array Value := #[.slice none 0 0, .pointer none, .int .i64 0, .int .i64 0, .slice none 0 0]
/-- An encoder of which these pixels are left (each: whether it begins a row), with these bytes written. -/
def isPng (w : World) (v : Value) (hs : List Nat) (fl : List Bool) (all : List Nat) (begun : Bool) (O : Nat → Prop) : Prop :=
  ∃ h g, v = .pointer (some ⟨h, 0, none⟩) ∧ ((fl ≠ [] ∧ ∃ hd sv rv col rs OZ, Enc w h g hd sv rv col rs hs fl all begun OZ ∧ O = ownE h g hd rv OZ) ∨ (fl = [] ∧ h ≠ g ∧ w.heap[h]? = some (.cells #[.pointer (some ⟨g, 0, none⟩)] 44 (0, 0)) ∧ w.heap[g]? = some (.cells picZero 59 (0, 0)) ∧ O = fun k => k = h ∨ k = g))
theorem Enc.lt {w : World} {h g : Nat} {hd sv rv : Value} {col : Nat} {rs hs : List Nat} {fl : List Bool} {all : List Nat} {begun : Bool} {OZ : Nat → Prop} (e : Enc w h g hd sv rv col rs hs fl all begun OZ) : ∀ k, ownE h g hd rv OZ k → k < w.heap.size := by
  rintro k (rfl | rfl | hk | hk | hk)
  · exact (Array.getElem?_eq_some_iff.1 e.box).1
  · exact (Array.getElem?_eq_some_iff.1 e.pic.own).1
  · exact (e.head.lt k hk).2
  · exact nums_lt e.pic.rows hk
  · exact isZW_lt e.pic.zw k hk
theorem isPng_lt {w : World} {v : Value} {hs : List Nat} {fl : List Bool} {all : List Nat} {begun : Bool} {O : Nat → Prop} (h : isPng w v hs fl all begun O) : ∀ k, O k → k < w.heap.size := by
  obtain ⟨h, g, rfl, (⟨_, hd, sv, rv, col, rs, OZ, he, rfl⟩ | ⟨_, _, h1, h2, rfl⟩)⟩ := h
  · exact he.lt
  · rintro k (rfl | rfl)
    · exact (Array.getElem?_eq_some_iff.1 h1).1
    · exact (Array.getElem?_eq_some_iff.1 h2).1
theorem Enc.keep {w w' : World} {h g : Nat} {hd sv rv : Value} {col : Nat} {rs hs : List Nat} {fl : List Bool} {all : List Nat} {begun : Bool} {OZ : Nat → Prop} (e : Enc w h g hd sv rv col rs hs fl all begun OZ) (hs' : w.heap.size ≤ w'.heap.size) (hk : ∀ k, ownE h g hd rv OZ k → w'.heap[k]? = w.heap[k]?) : Enc w' h g hd sv rv col rs hs fl all begun OZ :=
  { e with box := (hk h (.inl rfl)).trans e.box, pic := e.pic.keep hs' (hk g (.inr (.inl rfl))) (fun k ho => hk k (.inr (.inr (.inr (.inr ho))))) (fun k ho => hk k (.inr (.inr (.inr (.inl ho))))), head := owns_kept e.head (fun k ho => hk k (.inr (.inr (.inl ho)))) }
theorem isPng_keep {w w' : World} {v : Value} {hs : List Nat} {fl : List Bool} {all : List Nat} {begun : Bool} {O : Nat → Prop} (h : isPng w v hs fl all begun O) (hs' : w.heap.size ≤ w'.heap.size) (hk : ∀ k, O k → w'.heap[k]? = w.heap[k]?) : isPng w' v hs fl all begun O := by
  obtain ⟨h, g, rfl, (⟨h0, hd, sv, rv, col, rs, OZ, he, rfl⟩ | ⟨h0, hne, h1, h2, rfl⟩)⟩ := h
  · exact ⟨h, g, rfl, .inl ⟨h0, hd, sv, rv, col, rs, OZ, he.keep hs' hk, rfl⟩⟩
  · exact ⟨h, g, rfl, .inr ⟨h0, hne, (hk h (.inl rfl)).trans h1, (hk g (.inr rfl)).trans h2, rfl⟩⟩
theorem isPng_below {w w' : World} {v : Value} {hs : List Nat} {fl : List Bool} {all : List Nat} {begun : Bool} {O : Nat → Prop} (h : isPng w v hs fl all begun O) (hb : Below w.heap.size w w') : isPng w' v hs fl all begun O :=
  isPng_keep h hb.size (fun k hk => hb.block k (isPng_lt h k hk))
/-- An encoder that New did not make. -/
def noPng (w : World) (v : Value) : Prop := v = .pointer none ∨ ∃ h, v = .pointer (some ⟨h, 0, none⟩) ∧ w.cell? ⟨h, 0, none⟩ = some (.pointer none)
set_option maxHeartbeats 1000000 in
set_option maxRecDepth 100000 in
theorem left_code (W : World) (v : Value) (hs : List Nat) (fl : List Bool) (all : List Nat) (begun : Bool) (O : Nat → Prop) (hP : isPng W v hs fl all begun O) :
    Calls Try.prog 12 #[v] W fun e w' => e = .returned (.int .i64 (fl.length : Int)) ∧ W = w' := by
  obtain ⟨h, g, rfl, (⟨h0, hd, sv, rv, col, rs, OZ, he, rfl⟩ | ⟨rfl, hne, h1, h2, rfl⟩)⟩ := hP
  · have q0 := cell_of_block he.box 0
    have q2 := cell_of_block he.pic.own 2
    obtain ⟨n, en⟩ : ∃ n, fl.length = n := ⟨_, rfl⟩
    rw [en] at q2 ⊢
    clear he h0 en
    go_enter Try.func12, Try.ntmps12
    go_wp2_with fail
    go_ret
    exact ⟨rfl, rfl⟩
  · have q0 := cell_of_block h1 0
    have q2 := cell_of_block h2 2
    clear h1 h2
    go_enter Try.func12, Try.ntmps12
    go_wp2_with fail
    go_ret
    exact ⟨rfl, rfl⟩
set_option maxHeartbeats 1000000 in
set_option maxRecDepth 100000 in
theorem leftNone_code (W : World) (v : Value) (hP : noPng W v) :
    Calls Try.prog 12 #[v] W fun e w' => e = .returned (.int .i64 0) ∧ W = w' := by
  rcases hP with rfl | ⟨h, rfl, q0⟩
  · go_enter Try.func12, Try.ntmps12
    go_wp2_with fail
    go_ret
    exact ⟨rfl, rfl⟩
  · go_enter Try.func12, Try.ntmps12
    go_wp2_with fail
    go_ret
    exact ⟨rfl, rfl⟩
set_option maxHeartbeats 1000000 in
set_option maxRecDepth 100000 in
theorem putNone_code (W : World) (v : Value) (a b c d : Nat) (hP : noPng W v) :
    Calls Try.prog 17 #[v, .agg (px4 a b c d)] W fun e w' => e = .returned (.tuple #[.slice none 0 0, .int .i64 1]) ∧ Hid (Below W.heap.size W w') := by
  rcases hP with rfl | ⟨h, rfl, q0⟩
  · go_enter Try.func17, Try.ntmps17
    go_wp2_with fail
    refine bodyPost_ret (v := .tuple #[.slice none 0 0, .int .i64 1]) (by simp [results, Try.results17, asAddr, go_sem]) rfl ⟨rfl, below_alloc1 _ _⟩
  · have hlt := World.block_lt_of_cell? W ⟨h, 0, none⟩ q0
    have q1 : ∀ o, (W.alloc o).cell? ⟨h, 0, none⟩ = some (.pointer none) := fun o => ((below_alloc1 W o).cell hlt).trans q0
    go_enter Try.func17, Try.ntmps17
    go_wp2_with fail
    refine bodyPost_ret (v := .tuple #[.slice none 0 0, .int .i64 1]) (by simp [results, Try.results17, asAddr, go_sem]) rfl ⟨rfl, below_alloc1 _ _⟩
set_option maxHeartbeats 1000000 in
set_option maxRecDepth 100000 in
theorem putOver_code (W : World) (v : Value) (hs : List Nat) (all : List Nat) (begun : Bool) (O : Nat → Prop) (a b c d : Nat) (hP : isPng W v hs [] all begun O) :
    Calls Try.prog 17 #[v, .agg (px4 a b c d)] W fun e w' => e = .returned (.tuple #[.slice none 0 0, .int .i64 23]) ∧ Hid (Below W.heap.size W w') := by
  obtain ⟨h, g, rfl, (⟨h0, _⟩ | ⟨_, hne, h1, h2, rfl⟩)⟩ := hP
  · exact absurd rfl h0
  · obtain ⟨w1, ew1⟩ : ∃ w1, w1 = W.alloc (.cells (px4 a b c d) 39) := ⟨_, rfl⟩
    have hb : Below W.heap.size W w1 := by rw [ew1]; exact below_alloc1 _ _
    have q0 := cell_of_block ((hb.block h (Array.getElem?_eq_some_iff.1 h1).1).trans h1) 0
    have q2 := cell_of_block ((hb.block g (Array.getElem?_eq_some_iff.1 h2).1).trans h2) 2
    have HB := Lib.hid hb
    clear h1 h2 hb
    go_enter Try.func17, Try.ntmps17
    go_upto_region 1 with fail
    rw [← ew1]
    clear ew1
    go_wp2_with fail
    refine bodyPost_ret (v := .tuple #[.slice none 0 0, .int .i64 23]) (by simp [results, Try.results17, asAddr, go_sem]) rfl ⟨rfl, HB.out⟩
set_option maxHeartbeats 2000000 in
set_option maxRecDepth 100000 in
/-- New of sizes that may not be. -/
theorem pnew_none (a b : Int) (W : World) (hn : ¬ (1 ≤ a ∧ a ≤ 1024 ∧ 1 ≤ b ∧ b ≤ 1024)) :
    Calls Try.prog 10 #[.int .i64 a, .int .i64 b] W fun e w' => e = .returned (.tuple #[.pointer none, .int .i64 2]) ∧ W = w' := by
  have KM := mayBe_code a b W
  rw [decide_eq_false hn] at KM
  clear hn
  go_enter Try.func10, Try.ntmps10
  go_wp2_with fail
  go_at_call 20
  refine KM.mono ?_
  rintro e w1 ⟨rfl, rfl⟩
  clear KM
  go_wp2_with fail
  refine bodyPost_ret (v := .tuple #[.pointer none, .int .i64 2]) (by simp [results, Try.results10, asAddr, go_sem]) rfl ⟨rfl, rfl⟩
theorem lane_few (n s a : Nat) (ha : 0 < a) : laneLen n s a ≤ n + a := by
  unfold laneLen
  exact Nat.le_trans (Nat.div_le_self _ _) (by omega)
theorem rowCount_most {w h n : Nat} (hn : n ∈ rowCounts w h) : n ≤ w + 8 := by
  have h1 := (List.mem_filter.1 hn).1
  obtain ⟨r, hr, rfl⟩ := List.mem_map.1 h1
  have h2 := (by decide +kernel : ∀ p ∈ passes, 0 < p.a ∧ p.a ≤ 8) r.1 (rows_ok hr).1
  have := lane_few w r.1.x r.1.a h2.1
  omega
theorem enc_new {W w1 w2 w3 w' : World} {w h M : Nat} {o1 : Option Addr} {c1 : Nat} {va : Option Addr} {OZ : Nat → Prop} {o3 : Option Addr} {n3 c3 : Nat} (hw : w ≤ 1024) (hM1 : 1 ≤ M) (hM : w * h = M) (hMb : M ≤ 1048576)
    (h1 : w1.ownsRow W.heap.size 5 1 (.slice o1 33 c1) 33 ((pngHeadOf w h).map byteVal)) (b1 : Below W.heap.size W w1) (z1 : isZW w2 (.pointer va) [] false OZ) (z2 : ∀ k, OZ k → w1.heap.size ≤ k) (z3 : Below w1.heap.size w1 w2)
    (r1 : numsOwned w2 w3 (.slice o3 n3 c3) (rowCounts w h)) (b3 : Below w2.heap.size w2 w3)
    (e : w' = (w3.alloc (.cells (picCells (.slice o1 33 c1) (.pointer va) M 0 (.slice o3 n3 c3)) 59)).alloc (.cells #[.pointer (some ⟨w3.heap.size, 0, none⟩)] 44)) :
    ∃ O, isPng w' (.pointer (some ⟨w3.heap.size + 1, 0, none⟩)) (pngHeadOf w h) (flagsOf w h) [] false O ∧ (∀ k, O k → W.heap.size ≤ k) ∧ Below W.heap.size W w' := by
  have s1 := b1.size
  have s2 := z3.size
  have s3 := b3.size
  have hnew : w'.heap[w3.heap.size]? = some (.cells (picCells (.slice o1 33 c1) (.pointer va) M 0 (.slice o3 n3 c3)) 59 (0, 0)) := by
    rw [e]
    exact alloc_old (heap_alloc_new w3 _)
  have hbox : w'.heap[w3.heap.size + 1]? = some (.cells #[.pointer (some ⟨w3.heap.size, 0, none⟩)] 44 (0, 0)) := by
    rw [e, ← alloc_size w3 (.cells (picCells (.slice o1 33 c1) (.pointer va) M 0 (.slice o3 n3 c3)) 59)]
    exact heap_alloc_new _ _
  have hb : Below w3.heap.size w3 w' := by
    rw [e]
    exact (below_alloc1 w3 _).alloc (by rw [alloc_size]; omega) _
  have hl : (flagsOf w h).length = M := by rw [flags_length, hM]
  have hdb : ∀ k, (Value.slice o1 33 c1).ownBlock = some k → W.heap.size ≤ k ∧ k < w1.heap.size := fun k hk => h1.lt k hk
  have hzb : ∀ k, OZ k → w1.heap.size ≤ k ∧ k < w2.heap.size := fun k hk => ⟨z2 k hk, isZW_lt z1 k hk⟩
  have hrb : ∀ k, inBlock (.slice o3 n3 c3) k → w2.heap.size ≤ k ∧ k < w3.heap.size := fun k hk => by
    have hk' := own_in r1.1 k hk
    exact ⟨r1.2 k hk', (r1.1.lt k hk').2⟩
  have hrow : numsRead w3 (.slice o3 n3 c3) (rowCounts w h) := own_listed r1.1
  refine ⟨_, ⟨_, _, rfl, .inl ⟨?_, .slice o1 33 c1, .pointer va, .slice o3 n3 c3, 0, rowCounts w h, OZ, {
    box := hbox
    pic := {
      own := by rw [hl]; exact hnew
      rows := listed_on hrow hb
      rvF := fun b hb' => ⟨by have := hrb b hb'; omega, fun ho => by have := hrb b hb'; have := hzb b ho; omega⟩
      rem := by rw [rem_zero, flags_counts]
      pos := fun q hq => ⟨counts_above hq, by have := rowCount_most hq; omega⟩
      here := fun q rs' e' => counts_above (by rw [e']; simp)
      zw := isZW_keep z1 (Nat.le_trans s3 hb.size) (fun k hk => (hb.block k (by have := hzb k hk; omega)).trans (b3.block k (hzb k hk).2))
      nog := fun ho => by have := hzb _ ho; omega
      few := by rw [hl]; omega }
    head := by
      rw [head_length]
      exact ownsRow_le (owns_kept h1 (fun k hk => (hb.block k (by have := hdb k hk; omega)).trans ((b3.block k (by have := hdb k hk; omega)).trans (z3.block k (hdb k hk).2)))) (Nat.zero_le _)
    hdF := fun k hk => ⟨by have := hdb k hk; omega, by have := hdb k hk; omega, fun ho => by have := hdb k hk; have := hzb k ho; omega, fun ho => by have := hdb k hk; have := hrb k ho; omega⟩
    ne := by omega
    noh := fun ho => by have := hzb _ ho; omega
    rvh := fun ho => by have := hrb _ ho; omega }, rfl⟩⟩, ?_, ?_⟩
  · intro h0
    rw [h0] at hl
    simp at hl
    omega
  · rintro k (rfl | rfl | hk | hk | hk)
    · omega
    · omega
    · exact (hdb k hk).1
    · have := hrb k hk; omega
    · have := hzb k hk; omega
  · exact b1.trans ((z3.trans ((b3.trans (hb.mono s3)).mono s2)).mono s1)
set_option maxHeartbeats 2000000 in
set_option maxRecDepth 100000 in
theorem pnew_code (w h : Nat) (W : World) (hw1 : 1 ≤ w) (hw : w ≤ 1024) (hh1 : 1 ≤ h) (hh : h ≤ 1024) :
    Calls Try.prog 10 #[.int .i64 (w : Int), .int .i64 (h : Int)] W fun e w' => ∃ p O, e = .returned (.tuple #[.pointer p, .int .i64 0]) ∧ Hid (isPng w' (.pointer p) (pngHeadOf w h) (flagsOf w h) [] false O) ∧ Hid (∀ k, O k → W.heap.size ≤ k) ∧ Hid (Below W.heap.size W w') := by
  obtain ⟨M, eM⟩ : ∃ M, w * h = M := ⟨_, rfl⟩
  have hM : M ≤ 1048576 := by
    have : w * h ≤ 1024 * 1024 := Nat.mul_le_mul hw hh
    omega
  have hM1 : 1 ≤ M := by rw [← eM]; exact Nat.mul_pos hw1 hh1
  have hmul : (w : Int) * (h : Int) = (M : Int) := by rw [← eM]; exact (Int.natCast_mul w h).symm
  have KM := mayBe_code (w : Int) (h : Int) W
  rw [decide_eq_true (by omega)] at KM
  have HM := Lib.hid eM
  clear eM
  go_enter Try.func10, Try.ntmps10
  go_wp2_with fail
  go_at_call 20
  refine KM.mono ?_
  rintro e w1 ⟨rfl, rfl⟩
  clear KM
  go_wp2_with fail
  go_at_call 21
  refine (head_code w h W hw hh).mono ?_
  rintro e w1 ⟨o1, c1, rfl, HR1, HB1⟩
  go_wp2_with fail
  go_at_call 22
  refine (znew_code w1).mono ?_
  rintro e w2 ⟨va, OZ, rfl, k1, k2, k3⟩
  have HZ2 := Lib.hid (And.intro k1 (And.intro k2 k3))
  clear k1 k2 k3
  go_wp2_with fail
  go_at_call 23
  refine (rows_code w h w2 hw hh).mono ?_
  rintro e w3 ⟨o3, n3, c3, rfl, HN3, HR3, HB3⟩
  go_wp2_with fail
  refine bodyPost_ret (v := .tuple #[.pointer (some ⟨w3.heap.size + 1, 0, none⟩), .int .i64 0]) (by simp [results, Try.results10, asAddr, go_sem]) rfl ?_
  obtain ⟨O, e1, e2, e3⟩ := enc_new hw hM1 HM.out hM HR1.out HB1.out HZ2.out.1 HZ2.out.2.1 HZ2.out.2.2 HR3.out HB3.out rfl
  exact ⟨_, O, rfl, e1, e2, e3⟩
end Go.Proofs.Ytefdlidjdmlnaaa.Fx
