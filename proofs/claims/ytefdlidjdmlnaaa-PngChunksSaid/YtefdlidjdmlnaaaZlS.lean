/-
  The document's own answers of layer 8. The conditions stand in each.
  The document's own writer of zlib: Write. The conditions stand in it.
-/
import Derived.Deep.RegionLaw
import Derived.Deep.RegionHeld3
import Derived.Test.YtefdlidjdmlnaaaZlC
import Derived.Test.YtefdlidjdmlnaaaDeflE
import Derived.Test.YtefdlidjdmlnaaaBitsCt
namespace Go.Proofs.Ytefdlidjdmlnaaa.Fx
open Go Go.RowKit Go.Joins
set_option linter.unusedVariables false
theorem run_append_bytes (w : World) (base : Nat) (ty : TypeId) (v : Value) (n : Nat) (xs : List Nat) (hown : w.ownsRow base 5 1 v n (xs.map byteVal)) (u : Value) (zs : List Nat) (hr : bytesIn w u zs) (hlen : n + zs.length ≤ 140737488355328) (hbase : base ≤ w.heap.size) :
    ∃ v' w', (Builtin.append_ #[36, 36] ty #[v, u]).run Try.prog w = .ok v' w' ∧ w'.ownsRow base 5 1 v' (n + zs.length) ((xs ++ zs).map byteVal) ∧ w.grownBy w' v.ownBlock := by
  obtain ⟨i0, hi, hz0, hz1, hz2⟩ := info_parts infoU8
  rcases hr with ⟨⟨q, cap, rfl, hq⟩, rfl⟩ | ⟨b, off, cap, rfl, hlt, hle, hc⟩
  · rw [List.append_nil, List.length_nil, Nat.add_zero]
    simp only [List.length_nil, Nat.add_zero] at hlen
    cases q with
    | none =>
      obtain rfl : cap = 0 := hq rfl
      exact ⟨v, w, run_append_owned_none (P := Try.prog) (w := w) base 36 ty 5 i0 1 Try.underlying36 hi v n (xs.map byteVal) hown, hown, ⟨rfl, rfl, rfl, Nat.le_refl _, fun _ _ _ => rfl⟩⟩
    | some ad =>
      obtain ⟨v', w', hrun, r1, r2, _⟩ := run_append_own (P := Try.prog) w base 36 ty 5 i0 (.int .u8 0) 1 1 Try.underlying36 hi hz0 hz1 hz2 rfl (by decide) v n (xs.map byteVal) hown ad 0 cap [] rfl (fun j u hj => by simp at hj) (fun u hu => by cases hu) (by unfold maxLen; omega) (by omega) hbase
      rw [List.append_nil] at r1
      exact ⟨v', w', hrun, r1, r2⟩
  · obtain ⟨v', w', hrun, r1, r2, _⟩ := run_append_own (P := Try.prog) w base 36 ty 5 i0 (.int .u8 0) 1 1 Try.underlying36 hi hz0 hz1 hz2 rfl (by decide) v n (xs.map byteVal) hown ⟨b, off, none⟩ zs.length cap (zs.map byteVal) (by rw [List.length_map, Nat.mul_one]) (fun j u hj => by
      rw [List.getElem?_map] at hj
      cases hzj : zs[j]? with
      | none => rw [hzj] at hj; cases hj
      | some y =>
        rw [hzj] at hj
        obtain rfl := Option.some.inj hj
        rw [Addr.add_lit]
        exact hc j y hzj) (fun u hu => by
      obtain ⟨y, _, rfl⟩ := List.mem_map.mp hu
      rfl) (by unfold maxLen; omega) (by omega) hbase
    rw [← List.map_append] at r1
    exact ⟨v', w', hrun, r1, r2⟩
set_option maxHeartbeats 1000000 in
set_option maxRecDepth 100000 in
theorem rfour_any (s : Nat) (W : World) (hs : s ≤ 4294967295) :
    Calls Try.prog 44 #[.int .u32 (s : Int)] W fun e w' => ∃ u, e = .returned u ∧ bytesIn w' u (fourOf s) ∧ (∀ b, inBlock u b → W.heap.size ≤ b) ∧ Below W.heap.size W w' := by
  obtain ⟨a, ea⟩ : ∃ a, s / 16777216 = a := ⟨_, rfl⟩
  obtain ⟨b, eb⟩ : ∃ a, s / 65536 = a := ⟨_, rfl⟩
  obtain ⟨c, ec⟩ : ∃ a, s / 256 = a := ⟨_, rfl⟩
  have h1 : (s : Int) / 16777216 = (a : Int) := by omega
  have h2 : (s : Int) / 65536 = (b : Int) := by omega
  have h3 : (s : Int) / 256 = (c : Int) := by omega
  have t1 : (s : Int).tdiv 16777216 = (a : Int) := by rw [Int.tdiv_eq_ediv_of_nonneg (by omega)]; omega
  have t2 : (s : Int).tdiv 65536 = (b : Int) := by rw [Int.tdiv_eq_ediv_of_nonneg (by omega)]; omega
  have t3 : (s : Int).tdiv 256 = (c : Int) := by rw [Int.tdiv_eq_ediv_of_nonneg (by omega)]; omega
  have w1 : IntKind.u8.wrap (a : Int) = ((a % 256 : Nat) : Int) := by rw [IntKind.wrap_u8']; omega
  have w2 : IntKind.u8.wrap (b : Int) = ((b % 256 : Nat) : Int) := by rw [IntKind.wrap_u8']; omega
  have w3 : IntKind.u8.wrap (c : Int) = ((c % 256 : Nat) : Int) := by rw [IntKind.wrap_u8']; omega
  have w4 : IntKind.u8.wrap (s : Int) = ((s % 256 : Nat) : Int) := by rw [IntKind.wrap_u8']; omega
  have HF : Hid (fourOf s = [a % 256, b % 256, c % 256, s % 256]) := by
    show _ = _
    unfold fourOf
    rw [ea, eb, ec]
  have ba : a ≤ 255 := by omega
  have bb : b ≤ 65535 := by omega
  have bc : c ≤ 16777215 := by omega
  clear ea eb ec
  generalize a % 256 = A at *
  generalize b % 256 = B at *
  generalize c % 256 = C at *
  generalize s % 256 = D at *
  go_enter Try.func44, Try.ntmps44
  go_wp2_with fail
  go_ret
  rw [HF.out]
  exact ⟨_, rfl, row_fresh rfl rfl⟩
theorem two_boxes (W : World) (x y : Array Value) (tx ty : TypeId) : ∃ w1, w1 = (W.alloc (.cells x tx)).alloc (.cells y ty) ∧ w1.heap.size = W.heap.size + 2 ∧ w1.heap[W.heap.size]? = some (.cells x tx (0, 0)) ∧ w1.heap[W.heap.size + 1]? = some (.cells y ty (0, 0)) ∧ Below W.heap.size W w1 := by
  have hs0 : (W.alloc (.cells x tx)).heap.size = W.heap.size + 1 := by
    show (W.heap.push _).size = _
    simp
  refine ⟨_, rfl, ?_, alloc_old (heap_alloc_new W _), ?_, ((Below.refl _ _).alloc (Nat.le_refl _) _).alloc (by rw [hs0]; omega) _⟩
  · show ((W.alloc _).heap.push _).size = _
    rw [Array.size_push, hs0]
  · rw [← hs0]
    exact heap_alloc_new _ _
abbrev zcells (o1 : Option Addr) (n1 c1 : Nat) (x1 : Int) (o2 : Option Addr) (n2 c2 : Nat) (x2 : Int) (ov bg : Bool) : Array Value := #[.slice o1 n1 c1, .int .i64 x1, .slice o2 n2 c2, .int .i64 x2, .bool ov, .bool bg]
abbrev zzero : Array Value := #[.slice none 0 0, .int .i64 0, .slice none 0 0, .int .i64 0, .bool false, .bool false]
/-- Six cells of a block written over. -/
abbrev set6 (w : World) (g : Nat) (v0 v1 v2 v3 v4 v5 : Value) : World := (((((w.setCell ⟨g, 0, none⟩ v0).setCell ⟨g, 1, none⟩ v1).setCell ⟨g, 2, none⟩ v2).setCell ⟨g, 3, none⟩ v3).setCell ⟨g, 4, none⟩ v4).setCell ⟨g, 5, none⟩ v5
theorem set6_heap (w : World) (g : Nat) (v0 v1 v2 v3 v4 v5 : Value) (q : Nat) (hq : q ≠ g) : (set6 w g v0 v1 v2 v3 v4 v5).heap[q]? = w.heap[q]? := by
  unfold set6
  rw [Below.heap_setCell _ _ _ q hq, Below.heap_setCell _ _ _ q hq, Below.heap_setCell _ _ _ q hq, Below.heap_setCell _ _ _ q hq, Below.heap_setCell _ _ _ q hq, Below.heap_setCell _ _ _ q hq]
theorem set6_block {w : World} {g : Nat} {z0 z1 z2 z3 z4 z5 : Value} {t : TypeId} (h : w.heap[g]? = some (.cells #[z0, z1, z2, z3, z4, z5] t (0, 0))) (v0 v1 v2 v3 v4 v5 : Value) : (set6 w g v0 v1 v2 v3 v4 v5).heap[g]? = some (.cells #[v0, v1, v2, v3, v4, v5] t (0, 0)) :=
  block_setCell (block_setCell (block_setCell (block_setCell (block_setCell (block_setCell h _) _) _) _) _) _
theorem set6_below {B g : Nat} {W w : World} (h : Below B W w) (hg : B ≤ g) (v0 v1 v2 v3 v4 v5 : Value) : Below B W (set6 w g v0 v1 v2 v3 v4 v5) :=
  (((((h.setCell (p := ⟨g, 0, none⟩) hg _).setCell (p := ⟨g, 1, none⟩) hg _).setCell (p := ⟨g, 2, none⟩) hg _).setCell (p := ⟨g, 3, none⟩) hg _).setCell (p := ⟨g, 4, none⟩) hg _).setCell (p := ⟨g, 5, none⟩) hg _
theorem set6_size (w : World) (g : Nat) (v0 v1 v2 v3 v4 v5 : Value) : (set6 w g v0 v1 v2 v3 v4 v5).heap.size = w.heap.size := by simp [set6]
theorem row_on {w w' : World} {base e n : Nat} {v : Value} {xs : List Value} (h : w.ownsRow base e 1 v n xs) (hs : ∀ q, base ≤ q → w'.heap[q]? = w.heap[q]?) : w'.ownsRow base e 1 v n xs := owns_kept h (fun k hk => hs k (h.lt k hk).1)
/-- What ahead leaves: the two boxes, a row. -/
structure Headed (W : World) (B : Nat) (cs : Array Value) (v : Value) (h : List Nat) (w : World) : Prop where
  b0 : w.heap[B]? = some (.cells cs 67 (0, 0))
  b1 : w.heap[B + 1]? = some (.cells zzero 67 (0, 0))
  row : w.ownsRow (B + 2) 5 1 v h.length (h.map byteVal)
  below : Below B W w
  size : B + 2 ≤ w.heap.size
set_option maxHeartbeats 2000000 in
set_option maxRecDepth 100000 in
theorem rahead_any (o1 : Option Addr) (n1 c1 : Nat) (x1 : Int) (o2 : Option Addr) (n2 c2 : Nat) (x2 : Int) (ov bg : Bool) (bv : Value) (xs : List Nat) (W : World) (hb : bytesIn W bv xs) (hl : xs.length ≤ 1000000000) :
    Calls Try.prog 42 #[.agg (zcells o1 n1 c1 x1 o2 n2 c2 x2 ov bg), bv] W fun e w' => ∃ o n c, e = .returned (.tuple #[.agg (zcells o1 n1 c1 x1 o2 n2 c2 x2 ov true), .slice o n c]) ∧ Hid ((headOf bg ++ xs).length = n) ∧ Hid (w'.ownsRow W.heap.size 5 1 (.slice o n c) n ((headOf bg ++ xs).map byteVal)) ∧ Hid (Below W.heap.size W w') := by
  obtain ⟨w1, e1, hs1, hB0, hB1, hbl⟩ := two_boxes W (zcells o1 n1 c1 x1 o2 n2 c2 x2 ov bg) zzero 67 67
  obtain ⟨bo, bc, ebv⟩ := listed_length hb
  subst ebv
  obtain ⟨N, eN⟩ : ∃ N, xs.length = N := ⟨_, rfl⟩
  have HN := Lib.hid eN
  have HB := Lib.hid hb
  rw [eN] at HB hl ⊢
  have H0 := Lib.hid hB0
  have H1 := Lib.hid hB1
  have HBL := Lib.hid hbl
  have HS1 := Lib.hid hs1
  have q5 : w1.cell? ⟨W.heap.size, 5, none⟩ = some (.bool bg) := cell_of_block hB0 5
  have f5 := unfrozen_of_block hB0 5
  -- what comes behind the head
  have KR : Hid (∀ (v : Value) (w : World), Headed W W.heap.size (zcells o1 n1 c1 x1 o2 n2 c2 x2 ov true) v (headOf bg) w → ∃ o n c w5, (Builtin.append_ #[36, 36] 36 #[v, .slice bo N bc]).run Try.prog w.drew = .ok (.slice o n c) w5 ∧ Hid ((headOf bg ++ xs).length = n ∧ w5.ownsRow (W.heap.size + 2) 5 1 (.slice o n c) n ((headOf bg ++ xs).map byteVal)) ∧ Hid (Below W.heap.size W w5) ∧ w5.heap[W.heap.size]? = some (.cells (zcells o1 n1 c1 x1 o2 n2 c2 x2 ov true) 67 (0, 0)) ∧ w5.heap[W.heap.size + 1]? = some (.cells zzero 67 (0, 0))) := by
    intro v w h
    have hrow : w.drew.ownsRow (W.heap.size + 2) 5 1 v (headOf bg).length ((headOf bg).map byteVal) := owns_kept h.row (fun k hk => rfl)
    obtain ⟨v', w', hrun, r1, r2⟩ := run_append_bytes w.drew (W.heap.size + 2) 36 v _ _ hrow (.slice bo N bc) xs (listed_on HB.out h.below.drew) (by rw [HN.out]; have := headOf_two bg; omega) h.size
    have hb5 : Below (W.heap.size + 2) w.drew w' := (Below.refl _ _).grown r2 h.size (fun q hq => (hrow.lt q hq).1)
    obtain ⟨o, c, ev⟩ := row_shape r1
    subst ev
    have hlen : (headOf bg ++ xs).length = (headOf bg).length + xs.length := List.length_append
    exact ⟨o, _, c, w', hrun, ⟨hlen, r1⟩, h.below.drew.trans (hb5.mono (by omega)), (hb5.block _ (by omega)).trans h.b0, (hb5.block _ (by omega)).trans h.b1⟩
  clear hb eN hB0 hB1 hbl hs1
  go_enter Try.func42, Try.ntmps42
  go_upto_region 1 with fail
  rw [← e1]
  clear e1
  cases bg with
  | false =>
    have hlit := row_fresh (w := w1) (vals := #[.int .u8 120, .int .u8 1]) (zs := [120, 1]) (n := 2) rfl rfl
    have HLIT := Lib.hid hlit
    clear hlit
    go_wp2_with (at_builtin; refine wpList_append_listed (c := byteVal) rfl _ _ 36 rfl (W.heap.size + 2) 5 (.int .u8 0) Try.underlying36 infoU8 rfl (fun _ => rfl) (.slice none 0 0) 0 [] rfl (World.ownsRow_nil _ _ _ _) _ [120, 1] rfl HLIT.out.1 (by decide) (by have := HLIT.out.2.2.size; have := HS1.out; omega) ?_)
    intro v3 w3 hown3 hgrow3
    have hs2 := HLIT.out.2.2.size
    have hb3 : Below (W.heap.size + 2) w1 w3 := by
      have h1 : Below (W.heap.size + 2) w1 w1 := Below.refl _ _
      exact (h1.alloc (by have := HS1.out; omega) _).grown hgrow3 (by have := HS1.out; omega) (fun q hq => by cases hq)
    have hX0 := (hb3.block W.heap.size (by omega)).trans H0.out
    have hX1 := (hb3.block (W.heap.size + 1) (by omega)).trans H1.out
    have q3 : w3.cell? ⟨W.heap.size, 5, none⟩ = some (.bool false) := cell_of_block hX0 5
    have f3 := unfrozen_of_block hX0 5
    have hrow3 : w3.ownsRow (W.heap.size + 2) 5 1 v3 2 (([120, 1] : List Nat).map byteVal) := hown3
    obtain ⟨v3o, v3c, ev3⟩ := row_shape hrow3
    subst ev3
    have HH : Hid (Headed W W.heap.size (zcells o1 n1 c1 x1 o2 n2 c2 x2 ov true) (.slice v3o 2 v3c) (headOf false) (w3.setCell ⟨W.heap.size, 5, none⟩ (.bool true))) := {
      b0 := block_setCell hX0 _
      b1 := (Below.heap_setCell w3 ⟨W.heap.size, 5, none⟩ _ (W.heap.size + 1) (by show W.heap.size + 1 ≠ W.heap.size; omega)).trans hX1
      row := row_on hrow3 (fun q hq => Below.heap_setCell w3 ⟨W.heap.size, 5, none⟩ _ q (by show q ≠ W.heap.size; omega))
      below := (HBL.out.trans (hb3.mono (by omega))).setCell (p := ⟨W.heap.size, 5, none⟩) (Nat.le_refl _) _
      size := by have := hb3.size; have := HS1.out; simp; omega }
    clear hown3 hgrow3 hb3 hX0 hX1 hrow3 q5 f5 HLIT hs2
    go_upto_region 5 with fail
    obtain ⟨w4, ew4⟩ : ∃ x, x = w3.setCell ⟨W.heap.size, 5, none⟩ (.bool true) := ⟨_, rfl⟩
    rw [← ew4] at HH ⊢
    clear ew4 q3 f3
    obtain ⟨o5, n5, c5, w5, hrun, HR5, HB5, hY0, hY1⟩ := KR.out _ _ HH.out
    have a0 := cell_of_block HH.out.b0 0
    have a1 := cell_of_block HH.out.b0 1
    have a2 := cell_of_block HH.out.b0 2
    have a3 := cell_of_block HH.out.b0 3
    have a4 := cell_of_block HH.out.b0 4
    have a5 := cell_of_block HH.out.b0 5
    have y0 := cell_of_block hY0 0
    have y1 := cell_of_block hY0 1
    have y2 := cell_of_block hY0 2
    have y3 := cell_of_block hY0 3
    have y4 := cell_of_block hY0 4
    have y5 := cell_of_block hY0 5
    have p0 := cell_of_block hY1 0
    have p1 := cell_of_block hY1 1
    have p2 := cell_of_block hY1 2
    have p3 := cell_of_block hY1 3
    have p4 := cell_of_block hY1 4
    have p5 := cell_of_block hY1 5
    have g0 := unfrozen_of_block hY1 0
    have g1 := unfrozen_of_block hY1 1
    have g2 := unfrozen_of_block hY1 2
    have g3 := unfrozen_of_block hY1 3
    have g4 := unfrozen_of_block hY1 4
    have g5 := unfrozen_of_block hY1 5
    have HY1 := Lib.hid hY1
    clear hY0 hY1 KR
    go_region_law (refine step_append_eq rfl (.tmp 15) (.tmp 16) 36 rfl (.slice v3o 2 v3c) (.slice bo N bc) (.slice o5 n5 c5) w5 (by simp [Act.eval, Act.put]) (by simp [Act.eval, Act.put]) hrun ?_)
    all_goals go_wp2_with fail
    all_goals refine bodyPost_ret (v := .tuple #[.agg (zcells o1 n1 c1 x1 o2 n2 c2 x2 ov true), .slice o5 n5 c5]) (by simp [results, Try.results42, asAddr, Result.andThen, go_sem, p0, p1, p2, p3, p4, p5]) rfl ?_
    all_goals exact ⟨_, _, _, rfl, HR5.out.1, ownsRow_le (row_on HR5.out.2 (fun q hq => set6_heap w5 (W.heap.size + 1) _ _ _ _ _ _ q (by omega))) (by omega), set6_below HB5.out (Nat.le_succ _) _ _ _ _ _ _⟩
  | true =>
    have HH : Hid (Headed W W.heap.size (zcells o1 n1 c1 x1 o2 n2 c2 x2 ov true) (.slice none 0 0) (headOf true) (w1.setCell ⟨W.heap.size, 5, none⟩ (.bool true))) := {
      b0 := block_setCell H0.out _
      b1 := (Below.heap_setCell w1 ⟨W.heap.size, 5, none⟩ _ (W.heap.size + 1) (by show W.heap.size + 1 ≠ W.heap.size; omega)).trans H1.out
      row := World.ownsRow_nil _ _ _ _
      below := HBL.out.setCell (p := ⟨W.heap.size, 5, none⟩) (Nat.le_refl _) _
      size := by have := HS1.out; simp; omega }
    go_upto_region 5 with fail
    obtain ⟨w4, ew4⟩ : ∃ x, x = w1.setCell ⟨W.heap.size, 5, none⟩ (.bool true) := ⟨_, rfl⟩
    rw [← ew4] at HH ⊢
    clear ew4 q5 f5
    obtain ⟨o5, n5, c5, w5, hrun, HR5, HB5, hY0, hY1⟩ := KR.out _ _ HH.out
    have a0 := cell_of_block HH.out.b0 0
    have a1 := cell_of_block HH.out.b0 1
    have a2 := cell_of_block HH.out.b0 2
    have a3 := cell_of_block HH.out.b0 3
    have a4 := cell_of_block HH.out.b0 4
    have a5 := cell_of_block HH.out.b0 5
    have y0 := cell_of_block hY0 0
    have y1 := cell_of_block hY0 1
    have y2 := cell_of_block hY0 2
    have y3 := cell_of_block hY0 3
    have y4 := cell_of_block hY0 4
    have y5 := cell_of_block hY0 5
    have p0 := cell_of_block hY1 0
    have p1 := cell_of_block hY1 1
    have p2 := cell_of_block hY1 2
    have p3 := cell_of_block hY1 3
    have p4 := cell_of_block hY1 4
    have p5 := cell_of_block hY1 5
    have g0 := unfrozen_of_block hY1 0
    have g1 := unfrozen_of_block hY1 1
    have g2 := unfrozen_of_block hY1 2
    have g3 := unfrozen_of_block hY1 3
    have g4 := unfrozen_of_block hY1 4
    have g5 := unfrozen_of_block hY1 5
    have HY1 := Lib.hid hY1
    clear hY0 hY1 KR
    go_region_law (refine step_append_eq rfl (.tmp 15) (.tmp 16) 36 rfl (.slice none 0 0) (.slice bo N bc) (.slice o5 n5 c5) w5 (by simp [Act.eval, Act.put]) (by simp [Act.eval, Act.put]) hrun ?_)
    all_goals go_wp2_with fail
    all_goals refine bodyPost_ret (v := .tuple #[.agg (zcells o1 n1 c1 x1 o2 n2 c2 x2 ov true), .slice o5 n5 c5]) (by simp [results, Try.results42, asAddr, Result.andThen, go_sem, p0, p1, p2, p3, p4, p5]) rfl ?_
    all_goals exact ⟨_, _, _, rfl, HR5.out.1, ownsRow_le (row_on HR5.out.2 (fun q hq => set6_heap w5 (W.heap.size + 1) _ _ _ _ _ _ q (by omega))) (by omega), set6_below HB5.out (Nat.le_succ _) _ _ _ _ _ _⟩
end Go.Proofs.Ytefdlidjdmlnaaa.Fx
namespace Go.Proofs.Ytefdlidjdmlnaaa.Fx
open Go Go.RowKit Go.Joins
set_option linter.unusedVariables false
abbrev wset5 (w : World) (g : Nat) (v0 v1 v2 v3 v4 : Value) : World := ((((w.setCell ⟨g, 0, none⟩ v0).setCell ⟨g, 1, none⟩ v1).setCell ⟨g, 2, none⟩ v2).setCell ⟨g, 3, none⟩ v3).setCell ⟨g, 4, none⟩ v4
theorem wset5_block {w : World} {g : Nat} {z0 z1 z2 z3 z4 z5 : Value} {t : TypeId} (h : w.heap[g]? = some (.cells #[z0, z1, z2, z3, z4, z5] t (0, 0))) (v0 v1 v2 v3 v4 : Value) : (wset5 w g v0 v1 v2 v3 v4).heap[g]? = some (.cells #[v0, v1, v2, v3, v4, z5] t (0, 0)) :=
  block_setCell (block_setCell (block_setCell (block_setCell (block_setCell h _) _) _) _) _
theorem wset5_heap (w : World) (g : Nat) (v0 v1 v2 v3 v4 : Value) (q : Nat) (hq : q ≠ g) : (wset5 w g v0 v1 v2 v3 v4).heap[q]? = w.heap[q]? := by
  unfold wset5
  rw [Below.heap_setCell _ _ _ q hq, Below.heap_setCell _ _ _ q hq, Below.heap_setCell _ _ _ q hq, Below.heap_setCell _ _ _ q hq, Below.heap_setCell _ _ _ q hq]
theorem wset5_below {B g : Nat} {W w : World} (h : Below B W w) (hg : B ≤ g) (v0 v1 v2 v3 v4 : Value) : Below B W (wset5 w g v0 v1 v2 v3 v4) :=
  ((((h.setCell (p := ⟨g, 0, none⟩) hg _).setCell (p := ⟨g, 1, none⟩) hg _).setCell (p := ⟨g, 2, none⟩) hg _).setCell (p := ⟨g, 3, none⟩) hg _).setCell (p := ⟨g, 4, none⟩) hg _
theorem own_in_bytes {w : World} {base n : Nat} {v : Value} {zs : List Nat} (h : w.ownsRow base 5 1 v n (zs.map byteVal)) (hn : zs.length = n) : bytesIn w v zs := own_listed h
set_option maxHeartbeats 4000000 in
set_option maxRecDepth 100000 in
theorem rzwrite_own (av lv b : Value) (all zs : List Nat) (bg : Bool) (W : World) (ha : bytesIn W av all) (h8 : ∀ x ∈ all ++ zs, x < 256) (hl : bools W lv (outOf all)) (hb : bytesIn W b zs) (hz : (all ++ zs).length ≤ 1000000) :
    Calls Try.prog 28 #[.agg #[av, .int .i64 ((4096 * fullOf all.length : Nat) : Int), lv, .int .i64 (((outOf all).length / 8 : Nat) : Int), .bool false, .bool bg], b] W fun e w' =>
      ∃ o1 n1 c1 o2 n2 c2 oy ny cy, e = .returned (.tuple #[.agg (zcells o1 n1 c1 ((4096 * fullOf (all ++ zs).length : Nat) : Int) o2 n2 c2 (((outOf (all ++ zs)).length / 8 : Nat) : Int) false true), .slice oy ny cy, .int .i64 0]) ∧ Hid (bytesIn w' (.slice o1 n1 c1) (all ++ zs) ∧ bools w' (.slice o2 n2 c2) (outOf (all ++ zs)) ∧ bytesIn w' (.slice oy ny cy) (headOf bg ++ nextOf all zs) ∧ (∀ q, inBlock (.slice o1 n1 c1) q → W.heap.size ≤ q) ∧ (∀ q, inBlock (.slice o2 n2 c2) q → .slice o2 n2 c2 = lv ∨ W.heap.size ≤ q) ∧ (∀ q, inBlock (.slice oy ny cy) q → W.heap.size ≤ q) ∧ Below W.heap.size W w') ∧ Hid (w'.ownsRow W.heap.size 5 1 (.slice oy ny cy) (headOf bg ++ nextOf all zs).length ((headOf bg ++ nextOf all zs).map byteVal)) := by
  obtain ⟨ao, ac, eav⟩ := listed_length ha
  obtain ⟨lo, lc, elv⟩ := listed_length hl
  obtain ⟨bo, bc, ebv⟩ := listed_length hb
  have hXL := nextOf_length all zs (by omega)
  obtain ⟨w1, e1, hs1, hB0, hB1, hbl⟩ := two_boxes W (zcells ao all.length ac ((4096 * fullOf all.length : Nat) : Int) lo (outOf all).length lc (((outOf all).length / 8 : Nat) : Int) false bg) zzero 67 67
  have KW := rwrite_any av lv b all zs w1 (listed_on ha hbl) h8 (listed_on hl hbl) (listed_on hb hbl) hz
  have HLW : Hid (∀ q, inBlock lv q → q < W.heap.size) := fun q hq => bools_in hl hq
  subst eav elv ebv
  obtain ⟨X, eX⟩ : ∃ x, nextOf all zs = x := ⟨_, rfl⟩
  have eX' : bytesAt (outOf (all ++ zs)) ((outOf all).length / 8) ((outOf (all ++ zs)).length / 8 - (outOf all).length / 8) = X := eX
  rw [eX'] at KW
  rw [eX] at hXL ⊢
  obtain ⟨A4, eA4⟩ : ∃ x, 4096 * fullOf all.length = x := ⟨_, rfl⟩
  obtain ⟨T4, eT4⟩ : ∃ x, (outOf all).length / 8 = x := ⟨_, rfl⟩
  obtain ⟨A2, eA2⟩ : ∃ x, 4096 * fullOf (all ++ zs).length = x := ⟨_, rfl⟩
  obtain ⟨T2, eT2⟩ : ∃ x, (outOf (all ++ zs)).length / 8 = x := ⟨_, rfl⟩
  rw [eA4, eT4] at KW hB0 e1 ⊢
  rw [eA2, eT2] at KW ⊢
  obtain ⟨an, ean⟩ : ∃ x, all.length = x := ⟨_, rfl⟩
  obtain ⟨ln, eln⟩ : ∃ x, (outOf all).length = x := ⟨_, rfl⟩
  obtain ⟨bn, ebn⟩ : ∃ x, zs.length = x := ⟨_, rfl⟩
  rw [ean, eln] at KW hB0 e1 ⊢
  rw [ebn] at KW ⊢
  rw [eln] at HLW
  have H1 := Lib.hid hB1
  have H0 := Lib.hid hB0
  have HBL := Lib.hid hbl
  have HS1 := Lib.hid hs1
  have q0 := cell_of_block hB0 0
  have q1 := cell_of_block hB0 1
  have q2 := cell_of_block hB0 2
  have q3 := cell_of_block hB0 3
  have q4 := cell_of_block hB0 4
  clear ha h8 hl hb hz eX eX' eA4 eT4 eA2 eT2 ean eln ebn hB0 hB1 hbl hs1
  go_enter Try.func28, Try.ntmps28
  go_upto_region 1 with fail
  rw [← e1]
  clear e1
  go_wp2_with fail
  go_at_call 41
  refine KW.mono ?_
  clear KW
  rintro e w2 ⟨a1, l1, y1, rfl, v1, v2, v3, v4, v5, v6, v7, _⟩
  obtain ⟨o1, c1, ea1⟩ := listed_length v1
  obtain ⟨o2, c2, el1⟩ := listed_length v2
  obtain ⟨oy, cy, ey1⟩ := listed_length v3
  subst ea1 el1 ey1
  obtain ⟨n1, en1⟩ : ∃ x, (all ++ zs).length = x := ⟨_, rfl⟩
  obtain ⟨n2, en2⟩ : ∃ x, (outOf (all ++ zs)).length = x := ⟨_, rfl⟩
  obtain ⟨ny, eny⟩ : ∃ x, X.length = x := ⟨_, rfl⟩
  rw [en1] at v1 v4 ⊢
  rw [en2] at v2 v5 ⊢
  rw [eny] at v3 v6 hXL ⊢
  have HV := Lib.hid (And.intro v1 (And.intro v2 (And.intro v3 (And.intro v4 (And.intro v5 (And.intro v6 v7))))))
  have HNY := Lib.hid eny
  clear v1 v2 v3 v4 v5 v6 v7 en1 en2 eny q0 q1 q2 q3 q4
  go_upto_region 4 with fail
  have hs12 : w1.heap.size ≤ w2.heap.size := HV.out.2.2.2.2.2.2.size
  have hs1 := HS1.out
  obtain ⟨w3, e3⟩ : ∃ x, x = w2.alloc (.cells #[.slice o1 n1 c1, .int .i64 (A2 : Int), .slice o2 n2 c2, .int .i64 (T2 : Int), .bool false] 65) := ⟨_, rfl⟩
  have hb3 : Below w2.heap.size w2 w3 := by rw [e3]; exact below_alloc1 w2 _
  have hn3 : w3.heap[w2.heap.size]? = some (.cells #[.slice o1 n1 c1, .int .i64 (A2 : Int), .slice o2 n2 c2, .int .i64 (T2 : Int), .bool false] 65 (0, 0)) := by rw [e3]; exact heap_alloc_new w2 _
  have h30 := (hb3.block W.heap.size (by omega)).trans ((HV.out.2.2.2.2.2.2.block W.heap.size (by omega)).trans H0.out)
  have h31 := (hb3.block (W.heap.size + 1) (by omega)).trans ((HV.out.2.2.2.2.2.2.block (W.heap.size + 1) (by omega)).trans H1.out)
  have hw3 : bytesIn w3 (.slice o1 n1 c1) (all ++ zs) ∧ bools w3 (.slice o2 n2 c2) (outOf (all ++ zs)) ∧ bytesIn w3 (.slice oy ny cy) X ∧ Below W.heap.size W w3 := ⟨listed_on HV.out.1 hb3, listed_on HV.out.2.1 hb3, listed_on HV.out.2.2.1 hb3, HBL.out.trans ((HV.out.2.2.2.2.2.2.trans (hb3.mono hs12)).mono (by omega))⟩
  have HW3 := Lib.hid hw3
  have HF : Hid ((∀ q, inBlock (.slice o1 n1 c1) q → W.heap.size + 2 ≤ q) ∧ (∀ q, inBlock (.slice o2 n2 c2) q → (.slice o2 n2 c2 = Value.slice lo ln lc ∧ q < W.heap.size) ∨ W.heap.size + 2 ≤ q) ∧ (∀ q, inBlock (.slice oy ny cy) q → W.heap.size + 2 ≤ q)) := by
    refine ⟨fun q hq => by have := HV.out.2.2.2.1 q hq; omega, fun q hq => ?_, fun q hq => by have := HV.out.2.2.2.2.2.1 q hq; omega⟩
    rcases HV.out.2.2.2.2.1 q hq with h | h
    · exact .inl ⟨h, HLW.out q (by rw [← h]; exact hq)⟩
    · exact .inr (by omega)
  rw [← e3]
  obtain ⟨g2, eg2⟩ : ∃ g, w2.heap.size = g := ⟨_, rfl⟩
  rw [eg2] at hn3 ⊢
  have H30 := Lib.hid h30
  have H31 := Lib.hid h31
  have r0 := cell_of_block hn3 0
  have r1 := cell_of_block hn3 1
  have r2 := cell_of_block hn3 2
  have r3 := cell_of_block hn3 3
  have r4 := cell_of_block hn3 4
  have t0 := cell_of_block h30 0
  have t1 := cell_of_block h30 1
  have t2 := cell_of_block h30 2
  have t3 := cell_of_block h30 3
  have t4 := cell_of_block h30 4
  have t5 := cell_of_block h30 5
  have f0 := unfrozen_of_block h30 0
  have f1 := unfrozen_of_block h30 1
  have f2 := unfrozen_of_block h30 2
  have f3 := unfrozen_of_block h30 3
  have f4 := unfrozen_of_block h30 4
  have f5 := unfrozen_of_block h30 5
  clear e3 hb3 hn3 hw3 eg2 hs12 HV HLW h30 h31
  go_upto_region 5 with fail
  obtain ⟨w4, e4⟩ : ∃ x, x = wset5 w3 W.heap.size (.slice o1 n1 c1) (.int .i64 (A2 : Int)) (.slice o2 n2 c2) (.int .i64 (T2 : Int)) (.bool false) := ⟨_, rfl⟩
  have h40 : w4.heap[W.heap.size]? = some (.cells (zcells o1 n1 c1 (A2 : Int) o2 n2 c2 (T2 : Int) false bg) 67 (0, 0)) := by rw [e4]; exact wset5_block H30.out _ _ _ _ _
  have hk4 : ∀ q, q ≠ W.heap.size → w4.heap[q]? = w3.heap[q]? := fun q hq => by rw [e4]; exact wset5_heap _ _ _ _ _ _ _ q hq
  have hz4 : w4.heap.size = w3.heap.size := by rw [e4]; simp [wset5]
  have h41 := (hk4 (W.heap.size + 1) (by omega)).trans H31.out
  have HW4 : Hid (bytesIn w4 (.slice o1 n1 c1) (all ++ zs) ∧ bools w4 (.slice o2 n2 c2) (outOf (all ++ zs)) ∧ bytesIn w4 (.slice oy ny cy) X ∧ Below W.heap.size W w4) := by
    refine ⟨listed_kept HW3.out.1 (Nat.le_of_eq hz4.symm) (fun q hq => hk4 q (by have := HF.out.1 q hq; omega)), listed_kept HW3.out.2.1 (Nat.le_of_eq hz4.symm) (fun q hq => hk4 q ?_), listed_kept HW3.out.2.2.1 (Nat.le_of_eq hz4.symm) (fun q hq => hk4 q (by have := HF.out.2.2 q hq; omega)), ?_⟩
    · rcases HF.out.2.1 q hq with h | h
      · omega
      · omega
    · rw [e4]
      exact wset5_below HW3.out.2.2.2 (Nat.le_refl _) _ _ _ _ _
  unfold wset5 at e4
  rw [← e4]
  have KA := rahead_any o1 n1 c1 (A2 : Int) o2 n2 c2 (T2 : Int) false bg (.slice oy ny cy) X w4 HW4.out.2.2.1 (by rw [HNY.out]; omega)
  have H40 := Lib.hid h40
  have H41 := Lib.hid h41
  have u0 := cell_of_block h40 0
  have u1 := cell_of_block h40 1
  have u2 := cell_of_block h40 2
  have u3 := cell_of_block h40 3
  have u4 := cell_of_block h40 4
  have u5 := cell_of_block h40 5
  have hlt4 := (Array.getElem?_eq_some_iff.1 h40).1
  have hlt5 := (Array.getElem?_eq_some_iff.1 h41).1
  clear e4 hk4 hz4 h40 h41 HW3 H30 H31 r0 r1 r2 r3 r4 t0 t1 t2 t3 t4 t5 f0 f1 f2 f3 f4 f5
  go_wp2_with fail
  go_at_call 42
  refine KA.mono ?_
  clear KA
  rintro e w5 ⟨o5, n5, c5, rfl, HL5, HR5, HB5⟩
  have h50 := (HB5.out.block _ hlt4).trans H40.out
  have h51 := (HB5.out.block _ hlt5).trans H41.out
  have H50 := Lib.hid h50
  have H51 := Lib.hid h51
  have HW5 : Hid (bytesIn w5 (.slice o1 n1 c1) (all ++ zs) ∧ bools w5 (.slice o2 n2 c2) (outOf (all ++ zs)) ∧ bytesIn w5 (.slice o5 n5 c5) (headOf bg ++ X) ∧ (∀ q, inBlock (.slice o5 n5 c5) q → W.heap.size + 2 ≤ q) ∧ Below W.heap.size W w5) := ⟨listed_on HW4.out.1 HB5.out, listed_on HW4.out.2.1 HB5.out, own_in_bytes HR5.out HL5.out, fun q hq => by have := own_fresh HR5.out q hq; omega, HW4.out.2.2.2.trans (HB5.out.mono HW4.out.2.2.2.size)⟩
  have t0 := cell_of_block h50 0
  have t1 := cell_of_block h50 1
  have t2 := cell_of_block h50 2
  have t3 := cell_of_block h50 3
  have t4 := cell_of_block h50 4
  have t5 := cell_of_block h50 5
  have f0 := unfrozen_of_block h50 0
  have f1 := unfrozen_of_block h50 1
  have f2 := unfrozen_of_block h50 2
  have f3 := unfrozen_of_block h50 3
  have f4 := unfrozen_of_block h50 4
  have f5 := unfrozen_of_block h50 5
  have HRO : Hid (w5.ownsRow (W.heap.size + 2) 5 1 (.slice o5 n5 c5) (headOf bg ++ X).length ((headOf bg ++ X).map byteVal)) := by
    show World.ownsRow _ _ _ _ _ _ _
    rw [HL5.out]
    exact ownsRow_le HR5.out (by omega)
  clear h50 h51 u0 u1 u2 u3 u4 u5 hlt4 hlt5 HB5 HR5 HL5 H40 H41 HW4
  go_upto_region 6 with fail
  obtain ⟨w6, e6⟩ : ∃ x, x = set6 w5 W.heap.size (.slice o1 n1 c1) (.int .i64 (A2 : Int)) (.slice o2 n2 c2) (.int .i64 (T2 : Int)) (.bool false) (.bool true) := ⟨_, rfl⟩
  have h60 : w6.heap[W.heap.size]? = some (.cells (zcells o1 n1 c1 (A2 : Int) o2 n2 c2 (T2 : Int) false true) 67 (0, 0)) := by rw [e6]; exact set6_block H50.out _ _ _ _ _ _
  have hk6 : ∀ q, q ≠ W.heap.size → w6.heap[q]? = w5.heap[q]? := fun q hq => by rw [e6]; exact set6_heap _ _ _ _ _ _ _ _ q hq
  have hz6 : w6.heap.size = w5.heap.size := by rw [e6]; exact set6_size _ _ _ _ _ _ _ _
  have h61 := (hk6 (W.heap.size + 1) (by omega)).trans H51.out
  have HB6 : Hid (Below W.heap.size W w6) := by
    show Below _ _ _
    rw [e6]
    exact set6_below HW5.out.2.2.2.2 (Nat.le_refl _) _ _ _ _ _ _
  have HK8 : Hid (∀ w7, w7 = set6 w6 (W.heap.size + 1) (.slice o1 n1 c1) (.int .i64 (A2 : Int)) (.slice o2 n2 c2) (.int .i64 (T2 : Int)) (.bool false) (.bool true) → ∀ q, W.heap.size + 2 ≤ q → w7.heap[q]? = w5.heap[q]?) := by
    intro w7 e7 q hq
    rw [e7]
    exact (set6_heap _ _ _ _ _ _ _ _ q (by omega)).trans (hk6 q (by omega))
  have HK7 : Hid (∀ w7, w7 = set6 w6 (W.heap.size + 1) (.slice o1 n1 c1) (.int .i64 (A2 : Int)) (.slice o2 n2 c2) (.int .i64 (T2 : Int)) (.bool false) (.bool true) → bytesIn w7 (.slice o1 n1 c1) (all ++ zs) ∧ bools w7 (.slice o2 n2 c2) (outOf (all ++ zs)) ∧ bytesIn w7 (.slice o5 n5 c5) (headOf bg ++ X) ∧ Below W.heap.size W w7) := by
    intro w7 e7
    have hk7 : ∀ q, q ≠ W.heap.size → q ≠ W.heap.size + 1 → w7.heap[q]? = w5.heap[q]? := fun q hq hq2 => by rw [e7]; exact (set6_heap _ _ _ _ _ _ _ _ q hq2).trans (hk6 q hq)
    have hz7 : w7.heap.size = w5.heap.size := by rw [e7]; exact (set6_size _ _ _ _ _ _ _ _).trans hz6
    refine ⟨listed_kept HW5.out.1 (Nat.le_of_eq hz7.symm) (fun q hq => hk7 q (by have := HF.out.1 q hq; omega) (by have := HF.out.1 q hq; omega)), listed_kept HW5.out.2.1 (Nat.le_of_eq hz7.symm) (fun q hq => ?_), listed_kept HW5.out.2.2.1 (Nat.le_of_eq hz7.symm) (fun q hq => hk7 q (by have := HW5.out.2.2.2.1 q hq; omega) (by have := HW5.out.2.2.2.1 q hq; omega)), ?_⟩
    · rcases HF.out.2.1 q hq with h | h
      · exact hk7 q (by omega) (by omega)
      · exact hk7 q (by omega) (by omega)
    · rw [e7]
      exact set6_below HB6.out (Nat.le_succ _) _ _ _ _ _ _
  unfold set6 at e6
  rw [← e6]
  have u0 := cell_of_block h60 0
  have u1 := cell_of_block h60 1
  have u2 := cell_of_block h60 2
  have u3 := cell_of_block h60 3
  have u4 := cell_of_block h60 4
  have u5 := cell_of_block h60 5
  have y0 := cell_of_block h61 0
  have y1 := cell_of_block h61 1
  have y2 := cell_of_block h61 2
  have y3 := cell_of_block h61 3
  have y4 := cell_of_block h61 4
  have y5 := cell_of_block h61 5
  have z0 := unfrozen_of_block h61 0
  have z1 := unfrozen_of_block h61 1
  have z2 := unfrozen_of_block h61 2
  have z3 := unfrozen_of_block h61 3
  have z4 := unfrozen_of_block h61 4
  have z5 := unfrozen_of_block h61 5
  clear e6 hk6 hz6 h60 h61 H50 H51 t0 t1 t2 t3 t4 t5 f0 f1 f2 f3 f4 f5
  go_wp2_with fail
  refine bodyPost_ret (v := .tuple #[.agg (zcells o1 n1 c1 (A2 : Int) o2 n2 c2 (T2 : Int) false true), .slice o5 n5 c5, .int .i64 0]) (by simp [results, Try.results28, asAddr, Result.andThen, go_sem, y0, y1, y2, y3, y4, y5]) rfl ?_
  obtain ⟨z1, z2, z3, z4⟩ := HK7.out _ rfl
  exact ⟨_, _, _, _, _, _, _, _, _, rfl, ⟨z1, z2, z3, fun q hq => by have := HF.out.1 q hq; omega, fun q hq => (HF.out.2.1 q hq).imp And.left (fun h => by omega), fun q hq => by have := HW5.out.2.2.2.1 q hq; omega, z4⟩, ownsRow_le (row_on HRO.out (fun q hq => HK8.out _ rfl q hq)) (by omega)⟩
theorem rzwrite_any (av lv b : Value) (all zs : List Nat) (bg : Bool) (W : World) (ha : bytesIn W av all) (h8 : ∀ x ∈ all ++ zs, x < 256) (hl : bools W lv (outOf all)) (hb : bytesIn W b zs) (hz : (all ++ zs).length ≤ 1000000) :
    Calls Try.prog 28 #[.agg #[av, .int .i64 ((4096 * fullOf all.length : Nat) : Int), lv, .int .i64 (((outOf all).length / 8 : Nat) : Int), .bool false, .bool bg], b] W fun e w' =>
      ∃ o1 n1 c1 o2 n2 c2 oy ny cy, e = .returned (.tuple #[.agg (zcells o1 n1 c1 ((4096 * fullOf (all ++ zs).length : Nat) : Int) o2 n2 c2 (((outOf (all ++ zs)).length / 8 : Nat) : Int) false true), .slice oy ny cy, .int .i64 0]) ∧ Hid (bytesIn w' (.slice o1 n1 c1) (all ++ zs) ∧ bools w' (.slice o2 n2 c2) (outOf (all ++ zs)) ∧ bytesIn w' (.slice oy ny cy) (headOf bg ++ nextOf all zs) ∧ (∀ q, inBlock (.slice o1 n1 c1) q → W.heap.size ≤ q) ∧ (∀ q, inBlock (.slice o2 n2 c2) q → .slice o2 n2 c2 = lv ∨ W.heap.size ≤ q) ∧ (∀ q, inBlock (.slice oy ny cy) q → W.heap.size ≤ q) ∧ Below W.heap.size W w') :=
  (rzwrite_own av lv b all zs bg W ha h8 hl hb hz).mono fun e w' ⟨o1, n1, c1, o2, n2, c2, oy, ny, cy, h1, h2, _⟩ => ⟨o1, n1, c1, o2, n2, c2, oy, ny, cy, h1, h2⟩
end Go.Proofs.Ytefdlidjdmlnaaa.Fx
