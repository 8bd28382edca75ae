/-
  The window's search, as landed: how many bytes are the same; the longest match. The conditions stand in each.
-/
import Derived.Deep.QuietTactic
import Derived.BigQuiet
import Derived.StillTailTactics
import Derived.WalkSmall
import Derived.Test.YtbhmjppnhlmefaaDoorBitsCg
import Derived.Test.YtbhmjppnhlmefaaDoorDeflQ
namespace Go.Proofs.YtbhmjppnhlmefaaDoor.Fx
open Go Go.RowKit Go.Joins
set_option linter.unusedVariables false
/-- A step's value. -/
def stepVal (s : Nat) : Value := .int .i32 (s : Int)
theorem cell_drewN (w : World) (k : Nat) (a : Addr) : (w.drewN k).cell? a = w.cell? a := rfl
theorem min_small (a b : Int) (w : World) : (Builtin.min_ #[3, 3] 3 #[.int .i64 a, .int .i64 b]).run Tryd.prog w = .ok (.int .i64 (if b < a then b else a)) w := by
  simp [Builtin.min_, Builtin.min2]
set_option maxHeartbeats 2000000 in
theorem same_code (g : Nat) (s : Value) (zs : List Nat) (i d m : Nat) (W : World) (hs : W.cell? ⟨g, 1, none⟩ = some s) (hb : bytesIn W s zs) (h8 : ∀ x ∈ zs, x < 256) (hd : d ≤ i) (hi : i ≤ zs.length) (hl : zs.length ≤ 1099511627776) (hm : m = min 258 (zs.length - i)) :
    Calls Tryd.prog 56 #[.pointer (some ⟨g, 1, none⟩), .int .i64 (i : Int), .int .i64 (d : Int), .int .i64 (m : Int)] W fun e w' => e = .returned (.int .i64 (sm zs i d : Nat)) ∧ ∃ k, w' = W.drewN k := by
  have hsm := sm_le zs i d hi
  have HS : Hid (∀ n, n ≤ m → (∀ j, j < n → zs[i - d + j]? = zs[i + j]?) → (n = m ∨ zs[i - d + n]? ≠ zs[i + n]?) → n = sm zs i d) := fun n h1 h2 h3 => (sm_of zs i d n hd hi (by omega) (by omega) h2 (h3.elim (fun h => by omega) (fun h => .inr (.inr h)))).symm
  obtain ⟨S, eS⟩ : ∃ S, sm zs i d = S := ⟨_, rfl⟩
  rw [eS] at HS ⊢
  have HB := Lib.hid hb
  have H8 := Lib.hid h8
  obtain ⟨so, sc, rfl⟩ := listed_length hb
  have him : i + m ≤ zs.length := by omega
  obtain ⟨len, el⟩ : ∃ len, zs.length = len := ⟨_, rfl⟩
  have EL := Lib.hid el
  rw [el] at HB hi hl hs him
  clear hb h8 hm hsm eS el
  have hid : (i : Int) - (d : Int) = ((i - d : Nat) : Int) := by omega
  go_enter Tryd.func56, Tryd.ntmps56
  go_wp2_with fail
  go_loopw [9] (fun s9 wr => ∃ n : Nat, n ≤ m ∧ s9 = .int .i64 (n : Int) ∧ Hid (∀ j, j < n → zs[i - d + j]? = zs[i + j]?) ∧ ∃ k, wr = W.drewN k) (fun s9 _ => m - (intOf s9).toNat)
  case atStart => exact ⟨0, Nat.zero_le _, rfl, (fun j hj => by omega), 0, rfl⟩
  case round =>
    obtain ⟨n, hn, rfl, hsame, k, rfl⟩ := hrel
    have hq : (W.drewN k).cell? ⟨g, 1, none⟩ = some (.slice so len sc) := hs
    by_cases hlt : n < m
    · have d1 : decide ((n : Int) < (m : Int)) = true := decide_eq_true (by omega)
      obtain ⟨x, ex⟩ : ∃ x, zs[i + n]? = some x := ⟨zs[i + n]'(by rw [EL.out]; omega), List.getElem?_eq_getElem _⟩
      obtain ⟨y, ey⟩ : ∃ x, zs[i - d + n]? = some x := ⟨zs[i - d + n]'(by rw [EL.out]; omega), List.getElem?_eq_getElem _⟩
      obtain ⟨b, off, cap, ev, hlt1, hc1⟩ := listed_cell HB.out (i + n) x ex
      obtain ⟨b2, off2, cap2, ev2, hlt2, hc2⟩ := listed_cell HB.out (i - d + n) y ey
      rw [EL.out] at ev ev2
      simp only [Value.slice.injEq] at ev ev2
      obtain ⟨rfl, _, rfl⟩ := ev
      simp only [Option.some.injEq, Addr.mk.injEq] at ev2
      obtain ⟨⟨rfl, rfl, _⟩, _, rfl⟩ := ev2
      have q1 : W.cell? ⟨b, off + (i + n), none⟩ = some (.int .u8 (x : Int)) := hc1
      have q2 : W.cell? ⟨b, off + (i - d + n), none⟩ = some (.int .u8 (y : Int)) := hc2
      have a1 : (i : Int) + (n : Int) = ((i + n : Nat) : Int) := by omega
      have a2 : ((i + n : Nat) : Int) - (d : Int) = ((i - d + n : Nat) : Int) := by omega
      have p1 : i + n < len := by omega
      have p2 : i - d + n < len := by omega
      have hx8 : x < 256 := H8.out x (List.mem_of_getElem? ex)
      have hy8 : y < 256 := H8.out y (List.mem_of_getElem? ey)
      obtain ⟨p, ep⟩ : ∃ p, i + n = p := ⟨_, rfl⟩
      obtain ⟨r, er⟩ : ∃ p, i - d + n = p := ⟨_, rfl⟩
      have EX := Lib.hid ex
      have EY := Lib.hid ey
      rw [ep] at q1 a1 a2 p1
      rw [er] at q2 a2 p2
      have EP := Lib.hid ep
      have ER := Lib.hid er
      have w1 : IntKind.i64.wrap (p : Int) = (p : Int) := by rw [IntKind.wrap_i64]; omega
      have w2 : IntKind.i64.wrap (r : Int) = (r : Int) := by rw [IntKind.wrap_i64]; omega
      have i1 : (p : Int) < (len : Int) := by omega
      have i2 : (r : Int) < (len : Int) := by omega
      clear ex ey hc1 hc2 ep er
      by_cases hxy : x = y
      · subst hxy
        go_wp2_with fail
        go_quiet (fail)
        go_wp2_with fail
        go_roundw
        case rel =>
          refine ⟨n + 1, by omega, by go_num, fun j hj => ?_, _, (by first | rfl | rw [World.drewN_drewN])⟩
          rcases Nat.lt_or_ge j n with h1 | h1
          · exact hsame.out j h1
          · obtain rfl : j = n := by omega
            rw [EX.out, EY.out]
        case measure => simp [intOf]; omega
      · have hne : ((x : Int) == (y : Int)) = false := by simp; omega
        have hnd : decide ((x : Int) = (y : Int)) = false := decide_eq_false (by omega)
        have HN : Hid (n = S) := HS.out n hn hsame.out (.inr (by rw [EX.out, EY.out]; simp; omega))
        go_wp2_with fail
        go_quiet (fail)
        go_wp2_with fail
        go_ret
        exact ⟨by rw [HN.out]; rfl, _, (by first | rfl | rw [World.drewN_drewN])⟩
    · have d1 : decide ((n : Int) < (m : Int)) = false := decide_eq_false (by omega)
      have HN : Hid (n = S) := HS.out n hn hsame.out (.inl (by omega))
      go_wp2_with fail
      go_quiet (fail)
      go_wp2_with fail
      go_ret
      exact ⟨by rw [HN.out]; rfl, _, (by first | rfl | rw [World.drewN_drewN])⟩
theorem partInfo : (Tryd.prog.info? 85).map (fun i => (i.zero, i.size, i.bytes)) = some (some (.agg #[.int .i64 0, .int .i64 0]), 2, 16) := by kernel_rfl
/-- Two blocks of a call's own, one behind the other. -/
theorem two_blocks2 (W : World) (ty : TypeId) (x0 x1 y0 y1 : Value) : ∃ w1, w1 = (W.alloc (.cells #[x0, x1] ty)).alloc (.cells #[y0, y1] ty) ∧ w1.heap.size = W.heap.size + 2 ∧ w1.heap[W.heap.size]? = some (.cells #[x0, x1] ty (0, 0)) ∧ w1.heap[W.heap.size + 1]? = some (.cells #[y0, y1] ty (0, 0)) ∧ Below W.heap.size W w1 := by
  have hs0 : (W.alloc (.cells #[x0, x1] ty)).heap.size = W.heap.size + 1 := by
    show (W.heap.push _).size = _
    simp
  refine ⟨_, rfl, ?_, alloc_old (heap_alloc_new W _), ?_, ((Below.refl _ _).alloc (Nat.le_refl _) _).alloc (by rw [hs0]; omega) _⟩
  · show ((W.alloc _).heap.push _).size = _
    rw [Array.size_push, hs0]
  · rw [← hs0]
    exact heap_alloc_new _ _
/-- What the search comes to, at the window's place i. -/
def Best (zs : List Nat) (i : Nat) (W : World) (e : Ending) (w' : World) : Prop := ∃ n back : Nat, e = .returned (.agg #[.int .i64 (n : Int), .int .i64 (back : Int)]) ∧ Found zs i n back ∧ Below W.heap.size W w'
set_option maxHeartbeats 2000000 in
set_option maxRecDepth 100000 in
theorem match_code (g : Nat) (s t : Value) (zs st : List Nat) (i : Nat) (W : World) (hs : W.cell? ⟨g, 1, none⟩ = some s) (ht : W.cell? ⟨g, 3, none⟩ = some t) (hb : bytesIn W s zs) (hst : listed stepVal W t st) (h8 : ∀ x ∈ zs, x < 256) (hstep : Steps zs st) (hlen : st.length = zs.length - 2) (hi : i ≤ zs.length) (hl : zs.length ≤ 1099511627776) :
    Calls Tryd.prog 42 #[.pointer (some ⟨g, 1, none⟩), .int .i64 (i : Int)] W (Best zs i W) := by
  have HB := Lib.hid hb
  have H8 := Lib.hid h8
  have HS := Lib.hid hs
  have HT := Lib.hid ht
  have HST := Lib.hid hst
  have HSTEP := Lib.hid hstep
  obtain ⟨so, sc, rfl⟩ := listed_length hb
  obtain ⟨len, el⟩ : ∃ len, zs.length = len := ⟨_, rfl⟩
  have EL := Lib.hid el
  have HLEN := Lib.hid hlen
  rw [el] at HB hi hl hs HLEN HS
  have hgl : g < W.heap.size := World.block_lt_of_cell? W _ hs
  clear hb h8 hst hstep hlen ht el
  obtain ⟨w1, e1, hs1, hB0, hB1, hbl⟩ := two_blocks2 W 85 (.int .i64 0) (.int .i64 0) (.int .i64 0) (.int .i64 0)
  have hsub : (len : Int) - (i : Int) = ((len - i : Nat) : Int) := by omega
  obtain ⟨q, eq⟩ : ∃ q, len - i = q := ⟨_, rfl⟩
  have hmin := fun w => min_small 258 (q : Int) w
  have hif : (if (q : Int) < 258 then (q : Int) else 258) = ((min 258 q : Nat) : Int) := by split <;> omega
  rw [hif] at hmin
  clear hif
  obtain ⟨m, em⟩ : ∃ m, min 258 q = m := ⟨_, rfl⟩
  rw [em] at hmin
  rw [eq] at hsub
  have hqb : q ≤ 1099511627776 := by omega
  have hmq : m ≤ 258 ∧ m ≤ q ∧ (m = 258 ∨ m = q) := by omega
  obtain ⟨hm1, hm2, hm3⟩ := hmq
  have EQ := Lib.hid eq
  have HM3 := Lib.hid hm3
  have HB0 := Lib.hid hB0
  have HB1 := Lib.hid hB1
  have HBL := Lib.hid hbl
  have HS1 := Lib.hid hs1
  have p0 := cell_of_block hB0 0
  have p1 := cell_of_block hB0 1
  have r0 := cell_of_block hB1 0
  have r1 := cell_of_block hB1 1
  have f0 := unfrozen_of_block hB0 0
  have f1 := unfrozen_of_block hB0 1
  clear em eq hm3 hs1 hB0 hB1 hbl
  go_enter Tryd.func42, Tryd.ntmps42
  go_upto_region 3 with fail
  rw [← e1]
  clear e1 hmin hsub
  by_cases h3 : m < 3
  · have d3 : decide ((m : Int) < 3) = true := decide_eq_true (by omega)
    have HF := Lib.hid (Found.short zs i (by rw [EL.out]; exact hi) (by have := EL.out; have := EQ.out; have := HM3.out; omega))
    go_wp2_with fail
    refine bodyPost_ret (v := .agg #[.int .i64 ((0 : Nat) : Int), .int .i64 ((0 : Nat) : Int)]) ?_ rfl ⟨0, 0, rfl, HF.out, ?_⟩
    · simp [results, Tryd.results42, asAddr, Result.andThen, go_sem, p0, p1]
    · exact (HBL.out.setCell (p := ⟨W.heap.size, 0, none⟩) (Nat.le_refl _) _).setCell (p := ⟨W.heap.size, 1, none⟩) (Nat.le_refl _) _
  have d3 : decide ((m : Int) < 3) = false := decide_eq_false (by omega)
  have HI3 : Hid (i + 3 ≤ zs.length) := by
    show _ ≤ _
    have := EL.out
    have := EQ.out
    omega
  have HMOST : Hid (m = min 258 (zs.length - i)) := by
    show _ = _
    have := EL.out
    have := EQ.out
    have := HM3.out
    omega
  have hgw : w1.cell? ⟨g, 1, none⟩ = some (.slice so len sc) := (HBL.out.cell (p := ⟨g, 1, none⟩) hgl).trans hs
  clear hs
  go_upto_block 1 with fail
  clear p0 p1 r0 r1 f0 f1 hgw d3
  go_loopw [7, 8] (fun s7 s8 wr => ∃ n back fr d : Nat, s7 = .int .i64 (fr : Int) ∧ s8 = .int .i64 (d : Int) ∧ Hid (Seek zs i n back fr d) ∧ Hid (wr.heap[W.heap.size]? = some (.cells #[.int .i64 0, .int .i64 0] 85 (0, 0))) ∧ Hid (wr.heap[W.heap.size + 1]? = some (.cells #[.int .i64 (n : Int), .int .i64 (back : Int)] 85 (0, 0))) ∧ Hid (Below W.heap.size W wr)) (fun s7 s8 _ => (i + 300 - (intOf s7).toNat) * 40000 + (33000 - (intOf s8).toNat))
  case atStart => exact ⟨0, 0, i, 0, rfl, rfl, Seek.start zs i, HB0.out, HB1.out, HBL.out⟩
  case round =>
    obtain ⟨n, back, fr, d, rfl, rfl, hseek, hR, hB, hbl⟩ := hrel
    obtain ⟨hfi, hf3⟩ := hseek.out.fr_le HI3.out
    obtain ⟨hdm, _⟩ := hseek.out.same
    obtain ⟨j, ej⟩ : ∃ j, fr - d = j := ⟨_, rfl⟩
    have hfd : (fr : Int) - (d : Int) = (j : Int) := by omega
    obtain ⟨sv, es⟩ : ∃ x, st[fr - d]? = some x := ⟨st[fr - d]'(by have := HLEN.out; have := EL.out; omega), List.getElem?_eq_getElem _⟩
    have hsm := HSTEP.out.small _ _ es
    obtain ⟨tb, toff, tcap, rfl, hlt1, hc1⟩ := listed_cell HST.out (fr - d) sv es
    have HES := Lib.hid es
    rw [ej] at hc1
    unfold stepVal at hc1
    obtain ⟨tl, etl⟩ : ∃ x, st.length = x := ⟨_, rfl⟩
    rw [etl] at HT HST HLEN
    have hjl : j < tl := by have := HLEN.out; have := EL.out; omega
    have hfr2 : fr ≤ 1099511627776 := by have := EL.out; omega
    have c1 : wr.cell? ⟨g, 1, none⟩ = some (.slice so len sc) := (hbl.out.cell (p := ⟨g, 1, none⟩) hgl).trans HS.out
    have c3 : wr.cell? ⟨g, 3, none⟩ = some (.slice (some ⟨tb, toff, none⟩) tl tcap) := (hbl.out.cell (p := ⟨g, 3, none⟩) hgl).trans HT.out
    have cs : wr.cell? ⟨tb, toff + j, none⟩ = some (.int .i32 (sv : Int)) := (hbl.out.cell (p := ⟨tb, toff + j, none⟩) hlt1).trans hc1
    have p0 := cell_of_block hR.out 0
    have p1 := cell_of_block hR.out 1
    have r0 := cell_of_block hB.out 0
    have r1 := cell_of_block hB.out 1
    have f0 := unfrozen_of_block hR.out 0
    have f1 := unfrozen_of_block hR.out 1
    have g0 := unfrozen_of_block hB.out 0
    have g1 := unfrozen_of_block hB.out 1
    have hji : (j : Int) < (tl : Int) := by omega
    clear es hc1 ej etl
    by_cases hz : sv = 0
    · subst hz
      have HF := Lib.hid (hseek.out.over HSTEP.out HI3.out HES.out (.inl rfl))
      have z1 : ((((0 : Nat) : Int)) == 0) = true := rfl
      go_wp2_with fail
      refine bodyPost_ret (v := .agg #[.int .i64 (n : Int), .int .i64 (back : Int)]) ?_ rfl ⟨n, back, rfl, HF.out, ?_⟩
      · simp [results, Tryd.results42, asAddr, Result.andThen, go_sem, p0, p1]
      · exact (hbl.out.setCell (p := ⟨W.heap.size, 0, none⟩) (Nat.le_refl _) _).setCell (p := ⟨W.heap.size, 1, none⟩) (Nat.le_refl _) _
    · have z1 : ((sv : Int) == 0) = false := by simp; omega
      have z2 : decide ((sv : Int) = 0) = false := decide_eq_false (by omega)
      obtain ⟨D, eD⟩ : ∃ D, d + sv = D := ⟨_, rfl⟩
      have hds : (d : Int) + (sv : Int) = (D : Int) := by omega
      have hmin2 := fun w => min_small (i : Int) 32768 w
      have hif : (if (32768 : Int) < (i : Int) then (32768 : Int) else (i : Int)) = ((min i 32768 : Nat) : Int) := by split <;> omega
      rw [hif] at hmin2
      clear hif
      have HOVER : Hid (min i 32768 < D → Found zs i n back) := fun h => hseek.out.over HSTEP.out HI3.out HES.out (.inr (by omega))
      have HON : Hid (D ≤ min i 32768 → (D ≤ back ∨ sm zs i D ≤ n) → Seek zs i n back fr D) := fun h1 h2 => by
        have := hseek.out.on HSTEP.out HI3.out HES.out hz (by omega) (by rw [eD]; exact h2)
        rwa [eD] at this
      have HMO : Hid (D ≤ min i 32768 → n < sm zs i D → sm zs i D = m → Found zs i (sm zs i D) D) := fun h1 h2 h3 => by
        have := hseek.out.most HSTEP.out H8.out HI3.out HES.out hz (by omega) (by rw [eD]; exact h2) (by rw [eD, h3]; exact HMOST.out)
        rwa [eD] at this
      have HAG : Hid (D ≤ min i 32768 → n < sm zs i D → sm zs i D < m → 3 ≤ sm zs i D ∧ Seek zs i (sm zs i D) D (i + sm zs i D - 2) 0 ∧ fr < i + sm zs i D - 2) := fun h1 h2 h3 => by
        have h4 := hseek.out.again HSTEP.out H8.out HI3.out HES.out hz (by omega) (by rw [eD]; exact h2) (by rw [eD]; have := HMOST.out; omega)
        have h5 := (hseek.out.better HSTEP.out H8.out HI3.out HES.out hz (by omega) (by rw [eD]; exact h2)).1
        rw [eD] at h4 h5
        refine ⟨h5, h4, ?_⟩
        rcases hseek.out.at_ with ⟨rfl, rfl, rfl⟩ | ⟨a1, a2, a3, rfl, _⟩ <;> omega
      obtain ⟨M, eM⟩ : ∃ M, min i 32768 = M := ⟨_, rfl⟩
      rw [eM] at hmin2 HOVER HON HMO HAG hdm
      have hMi : M ≤ i ∧ M ≤ 32768 := by omega
      obtain ⟨hMi1, hMi2⟩ := hMi
      have hdD : d < D := by omega
      clear eD eM
      by_cases hov : M < D
      · have d1 : decide ((M : Int) < (D : Int)) = true := decide_eq_true (by omega)
        have d1n : decide (M < D) = true := decide_eq_true hov
        have HF := Lib.hid (HOVER.out hov)
        go_wp2_with fail
        refine bodyPost_ret (v := .agg #[.int .i64 (n : Int), .int .i64 (back : Int)]) ?_ rfl ⟨n, back, rfl, HF.out, ?_⟩
        · simp [results, Tryd.results42, asAddr, Result.andThen, go_sem, p0, p1]
        · exact (hbl.out.setCell (p := ⟨W.heap.size, 0, none⟩) (Nat.le_refl _) _).setCell (p := ⟨W.heap.size, 1, none⟩) (Nat.le_refl _) _
      · have d1 : decide ((M : Int) < (D : Int)) = false := decide_eq_false (by omega)
        have d1n : decide (M < D) = false := decide_eq_false hov
        by_cases hk : D ≤ back
        · have d2 : decide ((D : Int) ≤ (back : Int)) = true := decide_eq_true (by omega)
          have d2n : decide (D ≤ back) = true := decide_eq_true hk
          have HF := Lib.hid (HON.out (by omega) (.inl hk))
          go_wp2_with fail
          go_roundw
          case rel => exact ⟨n, back, fr, D, rfl, rfl, HF.out, hR, hB, hbl⟩
          case measure => simp [intOf]; omega
        · have d2 : decide ((D : Int) ≤ (back : Int)) = false := decide_eq_false (by omega)
          have d2n : decide (D ≤ back) = false := decide_eq_false hk
          have KS := same_code g (.slice so len sc) zs i D m wr c1 (listed_on HB.out hbl.out) H8.out (by omega) (by rw [EL.out]; omega) (by rw [EL.out]; omega) HMOST.out
          have hS := sm_le zs i D (by rw [EL.out]; omega)
          obtain ⟨S, eS⟩ : ∃ S, sm zs i D = S := ⟨_, rfl⟩
          rw [eS] at KS hS HON HMO HAG
          have hSm : S ≤ m := by have := HMOST.out; omega
          have hS258 : S ≤ 258 := hS.1
          clear hS eS
          go_wp2_with fail
          go_at_call 56
          refine KS.mono ?_
          rintro e w' ⟨rfl, k, rfl⟩
          by_cases hb : n < S
          · have d3 : decide ((n : Int) < (S : Int)) = true := decide_eq_true (by omega)
            have d3n : decide (n < S) = true := decide_eq_true hb
            by_cases hmo : S = m
            · subst hmo
              have HF := Lib.hid (HMO.out (by omega) hb rfl)
              go_wp2_with fail
              refine bodyPost_ret (v := .agg #[.int .i64 (S : Int), .int .i64 (D : Int)]) ?_ rfl ⟨S, D, rfl, HF.out, ?_⟩
              · simp [results, Tryd.results42, asAddr, Result.andThen, go_sem, p0, p1]
              · exact ((((below_drewN hbl.out k).setCell (p := ⟨W.heap.size + 1, 0, none⟩) (Nat.le_succ _) _).setCell (p := ⟨W.heap.size + 1, 1, none⟩) (Nat.le_succ _) _).setCell (p := ⟨W.heap.size, 0, none⟩) (Nat.le_refl _) _).setCell (p := ⟨W.heap.size, 1, none⟩) (Nat.le_refl _) _
            · have hnd1 : ((S : Int) == (m : Int)) = false := by simp; omega
              have hnd2 : decide ((S : Int) = (m : Int)) = false := decide_eq_false (by omega)
              obtain ⟨h3', hsk, hfr⟩ := HAG.out (by omega) hb (by omega)
              have HSK := Lib.hid hsk
              obtain ⟨F, eF⟩ : ∃ F, i + S - 2 = F := ⟨_, rfl⟩
              rw [eF] at HSK hfr
              have hF1 : (i : Int) + (S : Int) - 2 = (F : Int) := by omega
              have hF2 : F ≤ i + 258 := by omega
              have hblk : Hid (((wr.setCell ⟨W.heap.size + 1, 0, none⟩ (.int .i64 (S : Int))).setCell ⟨W.heap.size + 1, 1, none⟩ (.int .i64 (D : Int))).heap[W.heap.size + 1]? = some (.cells #[.int .i64 (S : Int), .int .i64 (D : Int)] 85 (0, 0))) := block_setCell (block_setCell hB.out _) _
              clear hsk eF
              go_wp2_with fail
              go_roundw
              case rel => exact ⟨S, D, F, 0, by go_num, rfl, HSK.out, (by show _ = _; rw [Below.heap_setCell _ _ _ _ (by show W.heap.size ≠ W.heap.size + 1; omega), Below.heap_setCell _ _ _ _ (by show W.heap.size ≠ W.heap.size + 1; omega)]; exact hR.out), hblk.out, ((below_drewN hbl.out k).setCell (p := ⟨W.heap.size + 1, 0, none⟩) (Nat.le_succ _) _).setCell (p := ⟨W.heap.size + 1, 1, none⟩) (Nat.le_succ _) _⟩
              case measure => simp [intOf]; omega
          · have d3 : decide ((n : Int) < (S : Int)) = false := decide_eq_false (by omega)
            have d3n : decide (n < S) = false := decide_eq_false hb
            have HF := Lib.hid (HON.out (by omega) (.inr (by omega)))
            go_wp2_with fail
            go_roundw
            case rel => exact ⟨n, back, fr, D, rfl, rfl, HF.out, hR.out, hB.out, below_drewN hbl.out k⟩
            case measure => simp [intOf]; omega
end Go.Proofs.YtbhmjppnhlmefaaDoor.Fx
