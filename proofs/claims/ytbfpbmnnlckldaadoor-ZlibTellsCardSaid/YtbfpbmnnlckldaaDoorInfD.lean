/-
  A stream in memory; faults that go up; bits that are got, room, as landed. The conditions stand in each.
  Codes in memory; whether there is one alone, how deep they are, a symbol, as landed. The conditions stand in each.
  A symbol, got bit by bit, as landed. The conditions stand in it.
  Lengths and distances, as landed. The conditions stand in each.
-/
import Derived.Test.YtbfpbmnnlckldaaDoorBitsCg
import Derived.Test.YtbfpbmnnlckldaaDoorInfR
import Derived.WalkLawsBesides
import Derived.StillTailTactics
namespace Go.Proofs.YtbfpbmnnlckldaaDoor.Fx
open Go Go.RowKit Go.Joins
set_option linter.unusedVariables false
/-- What goes up: an error's number. -/
def fault (k : Nat) : List PanicEntry := [{ v := .iface 25 (.int .i64 (k : Int)), recovered := false }]
/-- A stream: its block g, what it reads, its bytes, its room; fx: its fixed codes; O: the blocks that are its own. -/
structure Strm (w : World) (g : Nat) (L : List Bool) (m : Nat) (s : St) (fx : Value) (O : Nat → Prop) (r v : Value) (R : Nat → Prop) : Prop where
  obj : w.heap[g]? = some (.cells #[r, v, .int .i64 (m : Int), fx] 103 (0, 0))
  rd : isR w r L s.pos R
  row : w.ownsRow 0 5 1 v s.out.length (s.out.map byteVal)
  gr : ¬ R g
  gv : v.ownBlock ≠ some g
  rv : ∀ k, R k → v.ownBlock ≠ some k
  own : O = fun k => k = g ∨ R k ∨ v.ownBlock = some k
def isS (w : World) (g : Nat) (L : List Bool) (m : Nat) (s : St) (fx : Value) (O : Nat → Prop) : Prop := ∃ r v R, Strm w g L m s fx O r v R
/-- From one world to the next: the blocks that are its own, all others kept. -/
structure WentOn (O O' : Nat → Prop) (w w' : World) : Prop where
  own : ∀ b, O' b → O b ∨ w.heap.size ≤ b
  past : Past O w w'
theorem WentOn.refl (O : Nat → Prop) (w : World) : WentOn O O w w := ⟨fun b h => .inl h, Past.refl _ _⟩
theorem WentOn.trans {O O' O'' : Nat → Prop} {w w' w'' : World} (h : WentOn O O' w w') (k : WentOn O' O'' w' w'') : WentOn O O'' w w'' :=
  ⟨fun b hb => (k.own b hb).elim (fun h1 => h.own b h1) (fun h1 => .inr (Nat.le_trans h.past.size h1)), h.past.trans k.past h.own⟩
theorem WentOn.on {O O' : Nat → Prop} {w w' w'' : World} (h : WentOn O O' w w') (k : Past O' w' w'') : Past O w w'' := h.past.trans k h.own
theorem isS_lt {w : World} {g : Nat} {L : List Bool} {m : Nat} {s : St} {fx : Value} {O : Nat → Prop} (h : isS w g L m s fx O) : ∀ k, O k → k < w.heap.size := by
  obtain ⟨r, v, R, h⟩ := h
  intro k hk
  rw [h.own] at hk
  rcases hk with rfl | hk | hk
  · exact (Array.getElem?_eq_some_iff.1 h.obj).1
  · exact isR_lt _ _ _ _ _ h.rd k hk
  · exact (h.row.lt k hk).2
theorem isS_keep {w w' : World} {g : Nat} {L : List Bool} {m : Nat} {s : St} {fx : Value} {O : Nat → Prop} (h : isS w g L m s fx O) (hs : w.heap.size ≤ w'.heap.size) (hk : ∀ k, O k → w'.heap[k]? = w.heap[k]?) : isS w' g L m s fx O := by
  obtain ⟨r, v, R, h⟩ := h
  have ho := h.own
  subst ho
  exact ⟨r, v, R, (hk g (.inl rfl)).trans h.obj, isR_keep _ _ _ _ _ _ h.rd hs (fun k hh => hk k (.inr (.inl hh))), ownsRow_same h.row (fun k hh => hk k (.inr (.inr hh))), h.gr, h.gv, h.rv, rfl⟩
theorem isS_drew {w : World} {g : Nat} {L : List Bool} {m : Nat} {s : St} {fx : Value} {O : Nat → Prop} (h : isS w g L m s fx O) : isS w.drew g L m s fx O := isS_keep h (Nat.le_refl _) (fun _ _ => rfl)
theorem isS_own {w : World} {g : Nat} {L : List Bool} {m : Nat} {s : St} {fx : Value} {O : Nat → Prop} (h : isS w g L m s fx O) : O g := by
  obtain ⟨r, v, R, h⟩ := h
  rw [h.own]
  exact .inl rfl
/-- What a call comes to that goes a way. -/
def Goes {α : Type} (x : Way α) (L : List Bool) (m : Nat) (s : St) (val : α → Value) (g : Nat) (fx : Value) (O : Nat → Prop) (w : World) (e : Ending) (w' : World) : Prop :=
  (∃ a t O', Says x L m s (.ok a t) ∧ e = .returned (val a) ∧ isS w' g L m t fx O' ∧ WentOn O O' w w') ∨ (∃ k, Says x L m s (.err k) ∧ e = .panicked (fault k) ∧ Past O w w')
theorem drew_past (O : Nat → Prop) (w : World) : Past O w w.drew := ⟨rfl, rfl, rfl, Nat.le_refl _, fun _ _ _ => rfl⟩
theorem went_drew {O O' : Nat → Prop} {w w' : World} (h : WentOn O O' w.drew w') : WentOn O O' w w' := WentOn.trans ⟨fun b h => .inl h, drew_past O w⟩ h
theorem past_drew {O : Nat → Prop} {w w' : World} (h : Past O w.drew w') : Past O w w' := (drew_past O w).trans h (fun b h => .inl h)
/-! ### Small calls -/
theorem refuse_code (b : Bool) (k : Nat) (w : World) : Calls Tryd.prog 87 #[.bool b, .int .i64 (k : Int)] w fun e w' => (if b then e = .panicked (fault k) else e = .returned (.tuple #[])) ∧ w = w' := by
  cases b with
  | true =>
    go_enter Tryd.func87, Tryd.ntmps87
    go_wp2
    exact ⟨rfl, rfl, rfl⟩
  | false =>
    go_enter Tryd.func87, Tryd.ntmps87
    go_wp2
    go_end0
    exact ⟨rfl, rfl⟩
theorem refuse_no (k : Int) (w : World) : Calls Tryd.prog 87 #[.bool false, .int .i64 k] w fun e w' => e = .returned (.tuple #[]) ∧ w = w' := by
  go_enter Tryd.func87, Tryd.ntmps87
  go_wp2
  go_end0
  exact ⟨rfl, rfl⟩
theorem refuse_yes (k : Nat) (w : World) : Calls Tryd.prog 87 #[.bool true, .int .i64 (k : Int)] w fun e w' => e = .panicked (fault k) ∧ w = w' := by
  go_enter Tryd.func87, Tryd.ntmps87
  go_wp2
  exact ⟨rfl, rfl, rfl⟩
/-- A stream of which the reader alone is another one. -/
theorem Strm.read {w w' : World} {g : Nat} {L : List Bool} {m : Nat} {s : St} {fx : Value} {O : Nat → Prop} {r v : Value} {R R' : Nat → Prop} {p : Nat} (h : Strm w g L m s fx O r v R) (h1 : isR w' r L p R') (h2 : ∀ b, R' b → R b ∨ w.heap.size ≤ b) (h3 : Past R w w') :
    ∃ O', Strm w' g L m ⟨p, s.out⟩ fx O' r v R' ∧ WentOn O O' w w' := by
  have hg := (Array.getElem?_eq_some_iff.1 h.obj).1
  have ho := h.own
  subst ho
  refine ⟨_, ⟨(h3.block g hg h.gr).trans h.obj, h1, ownsRow_same h.row (fun k hk => h3.block k (h.row.lt k hk).2 (fun hr => h.rv k hr hk)), fun hr => ?_, h.gv, fun k hr hk => ?_, rfl⟩, fun b hb => ?_, h3.os, h3.tape, h3.output, h3.size, fun k hk hn => h3.block k hk (fun hr => hn (.inr (.inl hr)))⟩
  · exact (h2 g hr).elim h.gr (fun h => by omega)
  · have := (h.row.lt k hk).2
    exact (h2 k hr).elim (fun h4 => h.rv k h4 hk) (fun h => by omega)
  · rcases hb with hb | hb | hb
    · exact .inl (.inl hb)
    · exact (h2 b hb).imp (fun h => .inr (.inl h)) id
    · exact .inl (.inr (.inr hb))
theorem Strm.past {w w' : World} {g : Nat} {L : List Bool} {m : Nat} {s : St} {fx : Value} {O : Nat → Prop} {r v : Value} {R : Nat → Prop} (h : Strm w g L m s fx O r v R) (h3 : Past R w w') : Past O w w' :=
  ⟨h3.os, h3.tape, h3.output, h3.size, fun k hk hn => h3.block k hk (fun hr => hn (by rw [h.own]; exact .inr (.inl hr)))⟩
theorem get_str (w : World) (g : Nat) (L : List Bool) (m : Nat) (s : St) (fx : Value) (O : Nat → Prop) (k : Nat) (r v : Value) (R : Nat → Prop) (h : Strm w g L m s fx O r v R) (hk : k ≤ 32) (hL : L.length ≤ 1099511627776) :
    Calls Tryd.prog 69 #[.pointer (some ⟨g, 0, none⟩), .int .i64 (k : Int)] w fun e w' => (∃ a t O' R', Says (Way.get k) L m s (.ok a t) ∧ e = .returned (.int .i64 (a : Int)) ∧ Strm w' g L m t fx O' r v R' ∧ WentOn O O' w w') ∨ (∃ k', Says (Way.get k) L m s (.err k') ∧ e = .panicked (fault k') ∧ Past O w w') := by
  have q0 := cell_of_block h.obj 0
  by_cases hs : s.pos + k ≤ L.length
  · have HG := get_code w r L s.pos R k h.rd hk hs hL
    have hn := numAt_below L s.pos k
    have hn2 : (2 : Nat) ^ k ≤ 2 ^ 32 := Nat.pow_le_pow_right (by decide) hk
    have HS : Hid (s.pos + k ≤ L.length) := hs
    have H := Lib.hid h
    clear h hs
    obtain ⟨N, eN⟩ : ∃ N, numAt L s.pos k = N := ⟨_, rfl⟩
    have EN := Lib.hid eN
    rw [eN] at HG hn
    clear eN
    have hn3 : N ≤ 4294967295 := by omega
    clear hn hn2
    go_enter Tryd.func69, Tryd.ntmps69
    go_wp2_with fail
    go_at_call 86
    refine HG.mono ?_
    rintro e w1 ⟨R', rfl, h1, h2, h3⟩
    have H1 := Lib.hid h1
    have H2 := Lib.hid h2
    have H3 := Lib.hid h3
    clear h1 h2 h3 HG
    go_wp2_with fail
    go_at_call 87
    refine (refuse_no _ _).mono ?_
    rintro e w2 ⟨rfl, rfl⟩
    go_wp2_with fail
    go_ret
    obtain ⟨O', j1, j2⟩ := H.out.read H1.out H2.out H3.out
    have hg := Way.says_get (L := L) (m := m) (s := s) k HS.out
    rw [EN.out] at hg
    exact .inl ⟨_, _, O', R', hg, rfl, j1, j2⟩
  · have HG := getShort_code w r L s.pos R k h.rd hk (by omega) hL
    have HS : Hid (L.length < s.pos + k) := by show _ < _; omega
    have H := Lib.hid h
    clear h hs
    go_enter Tryd.func69, Tryd.ntmps69
    go_wp2_with fail
    go_at_call 86
    refine HG.mono ?_
    rintro e w1 ⟨R', rfl, h1, h2, h3⟩
    have H1 := Lib.hid h1
    have H2 := Lib.hid h2
    have H3 := Lib.hid h3
    clear h1 h2 h3 HG
    go_wp2_with fail
    go_at_call 87
    refine (refuse_yes 12 _).mono ?_
    rintro e w2 ⟨rfl, rfl⟩
    go_wp2_with fail
    exact ⟨rfl, .inr ⟨12, Way.says_get_short k HS.out, rfl, H.out.past H3.out⟩⟩
theorem get_go (w : World) (g : Nat) (L : List Bool) (m : Nat) (s : St) (fx : Value) (O : Nat → Prop) (k : Nat) (h : isS w g L m s fx O) (hk : k ≤ 32) (hL : L.length ≤ 1099511627776) :
    Calls Tryd.prog 69 #[.pointer (some ⟨g, 0, none⟩), .int .i64 (k : Int)] w (Goes (Way.get k) L m s (fun n => .int .i64 (n : Int)) g fx O w) := by
  obtain ⟨r, v, R, h⟩ := h
  refine (get_str w g L m s fx O k r v R h hk hL).mono ?_
  rintro e w' (⟨a, t, O', R', h1, h2, h3, h4⟩ | h)
  · exact .inl ⟨a, t, O', h1, h2, ⟨r, v, R', h3⟩, h4⟩
  · exact .inr h
/-! ### A byte more -/
theorem Strm.grown {w w1 w2 : World} {g : Nat} {L : List Bool} {m : Nat} {s : St} {fx : Value} {O : Nat → Prop} {r v : Value} {R : Nat → Prop} (h : Strm w g L m s fx O r v R) (hb : Below w.heap.size w w1) (hgr : w1.grownBy w2 v.ownBlock) :
    w2.heap[g]? = some (.cells #[r, v, .int .i64 (m : Int), fx] 103 (0, 0)) := by
  have hg := (Array.getElem?_eq_some_iff.1 h.obj).1
  have := hgr.block g (Nat.lt_of_lt_of_le hg hb.size) (fun e => h.gv e.symm)
  exact this.trans ((hb.block g hg).trans h.obj)
theorem Strm.push {w w1 w2 : World} {g : Nat} {L : List Bool} {m : Nat} {s : St} {fx : Value} {O : Nat → Prop} {r v v' : Value} {R : Nat → Prop} {x : Nat} (h : Strm w g L m s fx O r v R) (hb : Below w.heap.size w w1) (hgr : w1.grownBy w2 v.ownBlock)
    (hown : w2.ownsRow 0 5 1 v' (s.out.length + 1) ((s.out ++ [x]).map byteVal)) (hwh : ∀ k, v'.ownBlock = some k → v.ownBlock = some k ∨ w1.heap.size ≤ k) :
    ∃ O', Strm (w2.setCell ⟨g, 1, none⟩ v') g L m ⟨s.pos, s.out ++ [x]⟩ fx O' r v' R ∧ WentOn O O' w (w2.setCell ⟨g, 1, none⟩ v') := by
  have hg := (Array.getElem?_eq_some_iff.1 h.obj).1
  have hobj := h.grown hb hgr
  have hsz : (w2.setCell ⟨g, 1, none⟩ v').heap.size = w2.heap.size := by simp
  have hkeep : ∀ k, k < w.heap.size → k ≠ g → v.ownBlock ≠ some k → (w2.setCell ⟨g, 1, none⟩ v').heap[k]? = w.heap[k]? := fun k hk hkg hkv =>
    (Below.heap_setCell _ _ _ k hkg).trans ((hgr.block k (Nat.lt_of_lt_of_le hk hb.size) (fun e => hkv e.symm)).trans (hb.block k hk))
  have hlt2 : w.heap.size ≤ w2.heap.size := Nat.le_trans hb.size hgr.size
  have hgv' : v'.ownBlock ≠ some g := fun e => by
    rcases hwh g e with e2 | e2
    · exact h.gv e2
    · have := hb.size; omega
  have hRlt := isR_lt _ _ _ _ _ h.rd
  have ho := h.own
  subst ho
  refine ⟨_, ⟨block_setCell hobj v', isR_keep _ _ _ _ _ _ h.rd (by rw [hsz]; exact hlt2) (fun k hk => hkeep k (hRlt k hk) (fun e => h.gr (e ▸ hk)) (h.rv k hk)), ?_, h.gr, hgv', fun k hk e => ?_, rfl⟩, fun b hbo => ?_, ?_⟩
  · rw [List.length_append]
    exact ownsRow_same hown (fun k hk => Below.heap_setCell _ _ _ k (fun e => hgv' (by have e : k = g := e; rw [e] at hk; exact hk)))
  · rcases hwh k e with e2 | e2
    · exact h.rv k hk e2
    · have := hRlt k hk
      have := hb.size
      omega
  · rcases hbo with hbo | hbo | hbo
    · exact .inl (.inl hbo)
    · exact .inl (.inr (.inl hbo))
    · rcases hwh b hbo with e2 | e2
      · exact .inl (.inr (.inr e2))
      · exact .inr (Nat.le_trans hb.size e2)
  · exact ⟨hgr.os.trans hb.os, hgr.tape.trans hb.tape, hgr.output.trans hb.output, by rw [hsz]; exact hlt2, fun k hk hn => hkeep k hk (fun e => hn (.inl e)) (fun e => hn (.inr (.inr e)))⟩
set_option maxHeartbeats 1000000 in
set_option maxRecDepth 100000 in
theorem room_go (w : World) (g : Nat) (L : List Bool) (m : Nat) (s : St) (fx : Value) (O : Nat → Prop) (n : Nat) (h : isS w g L m s fx O) (hn : n ≤ 1099511627776) (hm : m ≤ 1099511627776) (ho : s.out.length ≤ m) :
    Calls Tryd.prog 96 #[.pointer (some ⟨g, 0, none⟩), .int .i64 (n : Int)] w (Goes (Way.room n) L m s (fun _ => .tuple #[]) g fx O w) := by
  have HI := Lib.hid h
  obtain ⟨r, v, R, h⟩ := h
  have q1 := cell_of_block h.obj 1
  have q2 := cell_of_block h.obj 2
  obtain ⟨vo, vc, rfl⟩ := row_shape h.row
  obtain ⟨l, el⟩ : ∃ l, s.out.length = l := ⟨_, rfl⟩
  have EL := Lib.hid el
  rw [el] at q1 ho
  clear h el
  have hw : IntKind.i64.wrap ((m : Int) - (l : Int)) = ((m - l : Nat) : Int) := by
    rw [IntKind.wrap_i64]
    omega
  obtain ⟨d, ed⟩ : ∃ d, m - l = d := ⟨_, rfl⟩
  have ED := Lib.hid ed
  rw [ed] at hw
  by_cases hr : n ≤ d
  · have d1 : decide ((d : Int) < (n : Int)) = false := decide_eq_false (by omega)
    have d2 : decide (d < n) = false := decide_eq_false (by omega)
    have HR : Hid (s.out.length + n ≤ m) := by show _ ≤ _; rw [EL.out]; omega
    clear ed hn hm
    go_enter Tryd.func96, Tryd.ntmps96
    go_wp2_with fail
    refine wp_region_still_tail 12 (by kernel_rfl) (by kernel_rfl) ?_
    simp only [List.take_succ_cons, List.take_zero, List.drop_succ_cons, List.drop_zero]
    repeat still_step
    refine wpStill_nil ?_
    change wpList _ _ _ _ _ w.drew
    go_wp2_with (go_at_call 87; refine (refuse_no _ _).mono ?_; rintro e w2 ⟨rfl, rfl⟩)
    go_end0
    exact .inl ⟨(), s, O, Way.says_room n HR.out, rfl, isS_keep HI.out (Nat.le_refl _) (fun _ _ => rfl), fun b h => .inl h, drew_past O w⟩
  · have d1 : decide ((d : Int) < (n : Int)) = true := decide_eq_true (by omega)
    have d2 : decide (d < n) = true := decide_eq_true (by omega)
    have HR : Hid (m < s.out.length + n) := by show _ < _; rw [EL.out]; omega
    clear ed hn hm
    go_enter Tryd.func96, Tryd.ntmps96
    go_wp2_with fail
    refine wp_region_still_tail 12 (by kernel_rfl) (by kernel_rfl) ?_
    simp only [List.take_succ_cons, List.take_zero, List.drop_succ_cons, List.drop_zero]
    repeat still_step
    refine wpStill_nil ?_
    change wpList _ _ _ _ _ w.drew
    go_wp2_with (go_at_call 87; refine (refuse_yes 3 _).mono ?_; rintro e w2 ⟨rfl, rfl⟩)
    exact ⟨rfl, .inr ⟨3, Way.says_room_long n HR.out, rfl, drew_past O w⟩⟩
end Go.Proofs.YtbfpbmnnlckldaaDoor.Fx
namespace Go.Proofs.YtbfpbmnnlckldaaDoor.Fx
open Go Go.RowKit Go.Joins
set_option linter.unusedVariables false
def natVal (n : Nat) : Value := .int .i64 (n : Int)
/-- Codes that lie at a place; K: the blocks that they read. -/
structure CodesAt (w : World) (b off : Nat) (c : Cds) (K : Nat → Prop) (v : Value) : Prop where
  counts : ∀ l, l < 16 → w.cell? ⟨b, off + l, none⟩ = some (.int .i64 (c.counts.getD l 0 : Nat))
  list : w.cell? ⟨b, off + 16, none⟩ = some v
  syms : listed natVal w v c.syms
  own : K = fun k => k = b ∨ inBlock v k
def isCd (w : World) (b off : Nat) (c : Cds) (K : Nat → Prop) : Prop := ∃ v, CodesAt w b off c K v
/-- Codes that are as they should be. -/
structure Fit (c : Cds) : Prop where
  len : c.counts.length = 16
  zero : c.counts.getD 0 0 = 0
  sum : c.syms.length = c.counts.sum
  few : c.counts.sum ≤ 400
  syms : ∀ x ∈ c.syms, x < 400
theorem newCds_fit (ls : List Nat) (h : ls.length ≤ 400) : Fit (newCds ls) where
  len := counts_length ls
  zero := by
    show (countsOf ls).getD 0 0 = 0
    rw [counts_get ls 0 (by decide), if_pos rfl]
  sum := newCds_length ls
  few := Nat.le_trans (counts_sum ls) h
  syms := fun x hx => Nat.lt_of_lt_of_le (newCds_below ls x hx) h
theorem inBlock_low {α : Type} {c : α → Value} {w : World} {s : Value} {zs : List α} (h : listed c w s zs) {b : Nat} (hb : inBlock s b) : b < w.heap.size := by
  obtain ⟨off, n, cap, rfl, hn⟩ := hb
  rcases h with ⟨⟨o, c', h, _⟩, _⟩ | ⟨b', off', cap', h, hlt, _⟩
  · simp only [Value.slice.injEq] at h
    omega
  · simp only [Value.slice.injEq, Option.some.injEq, Addr.mk.injEq] at h
    obtain ⟨⟨rfl, _⟩, _⟩ := h
    exact hlt
theorem isC_lt {w : World} {b off : Nat} {c : Cds} {K : Nat → Prop} (h : isCd w b off c K) : ∀ k, K k → k < w.heap.size := by
  obtain ⟨v, h⟩ := h
  intro k hk
  rw [h.own] at hk
  rcases hk with rfl | hk
  · exact World.block_lt_of_cell? w _ h.list
  · exact inBlock_low h.syms hk
theorem isC_keep {w w' : World} {b off : Nat} {c : Cds} {K : Nat → Prop} (h : isCd w b off c K) (hs : w.heap.size ≤ w'.heap.size) (hk : ∀ k, K k → w'.heap[k]? = w.heap[k]?) : isCd w' b off c K := by
  obtain ⟨v, h⟩ := h
  have ho := h.own
  subst ho
  have hb := hk b (.inl rfl)
  exact ⟨v, fun l hl => (World.cell?_of_block (a := ⟨b, off + l, none⟩) hb).trans (h.counts l hl), (World.cell?_of_block (a := ⟨b, off + 16, none⟩) hb).trans h.list, listed_kept h.syms hs (fun k hh => hk k (.inr hh)), rfl⟩
theorem isC_went {w w' : World} {b off : Nat} {c : Cds} {K O : Nat → Prop} (h : isCd w b off c K) (hp : Past O w w') (hK : ∀ k, K k → ¬ O k) : isCd w' b off c K :=
  isC_keep h hp.size (fun k hk => hp.block k (isC_lt h k hk) (hK k hk))
theorem alone_code (w : World) (b off : Nat) (c : Cds) (K : Nat → Prop) (h : isCd w b off c K) :
    Calls Tryd.prog 108 #[.pointer (some ⟨b, off, none⟩)] w fun e w' => e = .returned (.bool (decide c.alone)) ∧ w = w' := by
  obtain ⟨v, h⟩ := h
  have q1 := h.counts 1 (by decide)
  have q2 := h.list
  obtain ⟨vo, vc, rfl⟩ := listed_length h.syms
  have e : decide c.alone = (decide (c.syms.length = 1) && decide (c.counts.getD 1 0 = 1)) := by
    unfold Cds.alone
    simp
  rw [e]
  clear h e
  generalize c.syms.length = n at *
  generalize c.counts.getD 1 0 = k at *
  by_cases h1 : n = 1
  · by_cases h2 : k = 1
    · subst h1; subst h2
      go_enter Tryd.func108, Tryd.ntmps108
      go_wp2_with fail
      go_ret
      first | exact ⟨rfl, rfl⟩ | simp
    · subst h1
      have d2 : ((k : Int) == 1) = false := by simp; omega
      have d3 : decide (k = 1) = false := decide_eq_false h2
      rw [d3]
      go_enter Tryd.func108, Tryd.ntmps108
      go_wp2_with fail
      go_ret
      first | exact ⟨rfl, rfl⟩ | simp
  · have d2 : ((n : Int) == 1) = false := by simp; omega
    have d3 : decide (n = 1) = false := decide_eq_false h1
    rw [d3]
    go_enter Tryd.func108, Tryd.ntmps108
    go_wp2_with fail
    go_ret
    first | exact ⟨rfl, rfl⟩ | simp
theorem deepest_code (w : World) (b off : Nat) (c : Cds) (K : Nat → Prop) (h : isCd w b off c K) :
    Calls Tryd.prog 106 #[.pointer (some ⟨b, off, none⟩)] w fun e w' => e = .returned (.int .i64 (c.deepest : Nat)) ∧ w = w' := by
  have HA := alone_code w b off c K h
  clear h
  unfold Cds.deepest
  by_cases ha : c.alone
  · rw [decide_eq_true ha] at HA
    rw [if_pos ha]
    clear ha
    go_enter Tryd.func106, Tryd.ntmps106
    go_wp2_with fail
    go_at_call 108
    refine HA.mono ?_
    rintro e w1 ⟨rfl, rfl⟩
    go_wp2_with fail
    go_ret
    exact ⟨rfl, rfl⟩
  · rw [decide_eq_false ha] at HA
    rw [if_neg ha]
    clear ha
    go_enter Tryd.func106, Tryd.ntmps106
    go_wp2_with fail
    go_at_call 108
    refine HA.mono ?_
    rintro e w1 ⟨rfl, rfl⟩
    go_wp2_with fail
    go_ret
    exact ⟨rfl, rfl⟩
end Go.Proofs.YtbfpbmnnlckldaaDoor.Fx
namespace Go.Proofs.YtbfpbmnnlckldaaDoor.Fx
open Go Go.RowKit Go.Joins
set_option linter.unusedVariables false
theorem get_said {k : Nat} {L : List Bool} {m : Nat} {s u : St} {a : Nat} (h : Says (Way.get k) L m s (.ok a u)) : a < 2 ^ k ∧ u = ⟨s.pos + k, s.out⟩ ∧ s.pos + k ≤ L.length := by
  by_cases hs : s.pos + k ≤ L.length
  · have := Way.says_one h (Way.says_get (L := L) (m := m) (s := s) k hs)
    cases this
    exact ⟨numAt_below _ _ _, rfl, hs⟩
  · have := Way.says_one h (Way.says_get_short (L := L) (m := m) (s := s) k (by omega))
    cases this
theorem Fit.count_le {c : Cds} (h : Fit c) (l : Nat) : (c.counts.take l).sum + c.counts.getD l 0 ≤ c.counts.sum := by
  rw [← sum_take_succ]
  exact sum_take_le _ _
set_option maxHeartbeats 2000000 in
set_option maxRecDepth 100000 in
theorem symbol_go (w : World) (g : Nat) (L : List Bool) (m : Nat) (s : St) (fx : Value) (O : Nat → Prop) (b off : Nat) (c : Cds) (K : Nat → Prop) (h : isS w g L m s fx O) (hc : isCd w b off c K) (hK : ∀ k, K k → ¬ O k) (hf : Fit c) (hL : L.length ≤ 1099511627776) :
    Calls Tryd.prog 99 #[.pointer (some ⟨g, 0, none⟩), .pointer (some ⟨b, off, none⟩)] w (Goes (symW c) L m s (fun n => .int .i64 (n : Int)) g fx O w) := by
  have HD := deepest_code w b off c K hc
  have hD : c.deepest ≤ 15 := by unfold Cds.deepest; split <;> omega
  have HR0 : Hid (∀ r, Says (symFrom c (c.deepest + 1 - 1) 1 0 0 0) L m s r → Says (symW c) L m s r) := fun r h => h
  obtain ⟨D, eD⟩ : ∃ D, c.deepest = D := ⟨_, rfl⟩
  rw [eD] at HD hD HR0
  have HP0 : Hid (0 = (c.counts.take 1).sum) := by
    show _ = _
    rw [sum_take_succ c.counts 0, hf.zero]
    rfl
  have HS0 := Lib.hid h
  have HC := Lib.hid hc
  have HK := Lib.hid hK
  have HF := Lib.hid hf
  have HL := Lib.hid hL
  clear h hc hK hf hL eD
  go_enter Tryd.func99, Tryd.ntmps99
  go_wp2_with fail
  go_at_call 106
  refine HD.mono ?_
  rintro e w1 ⟨rfl, rfl⟩
  clear HD
  go_wp2_with fail
  go_loopw [5, 6, 7, 8] (fun u5 u6 u7 u8 wr => ∃ (l code first place : Nat) (t : St) (O' : Nat → Prop), u5 = .int .i64 code ∧ u6 = .int .i64 first ∧ u7 = .int .i64 place ∧ u8 = .int .i64 l ∧ 1 ≤ l ∧ l ≤ D + 1 ∧ code < 2 ^ (l - 1) ∧ first ≤ code ∧ Hid (place = (c.counts.take l).sum) ∧ Hid (isS wr g L m t fx O') ∧ Hid (WentOn O O' w wr) ∧ Hid (∀ r, Says (symFrom c (D + 1 - l) l code first place) L m t r → Says (symW c) L m s r)) (fun _ _ _ u8 _ => 17 - (intOf u8).toNat)
  case atStart => exact ⟨1, 0, 0, 0, s, O, rfl, rfl, rfl, rfl, Nat.le_refl _, by omega, by decide, Nat.le_refl _, HP0, HS0, WentOn.refl _ _, HR0⟩
  case round =>
    obtain ⟨l, code, first, place, t, O', rfl, rfl, rfl, rfl, hl1, hl2, hcode, hfc, hpl, hS, hW, hR⟩ := hrel
    by_cases hlD : l ≤ D
    · have d1 : decide ((l : Int) ≤ (D : Int)) = true := decide_eq_true (by omega)
      have d2 : decide (l ≤ D) = true := decide_eq_true hlD
      have hpow : 2 ^ (l - 1) ≤ 2 ^ 14 := Nat.pow_le_pow_right (by decide) (by omega)
      have hc15 : code ≤ 16383 := by omega
      have HCB : Hid (code < 2 ^ (l - 1)) := hcode
      obtain ⟨n, en⟩ : ∃ n, D + 1 - l = n + 1 := ⟨D - l, by omega⟩
      have EN : Hid (D + 1 - (l + 1) = n) := by show _ = _; omega
      have HR1 : Hid (∀ r, Says ((Way.get 1).bind fun b => if 2 * code + b < 2 * first + c.counts.getD l 0 then Way.pure (c.syms.getD (place + (2 * code + b) - 2 * first) 0) else symFrom c n (l + 1) (2 * code + b) (2 * first + c.counts.getD l 0) (place + c.counts.getD l 0)) L m t r → Says (symW c) L m s r) := fun r h => hR.out r (by rw [en]; exact h)
      have HG := get_go wr g L m t fx O' 1 hS.out (by decide) HL.out
      have hcnt := HF.out.count_le l
      rw [← hpl.out, ← HF.out.sum] at hcnt
      have hfew := HF.out.few
      rw [← HF.out.sum] at hfew
      obtain ⟨cnt, ecnt⟩ : ∃ x, c.counts.getD l 0 = x := ⟨_, rfl⟩
      have ECN := Lib.hid ecnt
      rw [ecnt] at hcnt HR1
      have HPL : Hid (place + cnt = (c.counts.take (l + 1)).sum) := by
        show _ = _
        rw [sum_take_succ, ← hpl.out, ecnt]
      clear hcode hpow en hR hpl hS ecnt
      go_wp2_with fail
      go_at_call 69
      refine HG.mono ?_
      clear HG
      rintro e w2 (⟨a, u, O2, hs, rfl, h1, h2⟩ | ⟨k, hs, rfl, hp⟩)
      · obtain ⟨ha, hu, hu2⟩ := get_said hs
        have ha : a ≤ 1 := by omega
        have HS2 := Lib.hid h1
        have HW2 := Lib.hid (hW.out.trans h2)
        have HSY := Lib.hid hs
        obtain ⟨v, hv⟩ := isC_went HC.out HW2.out.past HK.out
        have qc := hv.counts l (by omega)
        rw [ECN.out] at qc
        have q16 := hv.list
        have HV := Lib.hid hv.syms
        obtain ⟨vo, vc, ev⟩ := listed_length hv.syms
        subst ev
        obtain ⟨N, eN⟩ : ∃ x, c.syms.length = x := ⟨_, rfl⟩
        have ENN := Lib.hid eN
        rw [eN] at hcnt hfew q16
        clear hs hu hu2 h1 h2 hv eN
        obtain ⟨C2, eC2⟩ : ∃ x, 2 * code + a = x := ⟨_, rfl⟩
        obtain ⟨F2, eF2⟩ : ∃ x, 2 * first = x := ⟨_, rfl⟩
        have e1 : 2 * (code : Int) + (a : Int) = (C2 : Int) := by omega
        have e2 : (first : Int) * 2 = (F2 : Int) := by omega
        obtain ⟨J, eJ⟩ : ∃ x, C2 - F2 = x := ⟨_, rfl⟩
        have e3 : (C2 : Int) - (F2 : Int) = (J : Int) := by omega
        have HEC := Lib.hid eC2
        have HEF := Lib.hid eF2
        have bC2 : C2 ≤ 32767 := by omega
        have bF2 : F2 ≤ C2 := by omega
        have bJ : J ≤ C2 := by omega
        have EJ := Lib.hid eJ
        have hc2 : C2 < 2 ^ l := by
          have h1 := HCB.out
          have h2 : 2 ^ l = 2 * 2 ^ (l - 1) := by
            conv => lhs; rw [show l = (l - 1) + 1 by omega, Nat.pow_succ]
            omega
          omega
        have HC2 := Lib.hid hc2
        clear eC2 eF2 eJ hc2
        by_cases hlt : J < cnt
        · have d3 : decide ((J : Int) < (cnt : Int)) = true := decide_eq_true (by omega)
          have d4 : decide (J < cnt) = true := decide_eq_true hlt
          obtain ⟨x, ex⟩ : ∃ x, c.syms[place + J]? = some x := ⟨c.syms[place + J]'(by rw [ENN.out]; omega), List.getElem?_eq_getElem _⟩
          obtain ⟨vb, vof, vcap, ev, hvlt, hcell⟩ := listed_cell HV.out (place + J) x ex
          rw [ENN.out] at ev
          simp only [Value.slice.injEq] at ev
          obtain ⟨rfl, _, rfl⟩ := ev
          have HX : Hid (c.syms.getD (place + C2 - F2) 0 = x) := by
            show _ = _
            rw [show place + C2 - F2 = place + J by have := EJ.out; omega, List.getD_eq_getElem?_getD, ex]
            rfl
          unfold natVal at hcell
          obtain ⟨PC, ePC⟩ : ∃ x, place + C2 = x := ⟨_, rfl⟩
          obtain ⟨PJ, ePJ⟩ : ∃ x, place + J = x := ⟨_, rfl⟩
          have e4 : (place : Int) + (C2 : Int) = (PC : Int) := by omega
          have e5 : (PC : Int) - (F2 : Int) = (PJ : Int) := by have := EJ.out; omega
          have bPJ : PJ < N := by omega
          have bPC : PC ≤ 40000 := by omega
          rw [ePJ] at hcell
          have HLT : Hid (2 * code + a < 2 * first + cnt) := by have := EJ.out; have := HEC.out; have := HEF.out; show _ < _; omega
          clear ex ePC ePJ
          go_wp2_with fail
          go_ret
          refine .inl ⟨x, u, O2, HR1.out _ (Way.says_bind HSY.out ?_), rfl, HS2.out, HW2.out⟩
          rw [if_pos HLT.out, HEC.out, HEF.out, HX.out]
          exact Way.says_pure x
        · have d3 : decide ((J : Int) < (cnt : Int)) = false := decide_eq_false (by omega)
          have d4 : decide (J < cnt) = false := decide_eq_false hlt
          have HLT : Hid (¬ 2 * code + a < 2 * first + cnt) := by have := EJ.out; have := HEC.out; have := HEF.out; show ¬ _; omega
          have HR2 : Hid (∀ r, Says (symFrom c n (l + 1) C2 (F2 + cnt) (place + cnt)) L m u r → Says (symW c) L m s r) := fun r h => HR1.out r (Way.says_bind HSY.out (by rw [if_neg HLT.out, HEC.out, HEF.out]; exact h))
          have hfc2 : F2 + cnt ≤ C2 := by have := EJ.out; omega
          go_wp2_with fail
          go_roundw
          case rel => exact ⟨l + 1, C2, F2 + cnt, place + cnt, u, O2, by go_num, by go_num, by go_num, by go_num, by omega, by omega, HC2.out, hfc2, HPL, HS2, HW2, fun r h => HR2.out r (by rw [EN.out] at h; exact h)⟩
          case measure => simp [intOf]; omega
      · go_wp2_with fail
        exact ⟨rfl, .inr ⟨k, HR1.out _ (Way.says_bind_err hs), rfl, hW.out.on hp⟩⟩
    · obtain rfl : l = D + 1 := by omega
      have d1 : decide (((D + 1 : Nat) : Int) ≤ (D : Int)) = false := decide_eq_false (by omega)
      have d2 : decide (D + 1 ≤ D) = false := decide_eq_false hlD
      have d3 : decide ((D : Int) + 1 ≤ (D : Int)) = false := decide_eq_false (by omega)
      have HR2 := hR.out (.err 10) (by rw [Nat.sub_self]; exact Way.says_fail 10)
      go_wp2_with fail
      exact ⟨rfl, .inr ⟨10, HR2, rfl, hW.out.past⟩⟩
end Go.Proofs.YtbfpbmnnlckldaaDoor.Fx
namespace Go.Proofs.YtbfpbmnnlckldaaDoor.Fx
open Go Go.RowKit Go.Joins
set_option linter.unusedVariables false
theorem max_two (a b : Int) (w : World) : (Builtin.max_ #[3, 3] 3 #[.int .i64 a, .int .i64 b]).run Tryd.prog w = .ok (.int .i64 (max a b)) w := by
  have e : max a b = if a < b then b else a := by omega
  rw [e]
  simp [Builtin.max_, Builtin.max2]
/-- A way that is done: one goal is left, for the walk to go on with. -/
theorem dead (w : World) {G : Prop} (h : G) (t : wpAny Tryd.prog .any #[] (fun _ _ _ => True) 0 #[] { tmps := #[], defers := [] } w) : G := h
theorem get_ok (w : World) (g : Nat) (L : List Bool) (m : Nat) (s : St) (fx : Value) (O : Nat → Prop) (k : Nat) (h : isS w g L m s fx O) (hk : k ≤ 32) (hL : L.length ≤ 1099511627776) (hs : s.pos + k ≤ L.length) :
    Calls Tryd.prog 69 #[.pointer (some ⟨g, 0, none⟩), .int .i64 (k : Int)] w fun e w' => ∃ O', e = .returned (.int .i64 (numAt L s.pos k : Nat)) ∧ isS w' g L m ⟨s.pos + k, s.out⟩ fx O' ∧ WentOn O O' w w' := by
  refine (get_go w g L m s fx O k h hk hL).mono ?_
  rintro e w' (⟨a, t, O', h1, rfl, h2, h3⟩ | ⟨j, h1, _⟩)
  · have := Way.says_one h1 (Way.says_get (L := L) (m := m) (s := s) k hs)
    cases this
    exact ⟨O', rfl, h2, h3⟩
  · have := Way.says_one h1 (Way.says_get (L := L) (m := m) (s := s) k hs)
    cases this
theorem get_short (w : World) (g : Nat) (L : List Bool) (m : Nat) (s : St) (fx : Value) (O : Nat → Prop) (k : Nat) (h : isS w g L m s fx O) (hk : k ≤ 32) (hL : L.length ≤ 1099511627776) (hs : L.length < s.pos + k) :
    Calls Tryd.prog 69 #[.pointer (some ⟨g, 0, none⟩), .int .i64 (k : Int)] w fun e w' => e = .panicked (fault 12) ∧ Past O w w' := by
  refine (get_go w g L m s fx O k h hk hL).mono ?_
  rintro e w' (⟨a, t, O', h1, _⟩ | ⟨j, h1, rfl, h2⟩)
  · have := Way.says_one h1 (Way.says_get_short (L := L) (m := m) (s := s) k hs)
    cases this
  · have := Way.says_one h1 (Way.says_get_short (L := L) (m := m) (s := s) k hs)
    cases this
    exact ⟨rfl, h2⟩
theorem grouped_said {code group : Nat} {L : List Bool} {m : Nat} {s u : St} {a : Nat} (h : Says (groupedW code group) L m s (.ok a u)) : a < (code + 1) * 2 ^ (code / group - 1) := by
  obtain ⟨f, h⟩ := h
  obtain ⟨b, t, h1, h2⟩ := Way.bind_ok h
  cases h2
  have hb := (get_said ⟨f, h1⟩).1
  have h3 : code - group * (code / group - 1) ≤ code := Nat.sub_le _ _
  have h4 := Nat.mul_le_mul_right (2 ^ (code / group - 1)) h3
  rw [Nat.succ_mul]
  omega
theorem grouped_below {code group : Nat} {L : List Bool} {m : Nat} {s u : St} {a : Nat} (h : Says (groupedW code group) L m s (.ok a u)) (hc : code ≤ 28) (hg : 0 < group := by decide) : a ≤ 8000000000 := by
  have h1 := grouped_said h
  have h2 : code / group - 1 ≤ 27 := by
    have := Nat.div_le_self code group
    omega
  have h3 : (2 : Nat) ^ (code / group - 1) ≤ 2 ^ 27 := Nat.pow_le_pow_right (by decide) h2
  have h4 : (code + 1) * 2 ^ (code / group - 1) ≤ 29 * 2 ^ 27 := Nat.mul_le_mul (by omega) h3
  omega
theorem grouped_less {code group : Nat} {L : List Bool} {m : Nat} {s u : St} {a : Nat} (h : Says (groupedW code group) L m s (.ok a u)) (hc : code ≤ 28 + 1) : a ≤ 8600000000 := by
  have h1 := grouped_said h
  have h2 : code / group - 1 ≤ 28 := by
    have := Nat.div_le_self code group
    omega
  have h3 : (2 : Nat) ^ (code / group - 1) ≤ 2 ^ 28 := Nat.pow_le_pow_right (by decide) h2
  have h4 : (code + 1) * 2 ^ (code / group - 1) ≤ 30 * 2 ^ 28 := Nat.mul_le_mul (by omega) h3
  omega
set_option maxHeartbeats 1000000 in
set_option maxRecDepth 100000 in
theorem grouped_go (w : World) (g : Nat) (L : List Bool) (m : Nat) (s : St) (fx : Value) (O : Nat → Prop) (code group : Nat) (h : isS w g L m s fx O) (hg : group = 2 ∨ group = 4) (hc : code / group ≤ 20) (hL : L.length ≤ 1099511627776) :
    Calls Tryd.prog 107 #[.pointer (some ⟨g, 0, none⟩), .int .i64 (code : Int), .int .i64 (group : Int)] w (Goes (groupedW code group) L m s (fun n => .int .i64 (n : Int)) g fx O w) := by
  have hmax := fun w => max_two 0 (((code / group : Nat) : Int) - 1) w
  have e0 : max 0 (((code / group : Nat) : Int) - 1) = ((code / group - 1 : Nat) : Int) := by omega
  rw [e0] at hmax
  clear e0
  have hq : (code : Int).tdiv (group : Int) = ((code / group : Nat) : Int) := by
    rw [Int.tdiv_eq_ediv_of_nonneg (by omega)]
    rfl
  have hcg : code ≤ 100 := by
    rcases hg with rfl | rfl <;> omega
  have hz : ¬ (group : Int) = 0 := by omega
  have hz2 : ((group : Int) == 0) = false := by simp; omega
  have hE : code / group - 1 ≤ 19 := by omega
  have hX : group * (code / group - 1) ≤ code := Nat.le_trans (Nat.mul_le_mul_left _ (Nat.sub_le _ _)) (Nat.mul_div_le _ _)
  have HG0 : Hid (∀ (w : World) (O : Nat → Prop), isS w g L m s fx O → s.pos + (code / group - 1) ≤ L.length → Calls Tryd.prog 69 #[.pointer (some ⟨g, 0, none⟩), .int .i64 ((code / group - 1 : Nat) : Int)] w fun e w' => ∃ O', e = .returned (.int .i64 (numAt L s.pos (code / group - 1) : Nat)) ∧ isS w' g L m ⟨s.pos + (code / group - 1), s.out⟩ fx O' ∧ WentOn O O' w w') := fun w O h => get_ok w g L m s fx O (code / group - 1) h (by omega) hL
  have HG1 : Hid (∀ (w : World) (O : Nat → Prop), isS w g L m s fx O → L.length < s.pos + (code / group - 1) → Calls Tryd.prog 69 #[.pointer (some ⟨g, 0, none⟩), .int .i64 ((code / group - 1 : Nat) : Int)] w fun e w' => e = .panicked (fault 12) ∧ Past O w w') := fun w O h => get_short w g L m s fx O (code / group - 1) h (by omega) hL
  have HW : Hid (∀ r, Says ((Way.get (code / group - 1)).bind fun b => Way.pure ((code - group * (code / group - 1)) * 2 ^ (code / group - 1) + b)) L m s r → Says (groupedW code group) L m s r) := fun r h => h
  obtain ⟨Q, eQ⟩ : ∃ Q, code / group = Q := ⟨_, rfl⟩
  rw [eQ] at hq hmax hc hE hX HG0 HG1 HW
  obtain ⟨E, eE⟩ : ∃ E, Q - 1 = E := ⟨_, rfl⟩
  rw [eE] at hmax hE hX HG0 HG1 HW
  have hpow : (2 : Nat) ^ E ≤ 2 ^ 19 := Nat.pow_le_pow_right (by decide) hE
  have HS := Lib.hid h
  clear h hL eQ eE
  have hmul : IntKind.i64.wrap ((group : Int) * (E : Int)) = ((group * E : Nat) : Int) := by
    rw [IntKind.wrap_i64, ← Int.natCast_mul]
    omega
  obtain ⟨M, eM⟩ : ∃ M, group * E = M := ⟨_, rfl⟩
  rw [eM] at hmul hX HW
  have hsub : IntKind.i64.wrap ((code : Int) - (M : Int)) = ((code - M : Nat) : Int) := by
    rw [IntKind.wrap_i64]
    omega
  obtain ⟨X, eX⟩ : ∃ X, code - M = X := ⟨_, rfl⟩
  rw [eX] at hsub HW
  have hX2 : X ≤ 100 := by omega
  clear eM eX hX
  have hbits := numAt_below L s.pos E
  obtain ⟨bv, ebv⟩ : ∃ x, numAt L s.pos E = x := ⟨_, rfl⟩
  rw [ebv] at HG0 hbits
  have HBV := Lib.hid ebv
  have hx2 : X * 2 ^ E ≤ 100 * 2 ^ 19 := Nat.mul_le_mul hX2 hpow
  have hshl : IntKind.i64.wrap ((X : Int) * 2 ^ E) = ((X * 2 ^ E : Nat) : Int) := by
    have : ((X : Int) * 2 ^ E) = ((X * 2 ^ E : Nat) : Int) := by simp
    rw [this, IntKind.wrap_i64]
    omega
  obtain ⟨Y, eY⟩ : ∃ Y, X * 2 ^ E = Y := ⟨_, rfl⟩
  rw [eY] at hshl hx2 HW
  have hbv : bv ≤ 524288 := by omega
  have hadd : IntKind.i64.wrap ((Y : Int) + (bv : Int)) = ((Y + bv : Nat) : Int) := by
    rw [IntKind.wrap_i64]
    omega
  by_cases hs : s.pos + E ≤ L.length
  · have HSP := Lib.hid hs
    have HGG := fun w h => HG0.out w O h hs
    clear hpow hbits eY hs ebv hx2 hcg hX2 HG0 HG1
    go_enter Tryd.func107, Tryd.ntmps107
    go_wp2_with fail
    go_region_with (go_at_call 69; refine (HGG w.drew (isS_drew HS.out)).mono ?_; rintro e w2 ⟨O2, rfl, h1, h2⟩)
    all_goals go_wp2_with fail
    all_goals go_simp
    all_goals go_ret
    all_goals refine .inl ⟨Y + bv, _, O2, HW.out _ (Way.says_bind (Way.says_get E HSP.out) ?_), ?_, h1, went_drew h2⟩
    · rw [HBV.out]
      exact Way.says_pure _
    · rfl
  · have HSP : Hid (L.length < s.pos + E) := by show _ < _; omega
    have HGG := fun w h => HG1.out w O h HSP.out
    clear hpow hbits eY hs ebv hx2 hcg hX2 HG0 HG1
    go_enter Tryd.func107, Tryd.ntmps107
    go_wp2_with fail
    go_region_with (go_at_call 69; refine (HGG w.drew (isS_drew HS.out)).mono ?_; rintro e w2 ⟨rfl, h2⟩; refine dead w2 ⟨rfl, .inr ⟨12, HW.out _ (Way.says_bind_err (Way.says_get_short E HSP.out)), rfl, past_drew h2⟩⟩ ?_)
    all_goals trivial
set_option maxHeartbeats 1000000 in
theorem length_go (w : World) (g : Nat) (L : List Bool) (m : Nat) (s : St) (fx : Value) (O : Nat → Prop) (x : Nat) (h : isS w g L m s fx O) (hx : 257 ≤ x) (hx2 : x ≤ 1000) (hL : L.length ≤ 1099511627776) :
    Calls Tryd.prog 100 #[.pointer (some ⟨g, 0, none⟩), .int .i64 (x : Int)] w (Goes (lengthW x) L m s (fun n => .int .i64 (n : Int)) g fx O w) := by
  have HS := Lib.hid h
  by_cases h1 : 285 < x
  · have d1 : decide ((285 : Int) < (x : Int)) = true := decide_eq_true (by omega)
    have HW : Hid (Says (lengthW x) L m s (.err 10)) := by
      refine Way.says_bind_err ?_
      unfold refuseW
      rw [if_pos h1]
      exact Way.says_fail 10
    clear h hL
    go_enter Tryd.func100, Tryd.ntmps100
    go_wp2_with fail
    go_at_call 87
    refine (refuse_yes 10 _).mono ?_
    rintro e w2 ⟨rfl, rfl⟩
    go_wp2_with fail
    exact ⟨rfl, .inr ⟨10, HW.out, rfl, Past.refl _ _⟩⟩
  · have d1 : decide ((285 : Int) < (x : Int)) = false := decide_eq_false (by omega)
    have hr : Says (refuseW (285 < x) 10) L m s (.ok () s) := by
      unfold refuseW
      rw [if_neg h1]
      exact Way.says_pure ()
    by_cases h2 : x = 285
    · subst h2
      have HW : Hid (Says (lengthW 285) L m s (.ok 258 s)) := Way.says_bind hr (Way.says_pure 258)
      clear h hL hr d1
      go_enter Tryd.func100, Tryd.ntmps100
      go_wp2_with fail
      go_at_call 87
      refine (refuse_no _ _).mono ?_
      rintro e w2 ⟨rfl, rfl⟩
      go_wp2_with fail
      go_ret
      exact .inl ⟨258, s, O, HW.out, rfl, HS.out, WentOn.refl _ _⟩
    · have d2 : ((x : Int) == 285) = false := by simp; omega
      have HW : Hid (∀ r, Says ((groupedW (x - 257) 4).bind fun n => Way.pure (3 + n)) L m s r → Says (lengthW x) L m s r) := fun r h => Way.says_bind hr (by rw [if_neg h2]; exact h)
      have HG := grouped_go w g L m s fx O (x - 257) 4 h (.inr rfl) (by omega) hL
      have e1 : (x : Int) - 257 = ((x - 257 : Nat) : Int) := by omega
      obtain ⟨y, ey⟩ : ∃ y, x - 257 = y := ⟨_, rfl⟩
      rw [ey] at e1 HG HW
      have hy : y ≤ 28 := by omega
      have HY : Hid (y ≤ 28) := hy
      clear h hL hr ey h2
      go_enter Tryd.func100, Tryd.ntmps100
      go_wp2_with fail
      go_at_call 87
      refine (refuse_no _ _).mono ?_
      rintro e w2 ⟨rfl, rfl⟩
      go_wp2_with fail
      go_at_call 107
      refine HG.mono ?_
      clear HG
      rintro e w2 (⟨a, u, O2, hs, rfl, h1, h2⟩ | ⟨k, hs, rfl, hp⟩)
      · have HSY := Lib.hid hs
        have ha := grouped_below hs HY.out
        clear hs
        go_wp2_with fail
        go_ret
        refine .inl ⟨3 + a, u, O2, HW.out _ (Way.says_bind HSY.out (Way.says_pure _)), ?_, h1, h2⟩
        go_num
      · go_wp2_with fail
        exact ⟨rfl, .inr ⟨k, HW.out _ (Way.says_bind_err hs), rfl, hp⟩⟩
theorem length_below {x : Nat} {L : List Bool} {m : Nat} {s u : St} {a : Nat} (h : Says (lengthW x) L m s (.ok a u)) : a ≤ 9000000000 := by
  obtain ⟨f, h⟩ := h
  obtain ⟨b, t, h1, h2⟩ := Way.bind_ok h
  by_cases hx : 285 < x
  · unfold refuseW at h1
    rw [if_pos hx] at h1
    cases h1
  · by_cases h285 : x = 285
    · rw [if_pos h285] at h2
      cases h2
      decide
    · rw [if_neg h285] at h2
      obtain ⟨n, t2, h3, h4⟩ := Way.bind_ok h2
      cases h4
      have := grouped_below (group := 4) ⟨f, h3⟩ (by omega)
      omega
set_option maxHeartbeats 1000000 in
theorem distance_go (w : World) (g : Nat) (L : List Bool) (m : Nat) (s : St) (fx : Value) (O : Nat → Prop) (b off : Nat) (c : Cds) (K : Nat → Prop) (h : isS w g L m s fx O) (hc : isCd w b off c K) (hK : ∀ k, K k → ¬ O k) (hf : Fit c) (hL : L.length ≤ 1099511627776) :
    Calls Tryd.prog 102 #[.pointer (some ⟨g, 0, none⟩), .pointer (some ⟨b, off, none⟩)] w (Goes (distanceW c) L m s (fun n => .int .i64 (n : Int)) g fx O w) := by
  have HS := symbol_go w g L m s fx O b off c K h hc hK hf hL
  have HL := Lib.hid hL
  clear h hc hK hf hL
  go_enter Tryd.func102, Tryd.ntmps102
  go_wp2_with fail
  go_at_call 99
  refine HS.mono ?_
  clear HS
  rintro e w1 (⟨x, u, O1, hs, rfl, h1, h2⟩ | ⟨k, hs, rfl, hp⟩)
  · have HSY := Lib.hid hs
    have H1 := Lib.hid h1
    have H2 := Lib.hid h2
    clear hs h1 h2
    by_cases hx : 30 ≤ x
    · have d1 : decide ((30 : Int) ≤ (x : Int)) = true := decide_eq_true (by omega)
      have d2 : decide (30 ≤ x) = true := decide_eq_true hx
      have HW : Hid (Says (distanceW c) L m s (.err 10)) := by
        refine Way.says_bind HSY.out (Way.says_bind_err ?_)
        unfold refuseW
        rw [if_pos hx]
        exact Way.says_fail 10
      go_wp2_with fail
      go_at_call 87
      refine (refuse_yes 10 _).mono ?_
      rintro e w2 ⟨rfl, rfl⟩
      go_wp2_with fail
      exact ⟨rfl, .inr ⟨10, HW.out, rfl, H2.out.past⟩⟩
    · have d1 : decide ((30 : Int) ≤ (x : Int)) = false := decide_eq_false (by omega)
      have d2 : decide (30 ≤ x) = false := decide_eq_false hx
      have HW : Hid (∀ r, Says ((groupedW x 2).bind fun n => Way.pure (1 + n)) L m u r → Says (distanceW c) L m s r) := fun r h => Way.says_bind HSY.out (Way.says_bind (a := ()) (u := u) (by
        unfold refuseW
        rw [if_neg hx]
        exact Way.says_pure ()) h)
      have HG := grouped_go w1 g L m u fx O1 x 2 H1.out (.inl rfl) (by omega) HL.out
      have HX : Hid (x ≤ 28 + 1) := by show _ ≤ _; omega
      go_wp2_with fail
      go_at_call 87
      refine (refuse_no _ _).mono ?_
      rintro e w2 ⟨rfl, rfl⟩
      go_wp2_with fail
      go_at_call 107
      refine HG.mono ?_
      clear HG
      rintro e w3 (⟨a, u3, O3, hs, rfl, h1, h2⟩ | ⟨k, hs, rfl, hp⟩)
      · have HS3 := Lib.hid hs
        have ha := grouped_less hs HX.out
        clear hs
        go_wp2_with fail
        go_ret
        refine .inl ⟨1 + a, u3, O3, HW.out _ (Way.says_bind HS3.out (Way.says_pure _)), ?_, h1, H2.out.trans h2⟩
        go_num
      · go_wp2_with fail
        exact ⟨rfl, .inr ⟨k, HW.out _ (Way.says_bind_err hs), rfl, H2.out.on hp⟩⟩
  · go_wp2_with fail
    exact ⟨rfl, .inr ⟨k, Way.says_bind_err hs, rfl, hp⟩⟩
theorem distance_said {c : Cds} {L : List Bool} {m : Nat} {s u : St} {a : Nat} (h : Says (distanceW c) L m s (.ok a u)) : 1 ≤ a ∧ a ≤ 9000000000 := by
  obtain ⟨f, h⟩ := h
  obtain ⟨x, t, h1, h2⟩ := Way.bind_ok h
  obtain ⟨_, t2, h3, h4⟩ := Way.bind_ok h2
  obtain ⟨n, t3, h5, h6⟩ := Way.bind_ok h4
  cases h6
  by_cases hx : 30 ≤ x
  · unfold refuseW at h3
    rw [if_pos hx] at h3
    cases h3
  · have := grouped_less (group := 2) ⟨f, h5⟩ (by omega)
    omega
end Go.Proofs.YtbfpbmnnlckldaaDoor.Fx
