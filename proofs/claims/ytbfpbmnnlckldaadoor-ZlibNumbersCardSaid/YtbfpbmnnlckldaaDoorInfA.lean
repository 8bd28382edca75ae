/-
  A stream in memory; faults that go up; bits that are got, room, as landed. The conditions stand in each.
-/
import Derived.Test.YtbfpbmnnlckldaaDoorBitsCg
import Derived.Test.YtbfpbmnnlckldaaDoorInfP
import Derived.WalkLawsBesides
import Derived.StillTailTactics
namespace Go.Proofs.YtbfpbmnnlckldaaDoor.Fx
open Go Go.RowKit Go.Joins
set_option linter.unusedVariables false
/-- What goes up: an error's number. -/
def fault (k : Nat) : List PanicEntry := [{ v := .iface 25 (.int .i64 (k : Int)), recovered := false }]
/-- A stream: its block g, what it reads, its bytes, its room; fx: its fixed codes; O: the blocks that are its own. -/
structure Strm (w : World) (g : Nat) (L : List Bool) (m : Nat) (s : St) (fx : Value) (O : Nat → Prop) (r v : Value) (R : Nat → Prop) : Prop where
  obj : w.heap[g]? = some (.cells #[r, v, .int .i64 (m : Int), fx] 103 (0, 0))
  rd : isR w r L s.pos R
  row : w.ownsRow 0 5 1 v s.out.length (s.out.map byteVal)
  gr : ¬ R g
  gv : v.ownBlock ≠ some g
  rv : ∀ k, R k → v.ownBlock ≠ some k
  own : O = fun k => k = g ∨ R k ∨ v.ownBlock = some k
def isS (w : World) (g : Nat) (L : List Bool) (m : Nat) (s : St) (fx : Value) (O : Nat → Prop) : Prop := ∃ r v R, Strm w g L m s fx O r v R
/-- From one world to the next: the blocks that are its own, all others kept. -/
structure WentOn (O O' : Nat → Prop) (w w' : World) : Prop where
  own : ∀ b, O' b → O b ∨ w.heap.size ≤ b
  past : Past O w w'
theorem WentOn.refl (O : Nat → Prop) (w : World) : WentOn O O w w := ⟨fun b h => .inl h, Past.refl _ _⟩
theorem WentOn.trans {O O' O'' : Nat → Prop} {w w' w'' : World} (h : WentOn O O' w w') (k : WentOn O' O'' w' w'') : WentOn O O'' w w'' :=
  ⟨fun b hb => (k.own b hb).elim (fun h1 => h.own b h1) (fun h1 => .inr (Nat.le_trans h.past.size h1)), h.past.trans k.past h.own⟩
theorem WentOn.on {O O' : Nat → Prop} {w w' w'' : World} (h : WentOn O O' w w') (k : Past O' w' w'') : Past O w w'' := h.past.trans k h.own
theorem isS_lt {w : World} {g : Nat} {L : List Bool} {m : Nat} {s : St} {fx : Value} {O : Nat → Prop} (h : isS w g L m s fx O) : ∀ k, O k → k < w.heap.size := by
  obtain ⟨r, v, R, h⟩ := h
  intro k hk
  rw [h.own] at hk
  rcases hk with rfl | hk | hk
  · exact (Array.getElem?_eq_some_iff.1 h.obj).1
  · exact isR_lt _ _ _ _ _ h.rd k hk
  · exact (h.row.lt k hk).2
theorem isS_keep {w w' : World} {g : Nat} {L : List Bool} {m : Nat} {s : St} {fx : Value} {O : Nat → Prop} (h : isS w g L m s fx O) (hs : w.heap.size ≤ w'.heap.size) (hk : ∀ k, O k → w'.heap[k]? = w.heap[k]?) : isS w' g L m s fx O := by
  obtain ⟨r, v, R, h⟩ := h
  have ho := h.own
  subst ho
  exact ⟨r, v, R, (hk g (.inl rfl)).trans h.obj, isR_keep _ _ _ _ _ _ h.rd hs (fun k hh => hk k (.inr (.inl hh))), ownsRow_same h.row (fun k hh => hk k (.inr (.inr hh))), h.gr, h.gv, h.rv, rfl⟩
theorem isS_drew {w : World} {g : Nat} {L : List Bool} {m : Nat} {s : St} {fx : Value} {O : Nat → Prop} (h : isS w g L m s fx O) : isS w.drew g L m s fx O := isS_keep h (Nat.le_refl _) (fun _ _ => rfl)
theorem isS_own {w : World} {g : Nat} {L : List Bool} {m : Nat} {s : St} {fx : Value} {O : Nat → Prop} (h : isS w g L m s fx O) : O g := by
  obtain ⟨r, v, R, h⟩ := h
  rw [h.own]
  exact .inl rfl
/-- What a call comes to that goes a way. -/
def Goes {α : Type} (x : Way α) (L : List Bool) (m : Nat) (s : St) (val : α → Value) (g : Nat) (fx : Value) (O : Nat → Prop) (w : World) (e : Ending) (w' : World) : Prop :=
  (∃ a t O', Says x L m s (.ok a t) ∧ e = .returned (val a) ∧ isS w' g L m t fx O' ∧ WentOn O O' w w') ∨ (∃ k, Says x L m s (.err k) ∧ e = .panicked (fault k) ∧ Past O w w')
theorem drew_past (O : Nat → Prop) (w : World) : Past O w w.drew := ⟨rfl, rfl, rfl, Nat.le_refl _, fun _ _ _ => rfl⟩
theorem went_drew {O O' : Nat → Prop} {w w' : World} (h : WentOn O O' w.drew w') : WentOn O O' w w' := WentOn.trans ⟨fun b h => .inl h, drew_past O w⟩ h
theorem past_drew {O : Nat → Prop} {w w' : World} (h : Past O w.drew w') : Past O w w' := (drew_past O w).trans h (fun b h => .inl h)
/-! ### Small calls -/
theorem refuse_code (b : Bool) (k : Nat) (w : World) : Calls Tryd.prog 87 #[.bool b, .int .i64 (k : Int)] w fun e w' => (if b then e = .panicked (fault k) else e = .returned (.tuple #[])) ∧ w = w' := by
  cases b with
  | true =>
    go_enter Tryd.func87, Tryd.ntmps87
    go_wp2
    exact ⟨rfl, rfl, rfl⟩
  | false =>
    go_enter Tryd.func87, Tryd.ntmps87
    go_wp2
    go_end0
    exact ⟨rfl, rfl⟩
theorem refuse_no (k : Int) (w : World) : Calls Tryd.prog 87 #[.bool false, .int .i64 k] w fun e w' => e = .returned (.tuple #[]) ∧ w = w' := by
  go_enter Tryd.func87, Tryd.ntmps87
  go_wp2
  go_end0
  exact ⟨rfl, rfl⟩
theorem refuse_yes (k : Nat) (w : World) : Calls Tryd.prog 87 #[.bool true, .int .i64 (k : Int)] w fun e w' => e = .panicked (fault k) ∧ w = w' := by
  go_enter Tryd.func87, Tryd.ntmps87
  go_wp2
  exact ⟨rfl, rfl, rfl⟩
/-- A stream of which the reader alone is another one. -/
theorem Strm.read {w w' : World} {g : Nat} {L : List Bool} {m : Nat} {s : St} {fx : Value} {O : Nat → Prop} {r v : Value} {R R' : Nat → Prop} {p : Nat} (h : Strm w g L m s fx O r v R) (h1 : isR w' r L p R') (h2 : ∀ b, R' b → R b ∨ w.heap.size ≤ b) (h3 : Past R w w') :
    ∃ O', Strm w' g L m ⟨p, s.out⟩ fx O' r v R' ∧ WentOn O O' w w' := by
  have hg := (Array.getElem?_eq_some_iff.1 h.obj).1
  have ho := h.own
  subst ho
  refine ⟨_, ⟨(h3.block g hg h.gr).trans h.obj, h1, ownsRow_same h.row (fun k hk => h3.block k (h.row.lt k hk).2 (fun hr => h.rv k hr hk)), fun hr => ?_, h.gv, fun k hr hk => ?_, rfl⟩, fun b hb => ?_, h3.os, h3.tape, h3.output, h3.size, fun k hk hn => h3.block k hk (fun hr => hn (.inr (.inl hr)))⟩
  · exact (h2 g hr).elim h.gr (fun h => by omega)
  · have := (h.row.lt k hk).2
    exact (h2 k hr).elim (fun h4 => h.rv k h4 hk) (fun h => by omega)
  · rcases hb with hb | hb | hb
    · exact .inl (.inl hb)
    · exact (h2 b hb).imp (fun h => .inr (.inl h)) id
    · exact .inl (.inr (.inr hb))
theorem Strm.past {w w' : World} {g : Nat} {L : List Bool} {m : Nat} {s : St} {fx : Value} {O : Nat → Prop} {r v : Value} {R : Nat → Prop} (h : Strm w g L m s fx O r v R) (h3 : Past R w w') : Past O w w' :=
  ⟨h3.os, h3.tape, h3.output, h3.size, fun k hk hn => h3.block k hk (fun hr => hn (by rw [h.own]; exact .inr (.inl hr)))⟩
theorem get_str (w : World) (g : Nat) (L : List Bool) (m : Nat) (s : St) (fx : Value) (O : Nat → Prop) (k : Nat) (r v : Value) (R : Nat → Prop) (h : Strm w g L m s fx O r v R) (hk : k ≤ 32) (hL : L.length ≤ 1099511627776) :
    Calls Tryd.prog 69 #[.pointer (some ⟨g, 0, none⟩), .int .i64 (k : Int)] w fun e w' => (∃ a t O' R', Says (Way.get k) L m s (.ok a t) ∧ e = .returned (.int .i64 (a : Int)) ∧ Strm w' g L m t fx O' r v R' ∧ WentOn O O' w w') ∨ (∃ k', Says (Way.get k) L m s (.err k') ∧ e = .panicked (fault k') ∧ Past O w w') := by
  have q0 := cell_of_block h.obj 0
  by_cases hs : s.pos + k ≤ L.length
  · have HG := get_code w r L s.pos R k h.rd hk hs hL
    have hn := numAt_below L s.pos k
    have hn2 : (2 : Nat) ^ k ≤ 2 ^ 32 := Nat.pow_le_pow_right (by decide) hk
    have HS : Hid (s.pos + k ≤ L.length) := hs
    have H := Lib.hid h
    clear h hs
    obtain ⟨N, eN⟩ : ∃ N, numAt L s.pos k = N := ⟨_, rfl⟩
    have EN := Lib.hid eN
    rw [eN] at HG hn
    clear eN
    have hn3 : N ≤ 4294967295 := by omega
    clear hn hn2
    go_enter Tryd.func69, Tryd.ntmps69
    go_wp2_with fail
    go_at_call 86
    refine HG.mono ?_
    rintro e w1 ⟨R', rfl, h1, h2, h3⟩
    have H1 := Lib.hid h1
    have H2 := Lib.hid h2
    have H3 := Lib.hid h3
    clear h1 h2 h3 HG
    go_wp2_with fail
    go_at_call 87
    refine (refuse_no _ _).mono ?_
    rintro e w2 ⟨rfl, rfl⟩
    go_wp2_with fail
    go_ret
    obtain ⟨O', j1, j2⟩ := H.out.read H1.out H2.out H3.out
    have hg := Way.says_get (L := L) (m := m) (s := s) k HS.out
    rw [EN.out] at hg
    exact .inl ⟨_, _, O', R', hg, rfl, j1, j2⟩
  · have HG := getShort_code w r L s.pos R k h.rd hk (by omega) hL
    have HS : Hid (L.length < s.pos + k) := by show _ < _; omega
    have H := Lib.hid h
    clear h hs
    go_enter Tryd.func69, Tryd.ntmps69
    go_wp2_with fail
    go_at_call 86
    refine HG.mono ?_
    rintro e w1 ⟨R', rfl, h1, h2, h3⟩
    have H1 := Lib.hid h1
    have H2 := Lib.hid h2
    have H3 := Lib.hid h3
    clear h1 h2 h3 HG
    go_wp2_with fail
    go_at_call 87
    refine (refuse_yes 12 _).mono ?_
    rintro e w2 ⟨rfl, rfl⟩
    go_wp2_with fail
    exact ⟨rfl, .inr ⟨12, Way.says_get_short k HS.out, rfl, H.out.past H3.out⟩⟩
theorem get_go (w : World) (g : Nat) (L : List Bool) (m : Nat) (s : St) (fx : Value) (O : Nat → Prop) (k : Nat) (h : isS w g L m s fx O) (hk : k ≤ 32) (hL : L.length ≤ 1099511627776) :
    Calls Tryd.prog 69 #[.pointer (some ⟨g, 0, none⟩), .int .i64 (k : Int)] w (Goes (Way.get k) L m s (fun n => .int .i64 (n : Int)) g fx O w) := by
  obtain ⟨r, v, R, h⟩ := h
  refine (get_str w g L m s fx O k r v R h hk hL).mono ?_
  rintro e w' (⟨a, t, O', R', h1, h2, h3, h4⟩ | h)
  · exact .inl ⟨a, t, O', h1, h2, ⟨r, v, R', h3⟩, h4⟩
  · exact .inr h
/-! ### A byte more -/
theorem Strm.grown {w w1 w2 : World} {g : Nat} {L : List Bool} {m : Nat} {s : St} {fx : Value} {O : Nat → Prop} {r v : Value} {R : Nat → Prop} (h : Strm w g L m s fx O r v R) (hb : Below w.heap.size w w1) (hgr : w1.grownBy w2 v.ownBlock) :
    w2.heap[g]? = some (.cells #[r, v, .int .i64 (m : Int), fx] 103 (0, 0)) := by
  have hg := (Array.getElem?_eq_some_iff.1 h.obj).1
  have := hgr.block g (Nat.lt_of_lt_of_le hg hb.size) (fun e => h.gv e.symm)
  exact this.trans ((hb.block g hg).trans h.obj)
theorem Strm.push {w w1 w2 : World} {g : Nat} {L : List Bool} {m : Nat} {s : St} {fx : Value} {O : Nat → Prop} {r v v' : Value} {R : Nat → Prop} {x : Nat} (h : Strm w g L m s fx O r v R) (hb : Below w.heap.size w w1) (hgr : w1.grownBy w2 v.ownBlock)
    (hown : w2.ownsRow 0 5 1 v' (s.out.length + 1) ((s.out ++ [x]).map byteVal)) (hwh : ∀ k, v'.ownBlock = some k → v.ownBlock = some k ∨ w1.heap.size ≤ k) :
    ∃ O', Strm (w2.setCell ⟨g, 1, none⟩ v') g L m ⟨s.pos, s.out ++ [x]⟩ fx O' r v' R ∧ WentOn O O' w (w2.setCell ⟨g, 1, none⟩ v') := by
  have hg := (Array.getElem?_eq_some_iff.1 h.obj).1
  have hobj := h.grown hb hgr
  have hsz : (w2.setCell ⟨g, 1, none⟩ v').heap.size = w2.heap.size := by simp
  have hkeep : ∀ k, k < w.heap.size → k ≠ g → v.ownBlock ≠ some k → (w2.setCell ⟨g, 1, none⟩ v').heap[k]? = w.heap[k]? := fun k hk hkg hkv =>
    (Below.heap_setCell _ _ _ k hkg).trans ((hgr.block k (Nat.lt_of_lt_of_le hk hb.size) (fun e => hkv e.symm)).trans (hb.block k hk))
  have hlt2 : w.heap.size ≤ w2.heap.size := Nat.le_trans hb.size hgr.size
  have hgv' : v'.ownBlock ≠ some g := fun e => by
    rcases hwh g e with e2 | e2
    · exact h.gv e2
    · have := hb.size; omega
  have hRlt := isR_lt _ _ _ _ _ h.rd
  have ho := h.own
  subst ho
  refine ⟨_, ⟨block_setCell hobj v', isR_keep _ _ _ _ _ _ h.rd (by rw [hsz]; exact hlt2) (fun k hk => hkeep k (hRlt k hk) (fun e => h.gr (e ▸ hk)) (h.rv k hk)), ?_, h.gr, hgv', fun k hk e => ?_, rfl⟩, fun b hbo => ?_, ?_⟩
  · rw [List.length_append]
    exact ownsRow_same hown (fun k hk => Below.heap_setCell _ _ _ k (fun e => hgv' (by have e : k = g := e; rw [e] at hk; exact hk)))
  · rcases hwh k e with e2 | e2
    · exact h.rv k hk e2
    · have := hRlt k hk
      have := hb.size
      omega
  · rcases hbo with hbo | hbo | hbo
    · exact .inl (.inl hbo)
    · exact .inl (.inr (.inl hbo))
    · rcases hwh b hbo with e2 | e2
      · exact .inl (.inr (.inr e2))
      · exact .inr (Nat.le_trans hb.size e2)
  · exact ⟨hgr.os.trans hb.os, hgr.tape.trans hb.tape, hgr.output.trans hb.output, by rw [hsz]; exact hlt2, fun k hk hn => hkeep k hk (fun e => hn (.inl e)) (fun e => hn (.inr (.inr e)))⟩
set_option maxHeartbeats 1000000 in
set_option maxRecDepth 100000 in
theorem room_go (w : World) (g : Nat) (L : List Bool) (m : Nat) (s : St) (fx : Value) (O : Nat → Prop) (n : Nat) (h : isS w g L m s fx O) (hn : n ≤ 1099511627776) (hm : m ≤ 1099511627776) (ho : s.out.length ≤ m) :
    Calls Tryd.prog 96 #[.pointer (some ⟨g, 0, none⟩), .int .i64 (n : Int)] w (Goes (Way.room n) L m s (fun _ => .tuple #[]) g fx O w) := by
  have HI := Lib.hid h
  obtain ⟨r, v, R, h⟩ := h
  have q1 := cell_of_block h.obj 1
  have q2 := cell_of_block h.obj 2
  obtain ⟨vo, vc, rfl⟩ := row_shape h.row
  obtain ⟨l, el⟩ : ∃ l, s.out.length = l := ⟨_, rfl⟩
  have EL := Lib.hid el
  rw [el] at q1 ho
  clear h el
  have hw : IntKind.i64.wrap ((m : Int) - (l : Int)) = ((m - l : Nat) : Int) := by
    rw [IntKind.wrap_i64]
    omega
  obtain ⟨d, ed⟩ : ∃ d, m - l = d := ⟨_, rfl⟩
  have ED := Lib.hid ed
  rw [ed] at hw
  by_cases hr : n ≤ d
  · have d1 : decide ((d : Int) < (n : Int)) = false := decide_eq_false (by omega)
    have d2 : decide (d < n) = false := decide_eq_false (by omega)
    have HR : Hid (s.out.length + n ≤ m) := by show _ ≤ _; rw [EL.out]; omega
    clear ed hn hm
    go_enter Tryd.func96, Tryd.ntmps96
    go_wp2_with fail
    refine wp_region_still_tail 12 (by kernel_rfl) (by kernel_rfl) ?_
    simp only [List.take_succ_cons, List.take_zero, List.drop_succ_cons, List.drop_zero]
    repeat still_step
    refine wpStill_nil ?_
    change wpList _ _ _ _ _ w.drew
    go_wp2_with (go_at_call 87; refine (refuse_no _ _).mono ?_; rintro e w2 ⟨rfl, rfl⟩)
    go_end0
    exact .inl ⟨(), s, O, Way.says_room n HR.out, rfl, isS_keep HI.out (Nat.le_refl _) (fun _ _ => rfl), fun b h => .inl h, drew_past O w⟩
  · have d1 : decide ((d : Int) < (n : Int)) = true := decide_eq_true (by omega)
    have d2 : decide (d < n) = true := decide_eq_true (by omega)
    have HR : Hid (m < s.out.length + n) := by show _ < _; rw [EL.out]; omega
    clear ed hn hm
    go_enter Tryd.func96, Tryd.ntmps96
    go_wp2_with fail
    refine wp_region_still_tail 12 (by kernel_rfl) (by kernel_rfl) ?_
    simp only [List.take_succ_cons, List.take_zero, List.drop_succ_cons, List.drop_zero]
    repeat still_step
    refine wpStill_nil ?_
    change wpList _ _ _ _ _ w.drew
    go_wp2_with (go_at_call 87; refine (refuse_yes 3 _).mono ?_; rintro e w2 ⟨rfl, rfl⟩)
    exact ⟨rfl, .inr ⟨3, Way.says_room_long n HR.out, rfl, drew_past O w⟩⟩
end Go.Proofs.YtbfpbmnnlckldaaDoor.Fx
