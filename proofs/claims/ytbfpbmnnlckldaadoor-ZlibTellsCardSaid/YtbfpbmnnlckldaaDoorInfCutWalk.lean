/-
  A block, of all three kinds, as landed. The conditions stand in it.
  All blocks, and whatever is wrong in them recovered; Inflate, as landed. The conditions stand in each.
  Inflate, as landed. The conditions stand in it.
  The chapter's examples, plain: by calculation.
  The chapter's examples, as each statement asks them (awake). The conditions stand in each.
  The walk of InflateCut. The conditions are that the list reads as bytes, and that the order lies as the text lays it.
-/
import Derived.Test.YtbfpbmnnlckldaaDoorInfI
import Derived.Defers
import Derived.Recover
import Derived.Deep.QuietTactic
import Derived.BigQuiet
import Derived.WalkKit
import Derived.Test.YtbfpbmnnlckldaaDoorInfR
import Derived.Test.YtbfpbmnnlckldaaDoorWinE
namespace Go.Proofs.YtbfpbmnnlckldaaDoor.Fx
open Go Go.RowKit Go.Joins
set_option linter.unusedVariables false
/-- A stream's fixed codes: none yet, or a pair of them. -/
def isF (w : World) (fx : Value) (F : Nat → Prop) : Prop := fx = .pointer none ∨ ∃ b, fx = .pointer (some ⟨b, 0, none⟩) ∧ isPair w b fixedP F
/-- A stream with its fixed codes, and the order laid. -/
structure Whole (w : World) (g : Nat) (L : List Bool) (m : Nat) (s : St) (fx : Value) (O F : Nat → Prop) : Prop where
  st : isS w g L m s fx O
  fix : isF w fx F
  apart : ∀ k, F k → ¬ O k ∧ k < w.heap.size
  laid : LaidOrder w
  lo : ¬ O 0
theorem isF_went {w w' : World} {fx : Value} {F O : Nat → Prop} (h : isF w fx F) (hp : Past O w w') (hF : ∀ k, F k → ¬ O k) : isF w' fx F := by
  rcases h with h | ⟨b, h1, h2⟩
  · exact .inl h
  · exact .inr ⟨b, h1, isPair_went h2 hp hF⟩
theorem Whole.next {w w' : World} {g : Nat} {L : List Bool} {m : Nat} {s t : St} {fx : Value} {O O' F : Nat → Prop} (h : Whole w g L m s fx O F) (h1 : isS w' g L m t fx O') (h2 : WentOn O O' w w') : Whole w' g L m t fx O' F where
  st := h1
  fix := isF_went h.fix h2.past (fun k hk => (h.apart k hk).1)
  apart := apart_went h2 h.apart
  laid := h.laid.went h2.past h.lo
  lo := fun h3 => (h2.own _ h3).elim h.lo (fun h4 => by have := World.block_lt_of_cell? w _ (h.laid 0 (by decide)); simp only at this; omega)
theorem Whole.drew {w : World} {g : Nat} {L : List Bool} {m : Nat} {s : St} {fx : Value} {O F : Nat → Prop} (h : Whole w g L m s fx O F) : Whole w.drew g L m s fx O F :=
  h.next (isS_drew h.st) ⟨fun b h => .inl h, drew_past O w⟩
/-- What a block comes to. -/
def WholeTo {α : Type} (x : Way α) (L : List Bool) (m : Nat) (s : St) (val : α → Value) (g : Nat) (O : Nat → Prop) (w : World) (e : Ending) (w' : World) : Prop :=
  (∃ a t fx O' F, Says x L m s (.ok a t) ∧ e = .returned (val a) ∧ Whole w' g L m t fx O' F ∧ WentOn O O' w w') ∨ (∃ k, Says x L m s (.err k) ∧ e = .panicked (fault k) ∧ Past O w w')
theorem Goes.whole {α : Type} {x : Way α} {L : List Bool} {m : Nat} {s : St} {val : α → Value} {g : Nat} {fx : Value} {O F : Nat → Prop} {w : World} {e : Ending} {w' : World} (hw : Whole w g L m s fx O F) (h : Goes x L m s val g fx O w e w') : WholeTo x L m s val g O w e w' := by
  rcases h with ⟨a, t, O', h1, h2, h3, h4⟩ | h
  · exact .inl ⟨a, t, fx, O', F, h1, h2, hw.next h3 h4, h4⟩
  · exact .inr h
/-- The fixed codes are there from now on. -/
theorem Whole.fixed {w w1 : World} {g b : Nat} {L : List Bool} {m : Nat} {s : St} {fx : Value} {O F : Nat → Prop} (h : Whole w g L m s fx O F) (hb : Below w.heap.size w w1) (hp : isPair w1 b fixedP (fun k => w.heap.size ≤ k ∧ k < w1.heap.size)) :
    Whole (w1.setCell ⟨g, 3, none⟩ (.pointer (some ⟨b, 0, none⟩))) g L m s (.pointer (some ⟨b, 0, none⟩)) O (fun k => w.heap.size ≤ k ∧ k < w1.heap.size) ∧ WentOn O O w (w1.setCell ⟨g, 3, none⟩ (.pointer (some ⟨b, 0, none⟩))) := by
  have hst := h.st
  have hlt := isS_lt hst
  obtain ⟨r, v, R, hs⟩ := hst
  have hgO : O g := by rw [hs.own]; exact .inl rfl
  have hglt := hlt g hgO
  have hobj := (hb.block g hglt).trans hs.obj
  have hset := block_setCell (i := 3) hobj (.pointer (some ⟨b, 0, none⟩))
  have hsz : (w1.setCell ⟨g, 3, none⟩ (.pointer (some ⟨b, 0, none⟩))).heap.size = w1.heap.size := by simp
  have hkeep : ∀ k, k < w.heap.size → k ≠ g → (w1.setCell ⟨g, 3, none⟩ (.pointer (some ⟨b, 0, none⟩))).heap[k]? = w.heap[k]? := fun k hk hkg => (Below.heap_setCell _ _ _ _ hkg).trans (hb.block k hk)
  have hRlt := isR_lt _ _ _ _ _ hs.rd
  have hwent : WentOn O O w (w1.setCell ⟨g, 3, none⟩ (.pointer (some ⟨b, 0, none⟩))) := ⟨fun b h => .inl h, hb.os, hb.tape, hb.output, by rw [hsz]; exact hb.size, fun k hk hn => hkeep k hk (fun e => hn (by rw [e]; exact hgO))⟩
  refine ⟨⟨⟨r, v, R, by simpa using hset, isR_keep _ _ _ _ _ _ hs.rd (by rw [hsz]; exact hb.size) (fun k hk => hkeep k (hRlt k hk) (fun e => hs.gr (e ▸ hk))), ownsRow_same hs.row (fun k hk => hkeep k (hs.row.lt k hk).2 (fun e => hs.gv (by rw [← e]; exact hk))), hs.gr, hs.gv, hs.rv, hs.own⟩, .inr ⟨b, rfl, isPair_keep hp (by rw [hsz]; exact Nat.le_refl _) (fun k hk hk2 => Below.heap_setCell _ _ _ _ (by show k ≠ g; have := hk.1; omega))⟩, fun k hk => ⟨fun ho => by have := hlt k ho; have := hk.1; omega, by rw [hsz]; exact hk.2⟩, h.laid.went hwent.past h.lo, h.lo⟩, hwent⟩
theorem fixedP_fit : Fit fixedP.1 ∧ Fit fixedP.2 := ⟨newCds_fit fixedLens (by rw [fixedLens_fit]; decide), newCds_fit (List.replicate 32 5) (by decide)⟩
set_option maxHeartbeats 4000000 in
set_option maxRecDepth 100000 in
theorem block_go (W : World) (g : Nat) (L : List Bool) (m : Nat) (s : St) (fx : Value) (O F : Nat → Prop) (h : Whole W g L m s fx O F) (hm : m ≤ 1099511627776) (ho : s.out.length ≤ m) (hL : L.length ≤ 1099511627776) (hL8 : L.length % 8 = 0) :
    Calls Tryd.prog 70 #[.pointer (some ⟨g, 0, none⟩)] W (WholeTo blockW L m s (fun _ => .tuple #[]) g O W) := by
  have HM := Lib.hid hm
  have HO := Lib.hid ho
  have HL := Lib.hid hL
  have HL8 := Lib.hid hL8
  have HW0 := Lib.hid h
  have HG := get_go W g L m s fx O 2 h.st (by decide) hL
  clear h hm ho hL hL8
  go_enter Tryd.func70, Tryd.ntmps70
  go_wp2_with fail
  go_at_call 69
  refine HG.mono ?_
  clear HG
  rintro e w1 (⟨k, u, O1, hs, rfl, h1, h2⟩ | ⟨k, hs, rfl, hp⟩)
  · obtain ⟨hk, rfl, _⟩ := get_said hs
    have hk : k ≤ 3 := by omega
    have HSA := Lib.hid hs
    have HW1 := Lib.hid (HW0.out.next h1 h2)
    have HG1 := Lib.hid h2
    clear hs h1 h2
    by_cases hk0 : k = 0
    · have f0 : ((k : Int) == 0) = true := by simp; omega
      have g0 : decide ((k : Int) = 0) = true := decide_eq_true (by omega)
      have KS := stored_go w1 g L m _ fx O1 HW1.out.st HM.out HO.out HL.out
      have HB : Hid (∀ r, Says storedW L m ⟨s.pos + 2, s.out⟩ r → Says blockW L m s r) := fun r h => Way.says_bind HSA.out (by rw [if_pos hk0]; exact h)
      clear hk0
      go_wp2_with fail
      go_at_call 88
      refine KS.mono ?_
      clear KS
      rintro e w2 h
      rcases h.whole HW1.out with ⟨⟨⟩, t, fx2, O2, F2, hs, rfl, h1, h2⟩ | ⟨k, hs, rfl, hp⟩
      · go_wp2_with fail
        go_end0
        exact .inl ⟨(), t, fx2, O2, F2, HB.out _ hs, rfl, h1, HG1.out.trans h2⟩
      · go_wp2_with fail
        exact ⟨rfl, .inr ⟨k, HB.out _ hs, rfl, HG1.out.on hp⟩⟩
    · have f0 : ((k : Int) == 0) = false := by simp; omega
      have g0 : decide ((k : Int) = 0) = false := decide_eq_false (by omega)
      by_cases hk1 : k = 1
      · have f1 : ((k : Int) == 1) = true := by simp; omega
        have g1 : decide ((k : Int) = 1) = true := decide_eq_true (by omega)
        have HB : Hid (∀ r, Says (symbolsW fixedP) L m ⟨s.pos + 2, s.out⟩ r → Says blockW L m s r) := fun r h => Way.says_bind HSA.out (by rw [if_neg hk0, if_pos hk1]; exact h)
        obtain ⟨r, v, R, hst⟩ := HW1.out.st
        have q3 := cell_of_block hst.obj 3
        have hobj := Lib.hid hst.obj
        clear hst hk0 hk1
        rcases HW1.out.fix with hfx | ⟨b, hfx, hpair⟩
        · subst hfx
          have KF := fixedPair_any w1
          go_wp2_with fail
          go_at_call 89
          refine KF.mono ?_
          clear KF
          rintro e w2 ⟨b, rfl, h1, h2⟩
          have hobj2 := (h2.block g (Array.getElem?_eq_some_iff.1 hobj.out).1).trans hobj.out
          have r3 := cell_of_block hobj2 3
          have u3 := unfrozen_of_block hobj2 3
          obtain ⟨hwh, hwn⟩ := HW1.out.fixed h2 h1
          have HW2 := Lib.hid hwh
          have HN2 := Lib.hid hwn
          obtain ⟨fF1, fF2⟩ := fixedP_fit
          have KS := symbols_go _ g L m _ _ O1 b fixedP _ hwh.st (hwh.fix.elim (fun h => by cases h) (fun ⟨b', h1, h2⟩ => by cases h1; exact h2)) hwh.apart fF1 fF2 HM.out HO.out HL.out HL8.out
          clear h1 h2 hobj2 hwh hwn q3
          go_wp2_with fail
          go_at_call 90
          refine KS.mono ?_
          clear KS
          rintro e w3 h
          rcases h.whole HW2.out with ⟨⟨⟩, t, fx2, O2, F2, hs, rfl, h1, h2⟩ | ⟨k, hs, rfl, hp⟩
          · go_wp2_with fail
            go_end0
            exact .inl ⟨(), t, fx2, O2, F2, HB.out _ hs, rfl, h1, (HG1.out.trans HN2.out).trans h2⟩
          · go_wp2_with fail
            exact ⟨rfl, .inr ⟨k, HB.out _ hs, rfl, (HG1.out.trans HN2.out).on hp⟩⟩
        · subst hfx
          obtain ⟨fF1, fF2⟩ := fixedP_fit
          have KS := symbols_go w1 g L m _ _ O1 b fixedP _ HW1.out.st hpair HW1.out.apart fF1 fF2 HM.out HO.out HL.out HL8.out
          clear hpair
          go_wp2_with fail
          go_at_call 90
          refine KS.mono ?_
          clear KS
          rintro e w3 h
          rcases h.whole HW1.out with ⟨⟨⟩, t, fx2, O2, F2, hs, rfl, h1, h2⟩ | ⟨k, hs, rfl, hp⟩
          · go_wp2_with fail
            go_end0
            exact .inl ⟨(), t, fx2, O2, F2, HB.out _ hs, rfl, h1, HG1.out.trans h2⟩
          · go_wp2_with fail
            exact ⟨rfl, .inr ⟨k, HB.out _ hs, rfl, HG1.out.on hp⟩⟩
      · have f1 : ((k : Int) == 1) = false := by simp; omega
        have g1 : decide ((k : Int) = 1) = false := decide_eq_false (by omega)
        by_cases hk2 : k = 2
        · have f2 : ((k : Int) == 2) = true := by simp; omega
          have g2 : decide ((k : Int) = 2) = true := decide_eq_true (by omega)
          have HB : Hid (∀ r, Says (ownPairW.bind symbolsW) L m ⟨s.pos + 2, s.out⟩ r → Says blockW L m s r) := fun r h => Way.says_bind HSA.out (by rw [if_neg hk0, if_neg hk1, if_pos hk2]; exact h)
          have KO := ownPair_go w1 g L m _ fx O1 HW1.out.st HW1.out.laid HW1.out.lo HL.out
          clear hk0 hk1 hk2
          go_wp2_with fail
          go_at_call 91
          refine KO.mono ?_
          clear KO
          rintro e w2 (⟨p, t, O2, b, K, hs, rfl, h1, h2, h3, h4, h5, h6⟩ | ⟨k, hs, rfl, hp⟩)
          · have HW2 := Lib.hid (HW1.out.next h5 h6)
            have HG2 := Lib.hid (HG1.out.trans h6)
            have HSB := Lib.hid hs
            have hout := (Way.says_on hs (isS_pos HW1.out.st) HL8.out).2.2.2 HO.out
            have KS := symbols_go w2 g L m t fx O2 b p K h5 h1 h2 h3 h4 HM.out hout HL.out HL8.out
            clear hs h1 h2 h3 h4 h5 h6 hout
            go_wp2_with fail
            go_at_call 90
            refine KS.mono ?_
            clear KS
            rintro e w3 h
            rcases h.whole HW2.out with ⟨⟨⟩, t3, fx2, O3, F2, hs, rfl, h1, h2⟩ | ⟨k, hs, rfl, hp⟩
            · go_wp2_with fail
              go_end0
              exact .inl ⟨(), t3, fx2, O3, F2, HB.out _ (Way.says_bind HSB.out hs), rfl, h1, HG2.out.trans h2⟩
            · go_wp2_with fail
              exact ⟨rfl, .inr ⟨k, HB.out _ (Way.says_bind HSB.out hs), rfl, HG2.out.on hp⟩⟩
          · go_wp2_with fail
            exact ⟨rfl, .inr ⟨k, HB.out _ (Way.says_bind_err hs), rfl, HG1.out.on hp⟩⟩
        · have f2 : ((k : Int) == 2) = false := by simp; omega
          have g2 : decide ((k : Int) = 2) = false := decide_eq_false (by omega)
          have HB : Hid (Says blockW L m s (.err 10)) := Way.says_bind HSA.out (by rw [if_neg hk0, if_neg hk1, if_neg hk2]; exact Way.says_fail 10)
          clear hk0 hk1 hk2
          go_wp2_with fail
          exact ⟨rfl, .inr ⟨10, HB.out, rfl, HG1.out.past⟩⟩
  · go_wp2_with fail
    exact ⟨rfl, .inr ⟨k, Way.says_bind_err hs, rfl, hp⟩⟩
end Go.Proofs.YtbfpbmnnlckldaaDoor.Fx
namespace Go.Proofs.YtbfpbmnnlckldaaDoor.Fx
open Go Go.RowKit Go.Joins
set_option linter.unusedVariables false
theorem assert_errno (k : Int) (w : World) : (Instr.typeAssert (.iface 25 (.int .i64 k)) 20 25 false).run Tryd.prog w = .ok (.int .i64 k) w := by kernel_rfl
set_option maxRecDepth 100000 in
theorem catch_fault (p : Addr) (x k : Int) (older : List PanicEntry) (w : World) (hc : w.cell? p = some (.int .i64 x)) (hz : w.frozen? p = false) :
    CallsD Tryd.prog 68 #[.pointer (some p)] (.panicking ({ v := .iface 25 (.int .i64 k), recovered := false } :: older)) w fun e u' w' =>
      e = .returned (.tuple #[]) ∧ u' = .panicking ({ v := .iface 25 (.int .i64 k), recovered := true } :: older) ∧ w' = w.setCell p (.int .i64 k) := by
  refine callsD_of_wpS Tryd.func68 rfl fun c₀ cs hu => ?_
  apply wpS_seq
  apply wpS_region
  simp [wpOpsS, go_sem, recoverD, hu, Tryd.ntmps68, Exit.thenS]
  refine wpS_of_wp ?_
  have e : #[Value.pointer (some p)] ++ ((Array.replicate 6 undef).setIfInBounds 1 (Value.iface 25 (.int .i64 k))).setIfInBounds 0 (Value.iface 25 (.int .i64 k)) = #[.pointer (some p), .iface 25 (.int .i64 k), .iface 25 (.int .i64 k), undef, undef, undef, undef] := rfl
  rw [e]
  clear e hu
  have hta := assert_errno k
  go_wp2_with fail
  simp [bodyPostS, results, Tryd.results68]
theorem catch_idle (p : Addr) (w : World) :
    CallsD Tryd.prog 68 #[.pointer (some p)] .returning w fun e u' w' => e = .returned (.tuple #[]) ∧ u' = .returning ∧ w' = w := by
  refine callsD_of_wpS Tryd.func68 rfl fun c₀ cs hu => ?_
  apply wpS_seq
  apply wpS_region
  simp [wpOpsS, go_sem, recoverD, hu, Tryd.ntmps68, Exit.thenS]
  refine wpS_of_wp ?_
  have e : #[Value.pointer (some p)] ++ ((Array.replicate 6 undef).setIfInBounds 1 Value.nilIface).setIfInBounds 0 Value.nilIface = #[.pointer (some p), .nilIface, .nilIface, undef, undef, undef, undef] := rfl
  rw [e]
  clear e
  go_wp2_with fail
  cases c₀
  simp_all [bodyPostS, results, Tryd.results68]
theorem Whole.alloc {w : World} {g : Nat} {L : List Bool} {m : Nat} {s : St} {fx : Value} {O F : Nat → Prop} (h : Whole w g L m s fx O F) (o : Obj) : Whole (w.alloc o) g L m s fx O F ∧ WentOn O O w (w.alloc o) := by
  have hb : Below w.heap.size w (w.alloc o) := (Below.refl _ _).alloc (Nat.le_refl _) _
  have hw : WentOn O O w (w.alloc o) := ⟨fun b h => .inl h, Past.of_below hb⟩
  exact ⟨h.next (isS_keep h.st hb.size (fun k hk => hb.block k (isS_lt h.st k hk))) hw, hw⟩
/-- What all blocks come to. -/
def AllTo (L : List Bool) (m : Nat) (s : St) (g : Nat) (O : Nat → Prop) (w : World) (e : Ending) (w' : World) : Prop :=
  (∃ t fx O', Says blocksW L m s (.ok () t) ∧ e = .returned (.int .i64 0) ∧ isS w' g L m t fx O' ∧ WentOn O O' w w') ∨ (∃ k : Nat, Says blocksW L m s (.err k) ∧ e = .returned (.int .i64 (k : Int)) ∧ Past O w w')
def stepW : Unit → Way (Unit ⊕ Unit) := fun _ => (Way.get 1).bind fun l => blockW.bind fun _ => if l = 0 then Way.pure (Sum.inl ()) else Way.pure (Sum.inr ())
theorem step_stop {L : List Bool} {m : Nat} {s u t : St} {l : Nat} (h1 : Says (Way.get 1) L m s (.ok l u)) (h2 : Says blockW L m u (.ok () t)) (h : ¬ l = 0) : Says blocksW L m s (.ok () t) := by
  have : Says (stepW ()) L m s (.ok (.inr ()) t) := Way.says_bind h1 (Way.says_bind h2 (by rw [if_neg h]; exact Way.says_pure _))
  exact Way.says_loop_stop (step := stepW) this
theorem step_next {L : List Bool} {m : Nat} {s u t : St} {l : Nat} {r : Res Unit} (h1 : Says (Way.get 1) L m s (.ok l u)) (h2 : Says blockW L m u (.ok () t)) (h : l = 0) (h3 : Says blocksW L m t r) : Says blocksW L m s r := by
  have : Says (stepW ()) L m s (.ok (.inl ()) t) := Way.says_bind h1 (Way.says_bind h2 (by rw [if_pos h]; exact Way.says_pure _))
  exact Way.says_loop_next (step := stepW) this h3
theorem step_err {L : List Bool} {m : Nat} {s : St} {k : Nat} (h1 : Says (Way.get 1) L m s (.err k)) : Says blocksW L m s (.err k) :=
  Way.says_loop_err (step := stepW) (b := ()) (Way.says_bind_err h1)
theorem step_err2 {L : List Bool} {m : Nat} {s u : St} {l k : Nat} (h1 : Says (Way.get 1) L m s (.ok l u)) (h2 : Says blockW L m u (.err k)) : Says blocksW L m s (.err k) :=
  Way.says_loop_err (step := stepW) (b := ()) (Way.says_bind h1 (Way.says_bind_err h2))
/-- A fault comes to the door, and is the answer. -/
theorem door_fault {R : Ending → World → Prop} {tmps : Array Value} (E k : Nat) (w : World) (ht : tmps.getD 2 undef = .pointer (some ⟨E, 0, none⟩)) (hE : w.heap[E]? = some (.cells #[.int .i64 0] 25 (0, 0)))
    (hR : R (.returned (.int .i64 (k : Int))) (w.setCell ⟨E, 0, none⟩ (.int .i64 (k : Int)))) :
    bodyPostD Tryd.prog Tryd.f49 R (Exit.panic (fault k)) { tmps := tmps, defers := [{ target := Target.fn (Fn.func 68) #[.pointer (some ⟨E, 0, none⟩)], args := #[] }] } w := by
  have hc := cell_of_block hE 0
  have hz := unfrozen_of_block hE 0
  have hc2 := cell_of_block (block_setCell (i := 0) hE (.int .i64 (k : Int))) 0
  refine leaves_cons (f := 68) (args := #[.pointer (some ⟨E, 0, none⟩)]) (by simp) (by simp [go_sem]) ?_
  refine (catch_fault ⟨E, 0, none⟩ 0 k [] _ hc hz).mono ?_
  rintro e u' w'' ⟨rfl, rfl, rfl⟩
  have ht' : tmps[2]?.getD undef = .pointer (some ⟨E, 0, none⟩) := by simpa using ht
  refine ⟨_, ?_, hR⟩
  simp [results, Tryd.results49, go_sem, ht', asAddr, hc2]
/-- None: nothing is recovered. -/
theorem door_idle {R : Ending → World → Prop} {tmps : Array Value} (E : Nat) (w : World) (ht : tmps.getD 2 undef = .pointer (some ⟨E, 0, none⟩)) (hE : w.heap[E]? = some (.cells #[.int .i64 0] 25 (0, 0)))
    (hR : R (.returned (.int .i64 0)) w) :
    bodyPostD Tryd.prog Tryd.f49 R Exit.ret { tmps := tmps, defers := [{ target := Target.fn (Fn.func 68) #[.pointer (some ⟨E, 0, none⟩)], args := #[] }] } w := by
  have hc := cell_of_block hE 0
  refine leaves_cons (f := 68) (args := #[.pointer (some ⟨E, 0, none⟩)]) (by simp) (by simp [go_sem]) ?_
  refine (catch_idle ⟨E, 0, none⟩ _).mono ?_
  rintro e u' w'' ⟨rfl, rfl, rfl⟩
  have ht' : tmps[2]?.getD undef = .pointer (some ⟨E, 0, none⟩) := by simpa using ht
  refine ⟨_, ?_, hR⟩
  simp [results, Tryd.results49, go_sem, ht', asAddr, hc]
set_option maxHeartbeats 4000000 in
set_option maxRecDepth 100000 in
theorem blocks_go (W : World) (g : Nat) (L : List Bool) (m : Nat) (s : St) (fx : Value) (O F : Nat → Prop) (h : Whole W g L m s fx O F) (hm : m ≤ 1099511627776) (ho : s.out.length ≤ m) (hL : L.length ≤ 1099511627776) (hL8 : L.length % 8 = 0) :
    Calls Tryd.prog 49 #[.pointer (some ⟨g, 0, none⟩)] W (AllTo L m s g O W) := by
  have hmf : ∀ (fn : Fn) (first cap : Array Value) (w : World), (Instr.makeFunc fn first cap).run Tryd.prog w = .ok (.func fn first cap) w := fun _ _ _ _ => rfl
  have HM := Lib.hid hm
  have HO := Lib.hid ho
  have HL := Lib.hid hL
  have HL8 := Lib.hid hL8
  obtain ⟨h0, h1⟩ := h.alloc (.cells #[.int .i64 0] 25)
  have HW0 := Lib.hid h0
  have HG0 := Lib.hid h1
  have HEO : Hid (¬ O W.heap.size) := fun ho => by have := isS_lt h.st _ ho; omega
  have HE0 : Hid ((W.alloc (.cells #[.int .i64 0] 25)).heap[W.heap.size]? = some (.cells #[.int .i64 0] 25 (0, 0))) := heap_alloc_new W _
  clear h hm ho hL hL8 h0 h1
  go_enter_defers Tryd.func49, Tryd.ntmps49
  go_wp2_with fail
  go_loopw [3] (fun u3 wr => ∃ (last : Nat) (t : St) (fx' : Value) (O' F' : Nat → Prop), u3 = .int .i64 last ∧ Hid (Whole wr g L m t fx' O' F') ∧ Hid (WentOn O O' W wr) ∧ Hid (wr.heap[W.heap.size]? = some (.cells #[.int .i64 0] 25 (0, 0))) ∧ Hid (¬ O' W.heap.size) ∧ Hid (t.out.length ≤ m) ∧ Hid ((last = 0 → ∀ r, Says blocksW L m t r → Says blocksW L m s r) ∧ (¬ last = 0 → Says blocksW L m s (.ok () t)))) (fun u3 wr => if (intOf u3).toNat = 0 then 1 + (L.length - posOf wr g) else 0)
  case atStart => exact ⟨0, s, fx, O, F, rfl, HW0, HG0, HE0, HEO, HO, ⟨fun _ r h => h, fun h => absurd rfl h⟩⟩
  case round =>
    obtain ⟨last, t, fx', O', F', rfl, hW, hG, hE, hEO, hT, hR⟩ := hrel
    by_cases hl0 : last = 0
    · have f0 : ((last : Int) == 0) = true := by simp; omega
      have g0 : decide ((last : Int) = 0) = true := decide_eq_true (by omega)
      have HR1 : Hid (∀ r, Says blocksW L m t r → Says blocksW L m s r) := hR.out.1 hl0
      have HPOS := Lib.hid (posOf_is hW.out.st)
      have KG := get_go wr g L m t fx' O' 1 hW.out.st (by decide) HL.out
      have HL0 : Hid (last = 0) := hl0
      clear hl0 hR
      go_wp2_with fail
      go_at_call 69
      refine KG.mono ?_
      clear KG
      rintro e w1 (⟨l, u, O1, hs, rfl, h1, h2⟩ | ⟨k, hs, rfl, hp⟩)
      · obtain ⟨hl1, rfl, _⟩ := get_said hs
        have hl1 : l ≤ 1 := by omega
        have HSA := Lib.hid hs
        have HW1 := Lib.hid (hW.out.next h1 h2)
        have HG1 := Lib.hid (hG.out.trans h2)
        have HE1 : Hid (w1.heap[W.heap.size]? = some (.cells #[.int .i64 0] 25 (0, 0))) := (h2.past.block _ (Array.getElem?_eq_some_iff.1 hE.out).1 hEO.out).trans hE.out
        have HEO1 : Hid (¬ O1 W.heap.size) := fun ho => (h2.own _ ho).elim hEO.out (fun h3 => by have := (Array.getElem?_eq_some_iff.1 hE.out).1; omega)
        have KB := block_go w1 g L m _ fx' O1 F' HW1.out HM.out hT.out HL.out HL8.out
        clear hs h1 h2
        go_wp2_with fail
        go_at_call 70
        refine KB.mono ?_
        clear KB
        rintro e w2 (⟨⟨⟩, t2, fx2, O2, F2, hs, rfl, h1, h2⟩ | ⟨k, hs, rfl, hp⟩)
        · have HW2 := Lib.hid h1
          have HG2 := Lib.hid (HG1.out.trans h2)
          have HE2 : Hid (w2.heap[W.heap.size]? = some (.cells #[.int .i64 0] 25 (0, 0))) := (h2.past.block _ (Array.getElem?_eq_some_iff.1 HE1.out).1 HEO1.out).trans HE1.out
          have HEO2 : Hid (¬ O2 W.heap.size) := fun ho => (h2.own _ ho).elim HEO1.out (fun h3 => by have := (Array.getElem?_eq_some_iff.1 HE1.out).1; omega)
          obtain ⟨a1, a2, _, a3⟩ := Way.says_on hs (isS_pos HW1.out.st) HL8.out
          have HA1 := Lib.hid a1
          have HA2 := Lib.hid a2
          have HT2 : Hid (t2.out.length ≤ m) := a3 hT.out
          have HSB := Lib.hid hs
          clear hs h1 h2 a1 a2 a3
          go_wp2_with fail
          go_roundw
          case rel => exact ⟨l, t2, fx2, O2, F2, rfl, HW2, HG2, HE2, HEO2, HT2, ⟨fun h r hr => HR1.out r (step_next HSA.out HSB.out h hr), fun h => HR1.out _ (step_stop HSA.out HSB.out h)⟩⟩
          case measure =>
            have e1 := posOf_is HW2.out.st
            have h3 := HA1.out
            have h4 := HA2.out
            have e5 : (intOf (.int .i64 (last : Int))).toNat = 0 := by rw [HL0.out]; rfl
            have e6 : (intOf (.int .i64 (l : Int))).toNat = l := by simp [intOf]
            rw [e1, HPOS.out, e5, if_pos rfl]
            first
              | (rw [e6]
                 by_cases h0 : l = 0
                 · rw [if_pos h0]
                   omega
                 · rw [if_neg h0]
                   omega)
              | (simp only [e6]
                 by_cases h0 : l = 0
                 · rw [if_pos h0]
                   omega
                 · rw [if_neg h0]
                   omega)
        · have HE := HR1.out _ (step_err2 HSA.out hs)
          have HE2 := (hp.block _ (Array.getElem?_eq_some_iff.1 HE1.out).1 HEO1.out).trans HE1.out
          go_wp2_with fail
          exact door_fault _ k w2 rfl HE2 (.inr ⟨k, HE, rfl, (HG1.out.on hp).trans (set_past w2 _ 0 _) (fun b hb => .inr (by have e : b = W.heap.size := hb; rw [e]; exact Nat.le_refl _))⟩)
      · have HE := HR1.out _ (step_err hs)
        have HE2 := (hp.block _ (Array.getElem?_eq_some_iff.1 hE.out).1 hEO.out).trans hE.out
        go_wp2_with fail
        exact door_fault _ k w1 rfl HE2 (.inr ⟨k, HE, rfl, (hG.out.on hp).trans (set_past w1 _ 0 _) (fun b hb => .inr (by have e : b = W.heap.size := hb; rw [e]; exact Nat.le_refl _))⟩)
    · have f0 : ((last : Int) == 0) = false := by simp; omega
      have g0 : decide ((last : Int) = 0) = false := decide_eq_false (by omega)
      have HE := Lib.hid (hR.out.2 hl0)
      have qe := cell_of_block hE.out 0
      have ue := unfrozen_of_block hE.out 0
      have HEX : Hid ((wr.setCell ⟨W.heap.size, 0, none⟩ (.int .i64 0)).heap[W.heap.size]? = some (.cells #[.int .i64 0] 25 (0, 0))) := by
        have := block_setCell (i := 0) hE.out (.int .i64 0)
        show _ = _
        simpa using this
      have HSX : Hid (isS (wr.setCell ⟨W.heap.size, 0, none⟩ (.int .i64 0)) g L m t fx' O') := isS_keep hW.out.st (by simp) (fun k hk => Below.heap_setCell _ _ _ k (fun e => hEO.out (by have e : k = W.heap.size := e; rw [← e]; exact hk)))
      have HWX : Hid (WentOn O O' W (wr.setCell ⟨W.heap.size, 0, none⟩ (.int .i64 0))) := ⟨hG.out.own, hG.out.past.trans (set_past wr _ 0 _) (fun b hb => .inr (by have e : b = W.heap.size := hb; rw [e]; exact Nat.le_refl _))⟩
      clear hR hl0
      go_wp2_with fail
      exact door_idle _ _ rfl HEX.out (.inl ⟨t, fx', O', HE.out, rfl, HSX.out, HWX.out⟩)
/-! ### Faults have numbers -/
def Errs {α : Type} (x : Way α) : Prop := ∀ L m s e, Says x L m s (.err e) → 3 ≤ e ∧ e ≤ 12
theorem errs_pure {α : Type} (a : α) : Errs (Way.pure a) := fun L m s e ⟨f, h⟩ => by cases h
theorem errs_fail {α : Type} : Errs (Way.fail 10 : Way α) := fun L m s e ⟨f, h⟩ => by
  cases h
  decide
theorem errs_get (k : Nat) : Errs (Way.get k) := fun L m s e ⟨f, h⟩ => by
  unfold Way.get at h
  simp only [Option.some.injEq] at h
  split at h
  · cases h
    decide
  · cases h
theorem errs_align : Errs Way.align := fun L m s e ⟨f, h⟩ => by cases h
theorem errs_room (n : Nat) : Errs (Way.room n) := fun L m s e ⟨f, h⟩ => by
  unfold Way.room at h
  simp only [Option.some.injEq] at h
  split at h
  · cases h
    decide
  · cases h
theorem errs_put (x : List Nat → Nat) : Errs (Way.put x) := fun L m s e ⟨f, h⟩ => by
  unfold Way.put at h
  simp only [Option.some.injEq] at h
  split at h
  · cases h
    decide
  · cases h
theorem errs_behind (d : Nat) : Errs (Way.behind d) := fun L m s e ⟨f, h⟩ => by
  unfold Way.behind at h
  simp only [Option.some.injEq] at h
  split at h
  · cases h
    decide
  · cases h
theorem errs_bind {α β : Type} {x : Way α} {k : α → Way β} (hx : Errs x) (hk : ∀ a, Errs (k a)) : Errs (x.bind k) := fun L m s e ⟨f, h⟩ => by
  have h : Way.bindRun x k f L m s = some (.err e) := h
  unfold Way.bindRun at h
  cases hr : x.run f L m s with
  | none => rw [hr] at h; cases h
  | some r =>
    cases r with
    | err e' =>
      rw [hr] at h
      cases h
      exact hx L m s e ⟨f, hr⟩
    | ok a t =>
      rw [hr] at h
      exact hk a L m t e ⟨f, h⟩
theorem errs_loop {α β : Type} {step : β → Way (β ⊕ α)} (h : ∀ b, Errs (step b)) (b : β) : Errs (Way.loop step b) := fun L m s e ⟨f, hr⟩ => by
  have key : ∀ n b s, Way.rounds step f L m n b s = some (.err e) → 3 ≤ e ∧ e ≤ 12 := by
    intro n
    induction n with
    | zero => intro b s h; cases h
    | succ n ih =>
      intro b s h'
      rw [Way.rounds] at h'
      cases hx : (step b).run f L m s with
      | none => rw [hx] at h'; cases h'
      | some r =>
        rw [hx] at h'
        cases r with
        | err e' =>
          cases h'
          exact h b L m s e ⟨f, hx⟩
        | ok x u =>
          cases x with
          | inl b' => exact ih b' u h'
          | inr a => cases h'
  exact key f b s hr
theorem errs_refuse (c : Prop) [Decidable c] : Errs (refuseW c 10) := by
  unfold refuseW
  split
  · exact errs_fail
  · exact errs_pure ()
theorem errs_sym (c : Cds) (n l code first place : Nat) : Errs (symFrom c n l code first place) := by
  induction n generalizing l code first place with
  | zero => exact errs_fail
  | succ n ih =>
    refine errs_bind (errs_get 1) fun b => ?_
    split
    · exact errs_pure _
    · exact ih _ _ _ _
theorem errs_symW (c : Cds) : Errs (symW c) := errs_sym c _ _ _ _ _
theorem errs_grouped (a b : Nat) : Errs (groupedW a b) := errs_bind (errs_get _) fun _ => errs_pure _
theorem errs_length (x : Nat) : Errs (lengthW x) := errs_bind (errs_refuse _) fun _ => by
  split
  · exact errs_pure _
  · exact errs_bind (errs_grouped _ _) fun _ => errs_pure _
theorem errs_distance (c : Cds) : Errs (distanceW c) := errs_bind (errs_symW c) fun _ => errs_bind (errs_refuse _) fun _ => errs_bind (errs_grouped _ _) fun _ => errs_pure _
theorem errs_copy (d n : Nat) : Errs (copyW d n) := by
  induction n with
  | zero => exact errs_pure ()
  | succ n ih => exact errs_bind (errs_put _) fun _ => ih
theorem errs_match (n d : Nat) : Errs (matchW n d) := errs_bind (errs_behind d) fun _ => errs_bind (errs_room n) fun _ => errs_copy d n
theorem errs_symbols (p : Cds × Cds) : Errs (symbolsW p) := errs_loop (fun _ => errs_bind (errs_symW _) fun x => by
  split
  · exact errs_bind (errs_room 1) fun _ => errs_bind (errs_put _) fun _ => errs_pure _
  · split
    · exact errs_pure _
    · exact errs_bind (errs_length x) fun n => errs_bind (errs_distance _) fun d => errs_bind (errs_match n d) fun _ => errs_pure _) ()
theorem errs_bytes (n : Nat) : Errs (bytesW n) := by
  induction n with
  | zero => exact errs_pure ()
  | succ n ih => exact errs_bind (errs_get 8) fun _ => errs_bind (errs_put _) fun _ => ih
theorem errs_stored : Errs storedW := errs_bind errs_align fun _ => errs_bind (errs_get 16) fun n => errs_bind (errs_get 16) fun k => errs_bind (errs_refuse _) fun _ => errs_bind (errs_room n) fun _ => errs_bytes n
theorem errs_own (n i : Nat) (own : List Nat) : Errs (ownFrom n i own) := by
  induction n generalizing i own with
  | zero => exact errs_pure _
  | succ n ih => exact errs_bind (errs_get 3) fun _ => ih _ _
theorem errs_add (want : Nat) (ls : List Nat) (l n : Nat) : Errs (addW want ls l n) := errs_bind (errs_refuse _) fun _ => errs_pure _
theorem errs_lengths (c : Cds) (want : Nat) : Errs (lengthsW c want) := errs_loop (fun ls => by
  unfold lenStep
  split
  · refine errs_bind (errs_symW c) fun x => ?_
    split
    · exact errs_bind (errs_get 2) fun _ => errs_bind (errs_refuse _) fun _ => errs_bind (errs_add _ _ _ _) fun _ => errs_pure _
    · split
      · exact errs_bind (errs_get 3) fun _ => errs_bind (errs_add _ _ _ _) fun _ => errs_pure _
      · split
        · exact errs_bind (errs_get 7) fun _ => errs_bind (errs_add _ _ _ _) fun _ => errs_pure _
        · exact errs_bind (errs_add _ _ _ _) fun _ => errs_pure _
  · exact errs_pure _) []
theorem errs_ownPair : Errs ownPairW := errs_bind (errs_get 5) fun _ => errs_bind (errs_get 5) fun _ => errs_bind (errs_get 4) fun _ => errs_bind (errs_own _ _ _) fun _ => errs_bind (errs_refuse _) fun _ => errs_bind (errs_lengths _ _) fun _ =>
  errs_bind (errs_refuse _) fun _ => errs_bind (errs_refuse _) fun _ => errs_bind (errs_refuse _) fun _ => errs_pure _
theorem errs_block : Errs blockW := errs_bind (errs_get 2) fun k => by
  split
  · exact errs_stored
  · split
    · exact errs_symbols _
    · split
      · exact errs_bind errs_ownPair fun p => errs_symbols p
      · exact errs_fail
theorem errs_blocks : Errs blocksW := errs_loop (fun _ => errs_bind (errs_get 1) fun l => errs_bind errs_block fun _ => by
  split
  · exact errs_pure _
  · exact errs_pure _) ()
/-! ### Inflate -/
/-- What Inflate comes to. -/
def InflTo (zs : List Nat) (m : Nat) (w : World) (e : Ending) (w' : World) : Prop :=
  (∃ t v, Says blocksW (bitsOfBytes zs) m ⟨0, []⟩ (.ok () t) ∧ e = .returned (.tuple #[v, .int .i64 (((t.pos + 7) / 8 : Nat) : Int), .int .i64 0]) ∧ w'.ownsRow w.heap.size 5 1 v t.out.length (t.out.map byteVal) ∧ Below w.heap.size w w') ∨
  (∃ k : Nat, Says blocksW (bitsOfBytes zs) m ⟨0, []⟩ (.err k) ∧ 3 ≤ k ∧ k ≤ 12 ∧ e = .returned (.tuple #[.slice none 0 0, .int .i64 0, .int .i64 (k : Int)]) ∧ Below w.heap.size w w')
end Go.Proofs.YtbfpbmnnlckldaaDoor.Fx
namespace Go.Proofs.YtbfpbmnnlckldaaDoor.Fx
open Go Go.RowKit Go.Joins
set_option linter.unusedVariables false
theorem at_is (w : World) (v : Value) (l : List Bool) (t : Nat) (O : Nat → Prop) (h : isR w v l t O) : Calls Tryd.prog 50 #[v] w fun e w' => e = .returned (.int .i64 (t : Int)) ∧ w' = w := by
  obtain ⟨g, g', s, zs, hh, _⟩ := h
  obtain ⟨rfl, h1, h2, h3⟩ := hh
  have q0 := cell_of_block h1 0
  have q1 := cell_of_block h2 1
  clear h1 h2 h3
  go_enter Tryd.func50, Tryd.ntmps50
  go_wp2_with fail
  go_ret
  first | exact ⟨rfl, rfl⟩ | simp
theorem own_higher {w : World} {B : Nat} {v : Value} {n : Nat} {xs : List Value} (h : w.ownsRow 0 5 1 v n xs) (hB : ∀ k, v.ownBlock = some k → B ≤ k) : w.ownsRow B 5 1 v n xs := by
  refine ⟨h.1, ?_⟩
  rcases h.2 with hn | ⟨g, cap, cur, rfl, hb, rest⟩
  · exact .inl hn
  · exact .inr ⟨g, cap, cur, rfl, hB g rfl, rest⟩
theorem whole_start {W w1 : World} {r : Value} {zs : List Nat} {R : Nat → Prop} {m : Nat} (hl : LaidOrder W) (h1 : isR w1 r (bitsOfBytes zs) 0 R) (h2 : ∀ k, R k → W.heap.size ≤ k) (hb : Below W.heap.size W w1) :
    ∃ O, Whole (w1.alloc (.cells #[r, .slice none 0 0, .int .i64 (m : Int), .pointer none] 103)) w1.heap.size (bitsOfBytes zs) m ⟨0, []⟩ (.pointer none) O (fun _ => False) ∧ (∀ k, O k → W.heap.size ≤ k) ∧ Below W.heap.size W (w1.alloc (.cells #[r, .slice none 0 0, .int .i64 (m : Int), .pointer none] 103)) := by
  have hb1 : Below w1.heap.size w1 (w1.alloc (.cells #[r, .slice none 0 0, .int .i64 (m : Int), .pointer none] 103)) := (Below.refl _ _).alloc (Nat.le_refl _) _
  have hlt := isR_lt _ _ _ _ _ h1
  have hl0 := World.block_lt_of_cell? W _ (hl 0 (by decide))
  have hb2 := hb.trans (hb1.mono hb.size)
  refine ⟨fun k => k = w1.heap.size ∨ R k ∨ (Value.slice none 0 0).ownBlock = some k, ⟨⟨r, .slice none 0 0, R, heap_alloc_new _ _, isR_keep _ _ _ _ _ _ h1 hb1.size (fun k hk => hb1.block k (hlt k hk)), World.ownsRow_nil _ _ _ _, fun hr => by have := hlt _ hr; omega, by simp [Value.ownBlock], fun k hk => by simp [Value.ownBlock], rfl⟩, .inl rfl, fun k hk => hk.elim, ?_, ?_⟩, ?_, hb2⟩
  · exact hl.went (Past.of_below hb2 : Past (fun _ => False) _ _) (fun h => h)
  · rintro (h | h | h)
    · have := hb.size; simp only at hl0; omega
    · have := h2 _ h; simp only at hl0; omega
    · simp [Value.ownBlock] at h
  · rintro k (rfl | hk | hk)
    · exact hb.size
    · exact h2 k hk
    · simp [Value.ownBlock] at hk
set_option maxHeartbeats 2000000 in
set_option maxRecDepth 100000 in
theorem inflate_code (W : World) (bv : Value) (zs : List Nat) (most : Int) (hr : bytesIn W bv zs) (h8 : ∀ x ∈ zs, x < 256) (hz : zs.length ≤ 34359738368) (hl : LaidOrder W) (hm1 : -9223372036854775808 ≤ most) (hm2 : most ≤ 1099511627776) :
    Calls Tryd.prog 35 #[bv, .int .i64 most] W (InflTo zs most.toNat W) := by
  have hmax := fun w => max_two most 0 w
  have e0 : max most 0 = ((most.toNat : Nat) : Int) := by omega
  rw [e0] at hmax
  have HM : Hid (most.toNat ≤ 1099511627776) := by show _ ≤ _; omega
  obtain ⟨m, em⟩ : ∃ m, most.toNat = m := ⟨_, rfl⟩
  rw [em] at hmax HM ⊢
  have KR := rnew_code W bv zs hr h8 hz
  have HL : Hid ((bitsOfBytes zs).length ≤ 1099511627776) := by show _ ≤ _; rw [bitsOfBytes_length]; omega
  have HL8 : Hid ((bitsOfBytes zs).length % 8 = 0) := by show _ = _; rw [bitsOfBytes_length]; omega
  have HLA := Lib.hid hl
  clear e0 em hr h8 hz hl hm1 hm2
  go_enter Tryd.func35, Tryd.ntmps35
  go_wp2_with fail
  go_at_call 48
  refine KR.mono ?_
  clear KR
  rintro e w1 ⟨r, R, rfl, h1, h2, h3⟩
  obtain ⟨O, hw, hO, hb⟩ := whole_start (m := m) HLA.out h1 h2 h3
  have HW := Lib.hid hw
  have HO := Lib.hid hO
  have HB := Lib.hid hb
  have KB := blocks_go _ _ (bitsOfBytes zs) m ⟨0, []⟩ _ O _ hw HM.out (Nat.zero_le _) HL.out HL8.out
  obtain ⟨g2, g2', s2, zs2, hh, _⟩ := id h1
  obtain rfl := hh.val
  clear hh h1 h2 h3 hw hO hb
  go_wp2_with fail
  go_at_call 49
  refine KB.mono ?_
  clear KB
  rintro e w3 (⟨t, fx, O3, hs, rfl, h1, h2⟩ | ⟨k, hs, rfl, hp⟩)
  · have HS := Lib.hid hs
    have hB3 : Below W.heap.size W w3 := HB.out.trans (h2.past.below HO.out HB.out.size)
    have HB3 := Lib.hid hB3
    have HN3 : Hid (∀ k, O3 k → W.heap.size ≤ k) := fun k hk => (h2.own k hk).elim (HO.out k) (fun h => Nat.le_trans HB.out.size h)
    obtain ⟨r3, v3, R3, hst⟩ := h1
    have q0 := cell_of_block hst.obj 0
    have q1 := cell_of_block hst.obj 1
    have hpos := isR_le hst.rd
    have hpl : t.pos ≤ 1099511627776 := Nat.le_trans hpos HL.out
    have KA : ∀ n, Calls Tryd.prog 50 #[r3] (w3.drewN n) fun e w' => e = .returned (.int .i64 (t.pos : Int)) ∧ w' = w3.drewN n := fun n => at_is (w3.drewN n) r3 _ t.pos R3 (isR_keep _ _ _ _ _ _ hst.rd (Nat.le_refl _) (fun _ _ => rfl))
    have hROW : Hid (w3.ownsRow W.heap.size 5 1 v3 t.out.length (t.out.map byteVal)) := own_higher hst.row (fun k hk => HN3.out k (by rw [hst.own]; exact .inr (.inr hk)))
    obtain ⟨vo3, vc3, rfl⟩ := row_shape hst.row
    obtain ⟨g3, g3', s3, zs3, hh3, _⟩ := id hst.rd
    obtain rfl := hh3.val
    have HT : Hid ((t.pos + 7) / 8 * 1 = (t.pos + 7) / 8) := Nat.mul_one _
    obtain ⟨P, eP⟩ : ∃ P, t.pos = P := ⟨_, rfl⟩
    have EP := Lib.hid eP
    rw [eP] at KA hpl
    have hw7 : IntKind.i64.wrap ((P : Int) + 7) = ((P + 7 : Nat) : Int) := by
      rw [IntKind.wrap_i64]
      omega
    obtain ⟨P7, eP7⟩ : ∃ x, P + 7 = x := ⟨_, rfl⟩
    have EP7 := Lib.hid eP7
    rw [eP7] at hw7
    have hw7' : (P : Int) + 7 = (P7 : Int) := by omega
    have hq : (P7 : Int).tdiv 8 = ((P7 / 8 : Nat) : Int) := by
      rw [Int.tdiv_eq_ediv_of_nonneg (by omega)]
      rfl
    obtain ⟨Q, eQ⟩ : ∃ x, P7 / 8 = x := ⟨_, rfl⟩
    have EQ := Lib.hid eQ
    rw [eQ] at hq
    have hqw : IntKind.i64.wrap (Q : Int) = (Q : Int) := by
      rw [IntKind.wrap_i64]
      omega
    have hPw : IntKind.i64.wrap (P7 : Int) = (P7 : Int) := by
      rw [IntKind.wrap_i64]
      omega
    clear hs hB3 h2 hst hpos hh3 eP eP7 eQ
    go_wp2_with fail
    go_quiet ((go_at_call 50; exact Calls.quiet_of_same (KA _)))
    go_wp2_with fail
    refine bodyPost_ret (v := .tuple #[.slice vo3 t.out.length vc3, .int .i64 (Q : Int), .int .i64 0]) (by simp [results, Tryd.results35, asAddr, go_sem]) rfl ?_
    have hPQ : (t.pos + 7) / 8 = Q := by rw [EP.out, EP7.out, EQ.out]
    exact .inl ⟨t, _, HS.out, by rw [hPQ], hROW.out, HB3.out.os, HB3.out.tape, HB3.out.output, HB3.out.size, HB3.out.block⟩
  · have HK := errs_blocks _ _ _ _ hs
    have HB3 : Hid (Below W.heap.size W w3) := HB.out.trans (hp.below HO.out HB.out.size)
    have f1 : ((k : Int) == 0) = false := by simp; omega
    have f2 : decide ((k : Int) = 0) = false := decide_eq_false (by omega)
    have f3 : ((k : Int) != 0) = true := by simp; omega
    go_wp2_with fail
    refine bodyPost_ret (v := .tuple #[.slice none 0 0, .int .i64 0, .int .i64 (k : Int)]) (by simp [results, Tryd.results35, asAddr, go_sem]) rfl ?_
    exact .inr ⟨k, hs, HK.1, HK.2, rfl, HB3.out⟩
end Go.Proofs.YtbfpbmnnlckldaaDoor.Fx
namespace Go.Proofs.YtbfpbmnnlckldaaDoor.Fx
open Go
set_option maxRecDepth 100000 in
theorem exi_none : Says blocksW (bitsOfBytes [3, 0]) 9 ⟨0, []⟩ (.ok () ⟨10, []⟩) := ⟨20, by kernel_rfl⟩
set_option maxRecDepth 100000 in
theorem exi_one : Says blocksW (bitsOfBytes [75, 4, 0]) 9 ⟨0, []⟩ (.ok () ⟨18, [97]⟩) := ⟨20, by kernel_rfl⟩
set_option maxRecDepth 100000 in
theorem exi_ten : Says blocksW (bitsOfBytes [75, 132, 3, 0]) 10 ⟨0, []⟩ (.ok () ⟨30, [97, 97, 97, 97, 97, 97, 97, 97, 97, 97]⟩) := ⟨20, by kernel_rfl⟩
set_option maxRecDepth 100000 in
theorem exi_long : Says blocksW (bitsOfBytes [75, 132, 3, 0]) 9 ⟨0, []⟩ (.err 3) := ⟨20, by kernel_rfl⟩
set_option maxRecDepth 100000 in
theorem exi_seven : Says blocksW (bitsOfBytes [1, 1, 0, 254, 255, 7]) 1 ⟨0, []⟩ (.ok () ⟨48, [7]⟩) := ⟨20, by kernel_rfl⟩
set_option maxRecDepth 100000 in
theorem exi_kind : Says blocksW (bitsOfBytes [7]) 9 ⟨0, []⟩ (.err 10) := ⟨20, by kernel_rfl⟩
set_option maxRecDepth 100000 in
theorem exi_empty : Says blocksW (bitsOfBytes []) 9 ⟨0, []⟩ (.err 12) := ⟨20, by kernel_rfl⟩
set_option maxRecDepth 100000 in
theorem exi_short : Says blocksW (bitsOfBytes [75]) 9 ⟨0, []⟩ (.err 12) := ⟨20, by kernel_rfl⟩
set_option maxRecDepth 100000 in
theorem exi_not : Says blocksW (bitsOfBytes [1, 1, 0, 255, 255]) 9 ⟨0, []⟩ (.err 10) := ⟨20, by kernel_rfl⟩
end Go.Proofs.YtbfpbmnnlckldaaDoor.Fx
namespace Go.Proofs.YtbfpbmnnlckldaaDoor.Fx
open Go Go.RowKit Go.Joins
set_option linter.unusedVariables false
theorem listed_new {α : Type} {c : α → Value} (w : World) (vals : Array Value) (ty : TypeId) (fr : Nat × Nat) (zs : List α) (cap : Nat) (hv : vals.toList = zs.map c) (hle : zs.length ≤ cap) : listed c (w.alloc (.cells vals ty fr)) (.slice (some ⟨w.heap.size, 0, none⟩) zs.length cap) zs := by
  refine .inr ⟨w.heap.size, 0, cap, rfl, ?_, hle, fun j z hj => ?_⟩
  · show _ < (w.heap.push _).size
    simp
  · rw [Nat.zero_add, cell_of_block (heap_alloc_new w _) j, ← Array.getElem?_toList, hv, List.getElem?_map, hj]
    rfl
theorem listed_drawn {α : Type} {c : α → Value} {w : World} {v : Value} {zs : List α} (h : listed c w v zs) : listed c w.drew v zs := listed_on h (Below.refl _ _).drew
theorem LaidOrder.below {W w : World} (h : LaidOrder W) (hb : Below W.heap.size W w) : LaidOrder w := h.went (Past.of_below hb : Past (fun _ => False) _ _) (fun h => h)
theorem row_new {w X : World} {vals : Array Value} {zs : List Nat} {n : Nat} (hX : X = w.alloc (.cells vals 5) ∨ X = (w.alloc (.cells vals 5)).drew) (c3 : vals.toList = zs.map byteVal) (c4 : zs.length = n) :
    bytesIn X (.slice (some ⟨w.heap.size, 0, none⟩) n n) zs ∧ Below w.heap.size w X := by
  subst c4
  rcases hX with rfl | rfl
  · exact ⟨listed_new w _ _ _ zs _ c3 (Nat.le_refl _), below_alloc1 w _⟩
  · exact ⟨listed_drawn (listed_new w _ _ _ zs _ c3 (Nat.le_refl _)), (below_alloc1 w _).drew⟩
end Go.Proofs.YtbfpbmnnlckldaaDoor.Fx
namespace Go.Proofs.YtbfpbmnnlckldaaDoor.Fx
open Go Go.RowKit Go.Joins
set_option linter.unusedVariables false
theorem told_row {zs : List Nat} {m : Nat} {w : World} {t : St} {e : Ending} {w' : World} (hs : Says blocksW (bitsOfBytes zs) m ⟨0, []⟩ (.ok () t)) (h : InflTo zs m w e w') :
    ∃ v, e = .returned (.tuple #[v, .int .i64 (((t.pos + 7) / 8 : Nat) : Int), .int .i64 0]) ∧ bytesIn w' v t.out ∧ Below w.heap.size w w' := by
  rcases h with ⟨t1, v, h1, rfl, hown, hb⟩ | ⟨k, h1, _⟩
  · have h2 := Way.says_one h1 hs
    cases h2
    exact ⟨v, rfl, own_listed hown, hb⟩
  · have h2 := Way.says_one h1 hs
    cases h2
theorem told_err {zs : List Nat} {m k : Nat} {w : World} {e : Ending} {w' : World} (hs : Says blocksW (bitsOfBytes zs) m ⟨0, []⟩ (.err k)) (h : InflTo zs m w e w') :
    e = .returned (.tuple #[.slice none 0 0, .int .i64 0, .int .i64 (k : Int)]) ∧ Below w.heap.size w w' := by
  rcases h with ⟨t1, v, h1, _⟩ | ⟨k1, h1, _, _, rfl, hb⟩
  · have h2 := Way.says_one h1 hs
    cases h2
  · have h2 := Way.says_one h1 hs
    cases h2
    exact ⟨rfl, hb⟩
theorem infl_any (W : World) (b : Value) (zs : List Nat) (m : Nat) (hr : bytesIn W b zs) (h8 : ∀ x ∈ zs, x < 256) (hz : zs.length ≤ 34359738368) (hl : LaidOrder W) (hm : m ≤ 1099511627776) :
    Calls Tryd.prog 35 #[b, .int .i64 (m : Int)] W (InflTo zs m W) := by
  have h := inflate_code W b zs (m : Int) hr h8 hz hl (by omega) (by omega)
  rwa [Int.toNat_natCast] at h
end Go.Proofs.YtbfpbmnnlckldaaDoor.Fx
