/-
  A block, of all three kinds, as landed. The conditions stand in it.
-/
import Derived.Test.YtbhmjppnhlmefaaDoorInfI
namespace Go.Proofs.YtbhmjppnhlmefaaDoor.Fx
open Go Go.RowKit Go.Joins
set_option linter.unusedVariables false
/-- A stream's fixed codes: none yet, or a pair of them. -/
def isF (w : World) (fx : Value) (F : Nat → Prop) : Prop := fx = .pointer none ∨ ∃ b, fx = .pointer (some ⟨b, 0, none⟩) ∧ isPair w b fixedP F
/-- A stream with its fixed codes, and the order laid. -/
structure Whole (w : World) (g : Nat) (L : List Bool) (m : Nat) (s : St) (fx : Value) (O F : Nat → Prop) : Prop where
  st : isS w g L m s fx O
  fix : isF w fx F
  apart : ∀ k, F k → ¬ O k ∧ k < w.heap.size
  laid : LaidOrder w
  lo : ¬ O 0
theorem isF_went {w w' : World} {fx : Value} {F O : Nat → Prop} (h : isF w fx F) (hp : Past O w w') (hF : ∀ k, F k → ¬ O k) : isF w' fx F := by
  rcases h with h | ⟨b, h1, h2⟩
  · exact .inl h
  · exact .inr ⟨b, h1, isPair_went h2 hp hF⟩
theorem Whole.next {w w' : World} {g : Nat} {L : List Bool} {m : Nat} {s t : St} {fx : Value} {O O' F : Nat → Prop} (h : Whole w g L m s fx O F) (h1 : isS w' g L m t fx O') (h2 : WentOn O O' w w') : Whole w' g L m t fx O' F where
  st := h1
  fix := isF_went h.fix h2.past (fun k hk => (h.apart k hk).1)
  apart := apart_went h2 h.apart
  laid := h.laid.went h2.past h.lo
  lo := fun h3 => (h2.own _ h3).elim h.lo (fun h4 => by have := World.block_lt_of_cell? w _ (h.laid 0 (by decide)); simp only at this; omega)
theorem Whole.drew {w : World} {g : Nat} {L : List Bool} {m : Nat} {s : St} {fx : Value} {O F : Nat → Prop} (h : Whole w g L m s fx O F) : Whole w.drew g L m s fx O F :=
  h.next (isS_drew h.st) ⟨fun b h => .inl h, drew_past O w⟩
/-- What a block comes to. -/
def WholeTo {α : Type} (x : Way α) (L : List Bool) (m : Nat) (s : St) (val : α → Value) (g : Nat) (O : Nat → Prop) (w : World) (e : Ending) (w' : World) : Prop :=
  (∃ a t fx O' F, Says x L m s (.ok a t) ∧ e = .returned (val a) ∧ Whole w' g L m t fx O' F ∧ WentOn O O' w w') ∨ (∃ k, Says x L m s (.err k) ∧ e = .panicked (fault k) ∧ Past O w w')
theorem Goes.whole {α : Type} {x : Way α} {L : List Bool} {m : Nat} {s : St} {val : α → Value} {g : Nat} {fx : Value} {O F : Nat → Prop} {w : World} {e : Ending} {w' : World} (hw : Whole w g L m s fx O F) (h : Goes x L m s val g fx O w e w') : WholeTo x L m s val g O w e w' := by
  rcases h with ⟨a, t, O', h1, h2, h3, h4⟩ | h
  · exact .inl ⟨a, t, fx, O', F, h1, h2, hw.next h3 h4, h4⟩
  · exact .inr h
/-- The fixed codes are there from now on. -/
theorem Whole.fixed {w w1 : World} {g b : Nat} {L : List Bool} {m : Nat} {s : St} {fx : Value} {O F : Nat → Prop} (h : Whole w g L m s fx O F) (hb : Below w.heap.size w w1) (hp : isPair w1 b fixedP (fun k => w.heap.size ≤ k ∧ k < w1.heap.size)) :
    Whole (w1.setCell ⟨g, 3, none⟩ (.pointer (some ⟨b, 0, none⟩))) g L m s (.pointer (some ⟨b, 0, none⟩)) O (fun k => w.heap.size ≤ k ∧ k < w1.heap.size) ∧ WentOn O O w (w1.setCell ⟨g, 3, none⟩ (.pointer (some ⟨b, 0, none⟩))) := by
  have hst := h.st
  have hlt := isS_lt hst
  obtain ⟨r, v, R, hs⟩ := hst
  have hgO : O g := by rw [hs.own]; exact .inl rfl
  have hglt := hlt g hgO
  have hobj := (hb.block g hglt).trans hs.obj
  have hset := block_setCell (i := 3) hobj (.pointer (some ⟨b, 0, none⟩))
  have hsz : (w1.setCell ⟨g, 3, none⟩ (.pointer (some ⟨b, 0, none⟩))).heap.size = w1.heap.size := by simp
  have hkeep : ∀ k, k < w.heap.size → k ≠ g → (w1.setCell ⟨g, 3, none⟩ (.pointer (some ⟨b, 0, none⟩))).heap[k]? = w.heap[k]? := fun k hk hkg => (Below.heap_setCell _ _ _ _ hkg).trans (hb.block k hk)
  have hRlt := isR_lt _ _ _ _ _ hs.rd
  have hwent : WentOn O O w (w1.setCell ⟨g, 3, none⟩ (.pointer (some ⟨b, 0, none⟩))) := ⟨fun b h => .inl h, hb.os, hb.tape, hb.output, by rw [hsz]; exact hb.size, fun k hk hn => hkeep k hk (fun e => hn (by rw [e]; exact hgO))⟩
  refine ⟨⟨⟨r, v, R, by simpa using hset, isR_keep _ _ _ _ _ _ hs.rd (by rw [hsz]; exact hb.size) (fun k hk => hkeep k (hRlt k hk) (fun e => hs.gr (e ▸ hk))), ownsRow_same hs.row (fun k hk => hkeep k (hs.row.lt k hk).2 (fun e => hs.gv (by rw [← e]; exact hk))), hs.gr, hs.gv, hs.rv, hs.own⟩, .inr ⟨b, rfl, isPair_keep hp (by rw [hsz]; exact Nat.le_refl _) (fun k hk hk2 => Below.heap_setCell _ _ _ _ (by show k ≠ g; have := hk.1; omega))⟩, fun k hk => ⟨fun ho => by have := hlt k ho; have := hk.1; omega, by rw [hsz]; exact hk.2⟩, h.laid.went hwent.past h.lo, h.lo⟩, hwent⟩
theorem fixedP_fit : Fit fixedP.1 ∧ Fit fixedP.2 := ⟨newCds_fit fixedLens (by rw [fixedLens_fit]; decide), newCds_fit (List.replicate 32 5) (by decide)⟩
set_option maxHeartbeats 4000000 in
set_option maxRecDepth 100000 in
theorem block_go (W : World) (g : Nat) (L : List Bool) (m : Nat) (s : St) (fx : Value) (O F : Nat → Prop) (h : Whole W g L m s fx O F) (hm : m ≤ 1099511627776) (ho : s.out.length ≤ m) (hL : L.length ≤ 1099511627776) (hL8 : L.length % 8 = 0) :
    Calls Tryd.prog 41 #[.pointer (some ⟨g, 0, none⟩)] W (WholeTo blockW L m s (fun _ => .tuple #[]) g O W) := by
  have HM := Lib.hid hm
  have HO := Lib.hid ho
  have HL := Lib.hid hL
  have HL8 := Lib.hid hL8
  have HW0 := Lib.hid h
  have HG := get_go W g L m s fx O 2 h.st (by decide) hL
  clear h hm ho hL hL8
  go_enter Tryd.func41, Tryd.ntmps41
  go_wp2_with fail
  go_at_call 40
  refine HG.mono ?_
  clear HG
  rintro e w1 (⟨k, u, O1, hs, rfl, h1, h2⟩ | ⟨k, hs, rfl, hp⟩)
  · obtain ⟨hk, rfl, _⟩ := get_said hs
    have hk : k ≤ 3 := by omega
    have HSA := Lib.hid hs
    have HW1 := Lib.hid (HW0.out.next h1 h2)
    have HG1 := Lib.hid h2
    clear hs h1 h2
    by_cases hk0 : k = 0
    · have f0 : ((k : Int) == 0) = true := by simp; omega
      have g0 : decide ((k : Int) = 0) = true := decide_eq_true (by omega)
      have KS := stored_go w1 g L m _ fx O1 HW1.out.st HM.out HO.out HL.out
      have HB : Hid (∀ r, Says storedW L m ⟨s.pos + 2, s.out⟩ r → Says blockW L m s r) := fun r h => Way.says_bind HSA.out (by rw [if_pos hk0]; exact h)
      clear hk0
      go_wp2_with fail
      go_at_call 52
      refine KS.mono ?_
      clear KS
      rintro e w2 h
      rcases h.whole HW1.out with ⟨⟨⟩, t, fx2, O2, F2, hs, rfl, h1, h2⟩ | ⟨k, hs, rfl, hp⟩
      · go_wp2_with fail
        go_end0
        exact .inl ⟨(), t, fx2, O2, F2, HB.out _ hs, rfl, h1, HG1.out.trans h2⟩
      · go_wp2_with fail
        exact ⟨rfl, .inr ⟨k, HB.out _ hs, rfl, HG1.out.on hp⟩⟩
    · have f0 : ((k : Int) == 0) = false := by simp; omega
      have g0 : decide ((k : Int) = 0) = false := decide_eq_false (by omega)
      by_cases hk1 : k = 1
      · have f1 : ((k : Int) == 1) = true := by simp; omega
        have g1 : decide ((k : Int) = 1) = true := decide_eq_true (by omega)
        have HB : Hid (∀ r, Says (symbolsW fixedP) L m ⟨s.pos + 2, s.out⟩ r → Says blockW L m s r) := fun r h => Way.says_bind HSA.out (by rw [if_neg hk0, if_pos hk1]; exact h)
        obtain ⟨r, v, R, hst⟩ := HW1.out.st
        have q3 := cell_of_block hst.obj 3
        have hobj := Lib.hid hst.obj
        clear hst hk0 hk1
        rcases HW1.out.fix with hfx | ⟨b, hfx, hpair⟩
        · subst hfx
          have KF := fixedPair_any w1
          go_wp2_with fail
          go_at_call 53
          refine KF.mono ?_
          clear KF
          rintro e w2 ⟨b, rfl, h1, h2⟩
          have hobj2 := (h2.block g (Array.getElem?_eq_some_iff.1 hobj.out).1).trans hobj.out
          have r3 := cell_of_block hobj2 3
          have u3 := unfrozen_of_block hobj2 3
          obtain ⟨hwh, hwn⟩ := HW1.out.fixed h2 h1
          have HW2 := Lib.hid hwh
          have HN2 := Lib.hid hwn
          obtain ⟨fF1, fF2⟩ := fixedP_fit
          have KS := symbols_go _ g L m _ _ O1 b fixedP _ hwh.st (hwh.fix.elim (fun h => by cases h) (fun ⟨b', h1, h2⟩ => by cases h1; exact h2)) hwh.apart fF1 fF2 HM.out HO.out HL.out HL8.out
          clear h1 h2 hobj2 hwh hwn q3
          go_wp2_with fail
          go_at_call 54
          refine KS.mono ?_
          clear KS
          rintro e w3 h
          rcases h.whole HW2.out with ⟨⟨⟩, t, fx2, O2, F2, hs, rfl, h1, h2⟩ | ⟨k, hs, rfl, hp⟩
          · go_wp2_with fail
            go_end0
            exact .inl ⟨(), t, fx2, O2, F2, HB.out _ hs, rfl, h1, (HG1.out.trans HN2.out).trans h2⟩
          · go_wp2_with fail
            exact ⟨rfl, .inr ⟨k, HB.out _ hs, rfl, (HG1.out.trans HN2.out).on hp⟩⟩
        · subst hfx
          obtain ⟨fF1, fF2⟩ := fixedP_fit
          have KS := symbols_go w1 g L m _ _ O1 b fixedP _ HW1.out.st hpair HW1.out.apart fF1 fF2 HM.out HO.out HL.out HL8.out
          clear hpair
          go_wp2_with fail
          go_at_call 54
          refine KS.mono ?_
          clear KS
          rintro e w3 h
          rcases h.whole HW1.out with ⟨⟨⟩, t, fx2, O2, F2, hs, rfl, h1, h2⟩ | ⟨k, hs, rfl, hp⟩
          · go_wp2_with fail
            go_end0
            exact .inl ⟨(), t, fx2, O2, F2, HB.out _ hs, rfl, h1, HG1.out.trans h2⟩
          · go_wp2_with fail
            exact ⟨rfl, .inr ⟨k, HB.out _ hs, rfl, HG1.out.on hp⟩⟩
      · have f1 : ((k : Int) == 1) = false := by simp; omega
        have g1 : decide ((k : Int) = 1) = false := decide_eq_false (by omega)
        by_cases hk2 : k = 2
        · have f2 : ((k : Int) == 2) = true := by simp; omega
          have g2 : decide ((k : Int) = 2) = true := decide_eq_true (by omega)
          have HB : Hid (∀ r, Says (ownPairW.bind symbolsW) L m ⟨s.pos + 2, s.out⟩ r → Says blockW L m s r) := fun r h => Way.says_bind HSA.out (by rw [if_neg hk0, if_neg hk1, if_pos hk2]; exact h)
          have KO := ownPair_go w1 g L m _ fx O1 HW1.out.st HW1.out.laid HW1.out.lo HL.out
          clear hk0 hk1 hk2
          go_wp2_with fail
          go_at_call 55
          refine KO.mono ?_
          clear KO
          rintro e w2 (⟨p, t, O2, b, K, hs, rfl, h1, h2, h3, h4, h5, h6⟩ | ⟨k, hs, rfl, hp⟩)
          · have HW2 := Lib.hid (HW1.out.next h5 h6)
            have HG2 := Lib.hid (HG1.out.trans h6)
            have HSB := Lib.hid hs
            have hout := (Way.says_on hs (isS_pos HW1.out.st) HL8.out).2.2.2 HO.out
            have KS := symbols_go w2 g L m t fx O2 b p K h5 h1 h2 h3 h4 HM.out hout HL.out HL8.out
            clear hs h1 h2 h3 h4 h5 h6 hout
            go_wp2_with fail
            go_at_call 54
            refine KS.mono ?_
            clear KS
            rintro e w3 h
            rcases h.whole HW2.out with ⟨⟨⟩, t3, fx2, O3, F2, hs, rfl, h1, h2⟩ | ⟨k, hs, rfl, hp⟩
            · go_wp2_with fail
              go_end0
              exact .inl ⟨(), t3, fx2, O3, F2, HB.out _ (Way.says_bind HSB.out hs), rfl, h1, HG2.out.trans h2⟩
            · go_wp2_with fail
              exact ⟨rfl, .inr ⟨k, HB.out _ (Way.says_bind HSB.out hs), rfl, HG2.out.on hp⟩⟩
          · go_wp2_with fail
            exact ⟨rfl, .inr ⟨k, HB.out _ (Way.says_bind_err hs), rfl, HG1.out.on hp⟩⟩
        · have f2 : ((k : Int) == 2) = false := by simp; omega
          have g2 : decide ((k : Int) = 2) = false := decide_eq_false (by omega)
          have HB : Hid (Says blockW L m s (.err 10)) := Way.says_bind HSA.out (by rw [if_neg hk0, if_neg hk1, if_neg hk2]; exact Way.says_fail 10)
          clear hk0 hk1 hk2
          go_wp2_with fail
          exact ⟨rfl, .inr ⟨10, HB.out, rfl, HG1.out.past⟩⟩
  · go_wp2_with fail
    exact ⟨rfl, .inr ⟨k, Way.says_bind_err hs, rfl, hp⟩⟩
end Go.Proofs.YtbhmjppnhlmefaaDoor.Fx
