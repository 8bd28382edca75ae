/-
  Lengths of codes, got by their own codes: the loop, as landed. The conditions stand in it.
-/
import Derived.Test.YtbfpbmnnlckldaaDoorNums
import Derived.Test.YtbfpbmnnlckldaaDoorInfL
namespace Go.Proofs.YtbfpbmnnlckldaaDoor.Fx
open Go Go.RowKit Go.Joins
set_option linter.unusedVariables false
/-- What holds between the rounds: the stream, the lengths so far, how many are wanted. -/
structure LenAt (W wr : World) (g : Nat) (L : List Bool) (m : Nat) (t : St) (fx : Value) (O O' : Nat → Prop) (A B want : Nat) (ls : List Nat) (R : Nat → Prop) (b off : Nat) (c : Cds) (K : Nat → Prop) : Prop where
  st : isS wr g L m t fx O'
  row : isG wr B ls R
  box : wr.cell? ⟨A, 0, none⟩ = some (.int .i64 (want : Int))
  cds : isCd wr b off c K
  went : WentOn O O' W wr
  ro : ∀ k, R k → ¬ O' k
  rn : ∀ k, R k → W.heap.size ≤ k
  ao : ¬ O' A
  ar : ¬ R A
  ko : ∀ k, K k → ¬ O' k
  kr : ∀ k, K k → ¬ R k
theorem LenAt.alt {W wr : World} {g : Nat} {L : List Bool} {m : Nat} {t : St} {fx : Value} {O O' : Nat → Prop} {A B want : Nat} {ls : List Nat} {R : Nat → Prop} {b off : Nat} {c : Cds} {K : Nat → Prop} (h : LenAt W wr g L m t fx O O' A B want ls R b off c K) : A < wr.heap.size := World.block_lt_of_cell? wr _ h.box
/-- Behind a call on the stream. -/
theorem LenAt.next {W wr w' : World} {g : Nat} {L : List Bool} {m : Nat} {t u : St} {fx : Value} {O O' O'' : Nat → Prop} {A B want : Nat} {ls : List Nat} {R : Nat → Prop} {b off : Nat} {c : Cds} {K : Nat → Prop} (h : LenAt W wr g L m t fx O O' A B want ls R b off c K)
    (h1 : isS w' g L m u fx O'') (h2 : WentOn O' O'' wr w') : LenAt W w' g L m u fx O O'' A B want ls R b off c K where
  st := h1
  row := isG_went h.row h2.past h.ro
  box := (World.cell?_of_block (a := ⟨A, 0, none⟩) (h2.past.block A h.alt h.ao)).trans h.box
  cds := isC_went h.cds h2.past h.ko
  went := h.went.trans h2
  ro := apart_next h2 h.ro (isG_lt h.row)
  rn := h.rn
  ao := fun h3 => (h2.own A h3).elim h.ao (fun h4 => by have := h.alt; omega)
  ar := h.ar
  ko := apart_next h2 h.ko (isC_lt h.cds)
  kr := h.kr
/-- Behind a call on the row. -/
theorem LenAt.more {W wr w' : World} {g : Nat} {L : List Bool} {m : Nat} {t : St} {fx : Value} {O O' : Nat → Prop} {A B want : Nat} {ls ls' : List Nat} {R R' : Nat → Prop} {b off : Nat} {c : Cds} {K : Nat → Prop} (h : LenAt W wr g L m t fx O O' A B want ls R b off c K)
    (h1 : isG w' B ls' R') (h2 : WentOn R R' wr w') : LenAt W w' g L m t fx O O' A B want ls' R' b off c K where
  st := isS_keep h.st h2.past.size (fun k hk => h2.past.block k (isS_lt h.st k hk) (fun hr => h.ro k hr hk))
  row := h1
  box := (World.cell?_of_block (a := ⟨A, 0, none⟩) (h2.past.block A h.alt h.ar)).trans h.box
  cds := isC_went h.cds h2.past h.kr
  went := ⟨h.went.own, h.went.past.trans h2.past (fun k hk => .inr (h.rn k hk))⟩
  ro := fun k hk ho => (h2.own k hk).elim (fun hr => h.ro k hr ho) (fun hs => by have := isS_lt h.st k ho; omega)
  rn := fun k hk => (h2.own k hk).elim (h.rn k) (fun hs => Nat.le_trans h.went.past.size hs)
  ao := h.ao
  ar := fun hk => (h2.own A hk).elim h.ar (fun hs => by have := h.alt; omega)
  ko := h.ko
  kr := fun k hk hr => (h2.own k hr).elim (h.kr k hk) (fun hs => by have := isC_lt h.cds k hk; omega)
/-- A fault while the row is written. -/
theorem LenAt.dies {W wr w' : World} {g : Nat} {L : List Bool} {m : Nat} {t : St} {fx : Value} {O O' : Nat → Prop} {A B want : Nat} {ls : List Nat} {R : Nat → Prop} {b off : Nat} {c : Cds} {K : Nat → Prop} (h : LenAt W wr g L m t fx O O' A B want ls R b off c K)
    (h2 : Past R wr w') : Past O W w' := h.went.past.trans h2 (fun k hk => .inr (h.rn k hk))
theorem lens_start (W : World) (g : Nat) (L : List Bool) (m : Nat) (s : St) (fx : Value) (O : Nat → Prop) (b off : Nat) (c : Cds) (K : Nat → Prop) (want : Nat) (h : isS W g L m s fx O) (hc : isCd W b off c K) (hK : ∀ k, K k → ¬ O k) (hw : want ≤ 400) :
    ∃ R, LenAt W (((W.alloc (.cells #[.int .i64 (want : Int)] 3)).alloc (.cells (cellsN (List.replicate want 0)) 3)).alloc (.cells #[.slice (some ⟨W.heap.size + 1, 0, none⟩) 0 want] 144)) g L m s fx O O W.heap.size (W.heap.size + 1 + 1) want [] R b off c K := by
  obtain ⟨w1, e1⟩ : ∃ w1, W.alloc (.cells #[.int .i64 (want : Int)] 3) = w1 := ⟨_, rfl⟩
  have s1 : w1.heap.size = W.heap.size + 1 := by
    rw [← e1]
    show (W.heap.push _).size = _
    simp
  obtain ⟨w2, e2⟩ : ∃ w2, w1.alloc (.cells (cellsN (List.replicate want 0)) 3) = w2 := ⟨_, rfl⟩
  have s2 : w2.heap.size = W.heap.size + 1 + 1 := by
    rw [← e2, ← s1]
    show (w1.heap.push _).size = _
    simp
  have hb1 : Below W.heap.size W w1 := by
    rw [← e1]
    exact (Below.refl _ _).alloc (Nat.le_refl _) _
  have hb2 : Below W.heap.size W w2 := by
    rw [← e2]
    exact hb1.alloc (by rw [s1]; omega) _
  have hb3 := hb2.alloc (by rw [s2]; omega) (.cells #[.slice (some ⟨W.heap.size + 1, 0, none⟩) 0 want] 144)
  have hA : w1.heap[W.heap.size]? = some (.cells #[.int .i64 (want : Int)] 3 (0, 0)) := by
    rw [← e1]
    exact heap_alloc_new W _
  have hA2 : w2.heap[W.heap.size]? = some (.cells #[.int .i64 (want : Int)] 3 (0, 0)) := by
    rw [← e2]
    exact alloc_old hA
  have hrow : w2.ownsRow 0 3 1 (.slice (some ⟨W.heap.size + 1, 0, none⟩) 0 want) 0 [] := by
    rw [← e2, ← s1]
    exact World.ownsRow_made w1 (cellsN (List.replicate want 0)) want (Nat.zero_le _) (by unfold maxLen; omega) (by rw [cellsN_size, List.length_replicate, Nat.mul_one])
  rw [e1, e2]
  have hlt := isS_lt h
  have hltc := isC_lt hc
  have hbox : (w2.alloc (.cells #[.slice (some ⟨W.heap.size + 1, 0, none⟩) 0 want] 144)).heap[W.heap.size + 1 + 1]? = some (.cells #[.slice (some ⟨W.heap.size + 1, 0, none⟩) 0 want] 144 (0, 0)) := by
    rw [← s2]
    exact heap_alloc_new w2 _
  refine ⟨fun k => k = W.heap.size + 1 + 1 ∨ (Value.slice (some ⟨W.heap.size + 1, 0, none⟩) 0 want).ownBlock = some k, isS_keep h hb3.size (fun k hk => hb3.block k (hlt k hk)), ⟨_, hbox, hrow.alloc _, ?_, rfl⟩, (cell_of_block (alloc_old hA2) 0), isC_keep hc hb3.size (fun k hk => hb3.block k (hltc k hk)), ⟨fun k hk => .inl hk, Past.of_below hb3⟩, ?_, ?_, ?_, ?_, hK, ?_⟩
  · simp [Value.ownBlock]
  · rintro k (rfl | hk) ho
    · have := hlt _ ho
      omega
    · simp only [Value.ownBlock, Option.some.injEq] at hk
      have := hlt _ ho
      omega
  · rintro k (rfl | hk)
    · omega
    · simp only [Value.ownBlock, Option.some.injEq] at hk
      omega
  · intro ho
    have := hlt _ ho
    omega
  · rintro (h1 | hk)
    · omega
    · simp only [Value.ownBlock, Option.some.injEq] at hk
      omega
  · rintro k hk (rfl | h1)
    · have := hltc _ hk
      omega
    · simp only [Value.ownBlock, Option.some.injEq] at h1
      have := hltc _ hk
      omega
/-- What lengths come to. -/
def LensTo (c : Cds) (want : Nat) (L : List Bool) (m : Nat) (s : St) (g : Nat) (fx : Value) (O : Nat → Prop) (w : World) (e : Ending) (w' : World) : Prop :=
  (∃ ls t O' lv, Says (lengthsW c want) L m s (.ok ls t) ∧ e = .returned lv ∧ listed natVal w' lv ls ∧ (∀ k, inBlock lv k → w.heap.size ≤ k ∧ ¬ O' k) ∧ ls.length = want ∧ (∀ l ∈ ls, l ≤ 15) ∧ isS w' g L m t fx O' ∧ WentOn O O' w w') ∨ (∃ k, Says (lengthsW c want) L m s (.err k) ∧ e = .panicked (fault k) ∧ Past O w w')
theorem add_said {want : Nat} {ls : List Nat} {l n : Nat} {L : List Bool} {m : Nat} {s : St} (h : ls.length + n ≤ want) : Says (addW want ls l n) L m s (.ok (ls ++ List.replicate n l) s) := Way.says_bind (refuse_said (by omega)) (Way.says_pure _)
theorem add_fails {want : Nat} {ls : List Nat} {l n : Nat} {L : List Bool} {m : Nat} {s : St} (h : want < ls.length + n) : Says (addW want ls l n) L m s (.err 10) := Way.says_bind_err (refuse_fails h)
theorem all15 {ls : List Nat} {n l : Nat} (h : ∀ x ∈ ls, x ≤ 15) (hl : l ≤ 15) : ∀ x ∈ ls ++ List.replicate n l, x ≤ 15 := by
  intro x hx
  rcases List.mem_append.1 hx with hx | hx
  · exact h x hx
  · obtain rfl := List.eq_of_mem_replicate hx
    exact hl
set_option maxHeartbeats 4000000 in
set_option maxRecDepth 100000 in
theorem lengths_go (W : World) (g : Nat) (L : List Bool) (m : Nat) (s : St) (fx : Value) (O : Nat → Prop) (b off : Nat) (c : Cds) (K : Nat → Prop) (want : Nat) (h : isS W g L m s fx O) (hc : isCd W b off c K) (hK : ∀ k, K k → ¬ O k) (hf : Fit c) (h19 : ∀ x ∈ c.syms, x < 19) (hw : want ≤ 400) (hL : L.length ≤ 1099511627776) :
    Calls Tryd.prog 104 #[.pointer (some ⟨g, 0, none⟩), .pointer (some ⟨b, off, none⟩), .int .i64 (want : Int)] W (LensTo c want L m s g fx O W) := by
  have hmf : ∀ (fn : Fn) (first cap : Array Value) (w : World), (Instr.makeFunc fn first cap).run Tryd.prog w = .ok (.func fn first cap) w := fun _ _ _ _ => rfl
  have hmake := make_zero want hw
  have HS0 := Lib.hid h
  have HC0 := Lib.hid hc
  have HK0 := Lib.hid hK
  have HF := Lib.hid hf
  have H19 := Lib.hid h19
  have HL := Lib.hid hL
  have HWN : Hid (want ≤ 400) := hw
  have HR0 : Hid (∀ r, Says (Way.loop (lenStep c want) []) L m s r → Says (lengthsW c want) L m s r) := fun r h => h
  obtain ⟨R0, hstart⟩ := lens_start W g L m s fx O b off c K want h hc hK hw
  have HLA0 := Lib.hid hstart
  clear h hc hK hf h19 hL hstart
  go_enter Tryd.func104, Tryd.ntmps104
  go_wp2_with fail
  go_loopw [9] (fun u9 wr => ∃ (ls : List Nat) (t : St) (O' R' : Nat → Prop), Hid (LenAt W wr g L m t fx O O' W.heap.size (W.heap.size + 1 + 1) want ls R' b off c K) ∧ Hid (∀ r, Says (Way.loop (lenStep c want) ls) L m t r → Says (lengthsW c want) L m s r) ∧ Hid (ls.length ≤ want) ∧ Hid (∀ x ∈ ls, x ≤ 15)) (fun _ wr => L.length - posOf wr g)
  case atStart => exact ⟨[], s, O, R0, HLA0, HR0, Nat.zero_le _, fun x hx => by cases hx⟩
  case round =>
    obtain ⟨ls, t, O', R', hA, hR, hLW, h15⟩ := hrel
    obtain ⟨v, hv⟩ := hA.out.row
    have qb := cell_of_block hv.box 0
    have HV := Lib.hid hv
    obtain ⟨vo, vc, rfl⟩ := row_shape hv.row
    obtain ⟨k, ek⟩ : ∃ k, ls.length = k := ⟨_, rfl⟩
    have EK := Lib.hid ek
    rw [ek] at qb
    have hkw : k ≤ want := by have := hLW.out; omega
    have qa := hA.out.box
    have HPOS := Lib.hid (posOf_is hA.out.st)
    clear hv ek
    by_cases hlt : k < want
    · have d1 : decide ((k : Int) < (want : Int)) = true := decide_eq_true (by omega)
      have d2 : decide (k < want) = true := decide_eq_true hlt
      have HSY := symbol_go wr g L m t fx O' b off c K hA.out.st hA.out.cds hA.out.ko HF.out HL.out
      have HR1 : Hid (∀ r, Says ((symW c).bind fun x =>
    if x = 16 then (Way.get 2).bind fun t => (refuseW (ls.length = 0) 10).bind fun _ => (addW want ls (ls.getD (ls.length - 1) 0) (3 + t)).bind fun ls' => Way.pure (.inl ls')
    else if x = 17 then (Way.get 3).bind fun t => (addW want ls 0 (3 + t)).bind fun ls' => Way.pure (.inl ls')
    else if x = 18 then (Way.get 7).bind fun t => (addW want ls 0 (11 + t)).bind fun ls' => Way.pure (.inl ls')
    else (addW want ls x 1).bind fun ls' => Way.pure (.inl ls')) L m t r → Says (lenStep c want ls) L m t r) := fun r h => by
        unfold lenStep
        rw [if_pos (by rw [EK.out]; exact hlt)]
        exact h
      go_wp2_with fail
      go_at_call 99
      refine HSY.mono ?_
      clear HSY
      rintro e w1 (⟨x, u, O1, hs, rfl, h1, h2⟩ | ⟨k, hs, rfl, hp⟩)
      · have hx := symW_in (by decide) H19.out hs
        obtain ⟨hmv, huo⟩ := symW_moves hs
        have hA1 := Lib.hid (hA.out.next h1 h2)
        have HSA := Lib.hid hs
        have HMV := Lib.hid hmv
        clear hs h1 h2 hmv huo qa qb hlt d1 d2 hA
        by_cases hx16 : x = 16
        · have f16 : ((x : Int) == 16) = true := by simp; omega
          have g16 : decide ((x : Int) = 16) = true := decide_eq_true (by omega)
          have HG := get_go w1 g L m u fx O1 2 hA1.out.st (by decide) HL.out
          go_wp2_with fail
          go_at_call 69
          refine HG.mono ?_
          clear HG
          rintro e w2 (⟨n, u2, O2, hs, rfl, h1, h2⟩ | ⟨k, hs, rfl, hp⟩)
          · obtain ⟨hn, rfl, _⟩ := get_said hs
            have hn : n ≤ 3 := by omega
            have HSB := Lib.hid hs
            have hA2 := Lib.hid (hA1.out.next h1 h2)
            clear hs h1 h2 HV
            obtain ⟨v2, hv2⟩ := hA2.out.row
            have qb := cell_of_block hv2.box 0
            have HLI := Lib.hid (own_listed hv2.row)
            obtain ⟨vo2, vc2, rfl⟩ := row_shape hv2.row
            rw [EK.out] at qb
            clear hv2
            by_cases hk0 : k = 0
            · have f0 : ((k : Int) == 0) = true := by simp; omega
              have g0 : decide ((k : Int) = 0) = true := decide_eq_true (by omega)
              have HE : Hid (Says (lengthsW c want) L m s (.err 10)) := hR.out _ (Way.says_loop_err (HR1.out _ (Way.says_bind HSA.out (by rw [if_pos hx16]; exact Way.says_bind HSB.out (Way.says_bind_err (refuse_fails (by rw [EK.out]; exact hk0)))))))
              clear hk0
              go_wp2_with fail
              go_at_call 87
              refine (refuse_yes 10 _).mono ?_
              rintro e w3 ⟨rfl, rfl⟩
              go_wp2_with fail
              exact ⟨rfl, .inr ⟨10, HE.out, rfl, hA2.out.went.past⟩⟩
            · have f0 : ((k : Int) == 0) = false := by simp; omega
              have g0 : decide ((k : Int) = 0) = false := decide_eq_false (by omega)
              obtain ⟨y, ey⟩ : ∃ y, ls[k - 1]? = some y := ⟨ls[k - 1]'(by rw [EK.out]; omega), List.getElem?_eq_getElem _⟩
              obtain ⟨vb, vof, vcap, ev, hvlt, hcell⟩ := listed_cell HLI.out (k - 1) y ey
              rw [EK.out] at ev
              simp only [Value.slice.injEq] at ev
              obtain ⟨rfl, _, rfl⟩ := ev
              unfold natVal at hcell
              have HGD : Hid (ls.getD (ls.length - 1) 0 = y) := by
                show _ = _
                rw [EK.out, List.getD_eq_getElem?_getD, ey]
                rfl
              have HY15 : Hid (y ≤ 15) := h15.out y (List.mem_of_getElem? ey)
              have HADD := addTo_code w2 W.heap.size (W.heap.size + 1 + 1) want ls R' y (3 + n) hA2.out.box hA2.out.row HWN.out (by omega) hLW.out
              have hk1 : (k : Int) - 1 = ((k - 1 : Nat) : Int) := by omega
              obtain ⟨J, eJ⟩ : ∃ J, k - 1 = J := ⟨_, rfl⟩
              rw [eJ] at hk1 hcell
              have hJk : J < k := by omega
              have hJw : IntKind.i64.wrap (J : Int) = (J : Int) := by
                rw [IntKind.wrap_i64]
                omega
              have HK0 : Hid (¬ ls.length = 0) := by rw [EK.out]; exact hk0
              clear eJ ey hk0
              go_wp2_with fail
              go_at_call 87
              refine (refuse_no _ _).mono ?_
              rintro e w3 ⟨rfl, rfl⟩
              go_wp2_with fail
              go_at_call 109
              refine HADD.mono ?_
              clear HADD
              rintro e w3 (⟨R3, hfit, rfl, h1, h2⟩ | ⟨hfit, rfl, hp⟩)
              · have hA3 := Lib.hid (hA2.out.more h1 h2)
                have HFIT := Lib.hid hfit
                have HST : Hid (Says (lenStep c want ls) L m t (.ok (.inl (ls ++ List.replicate (3 + n) y)) ⟨u.pos + 2, u.out⟩)) := HR1.out _ (Way.says_bind HSA.out (by rw [if_pos hx16, HGD.out]; exact Way.says_bind HSB.out (Way.says_bind (refuse_said HK0.out) (Way.says_bind (add_said hfit) (Way.says_pure _)))))
                clear h1 h2 hfit
                go_wp2_with fail
                go_roundw
                case rel => exact ⟨_, _, O2, R3, hA3, fun r h => hR.out r (Way.says_loop_next HST.out h), by show _ ≤ _; rw [List.length_append, List.length_replicate]; exact HFIT.out, all15 h15.out HY15.out⟩
                case measure =>
                  have e1 := posOf_is hA3.out.st
                  have e2 := isS_pos hA3.out.st
                  simp only at e1 e2
                  rw [e1, HPOS.out]
                  have := HMV.out
                  omega
              · have HE := hR.out _ (Way.says_loop_err (HR1.out _ (Way.says_bind HSA.out (by rw [if_pos hx16, HGD.out]; exact Way.says_bind HSB.out (Way.says_bind (refuse_said HK0.out) (Way.says_bind_err (add_fails hfit)))))))
                go_wp2_with fail
                exact ⟨rfl, .inr ⟨10, HE, rfl, hA2.out.dies hp⟩⟩
          · have HE := hR.out _ (Way.says_loop_err (HR1.out _ (Way.says_bind HSA.out (by rw [if_pos hx16]; exact Way.says_bind_err hs))))
            go_wp2_with fail
            exact ⟨rfl, .inr ⟨k, HE, rfl, hA1.out.went.on hp⟩⟩
        · have f16 : ((x : Int) == 16) = false := by simp; omega
          have g16 : decide ((x : Int) = 16) = false := decide_eq_false (by omega)
          by_cases hx17 : x = 17
          · have f17 : ((x : Int) == 17) = true := by simp; omega
            have g17 : decide ((x : Int) = 17) = true := decide_eq_true (by omega)
            have HG := get_go w1 g L m u fx O1 3 hA1.out.st (by decide) HL.out
            go_wp2_with fail
            go_at_call 69
            refine HG.mono ?_
            clear HG
            rintro e w2 (⟨n, u2, O2, hs, rfl, h1, h2⟩ | ⟨k, hs, rfl, hp⟩)
            · obtain ⟨hn, rfl, _⟩ := get_said hs
              have hn : n ≤ 127 := by omega
              have HSB := Lib.hid hs
              have hA2 := Lib.hid (hA1.out.next h1 h2)
              have HADD := addTo_code w2 W.heap.size (W.heap.size + 1 + 1) want ls R' 0 (3 + n) hA2.out.box hA2.out.row HWN.out (by omega) hLW.out
              have HNN : Hid (n ≤ 127) := hn
              clear hs h1 h2
              go_wp2_with fail
              go_at_call 109
              refine HADD.mono ?_
              clear HADD
              rintro e w3 (⟨R3, hfit, rfl, h1, h2⟩ | ⟨hfit, rfl, hp⟩)
              · have hA3 := Lib.hid (hA2.out.more h1 h2)
                have HFIT := Lib.hid hfit
                have HST : Hid (Says (lenStep c want ls) L m t (.ok (.inl (ls ++ List.replicate (3 + n) 0)) ⟨u.pos + 3, u.out⟩)) := HR1.out _ (Way.says_bind HSA.out (by rw [if_neg hx16, if_pos hx17]; exact Way.says_bind HSB.out (Way.says_bind (add_said hfit) (Way.says_pure _))))
                clear h1 h2 hfit
                go_wp2_with fail
                go_roundw
                case rel => exact ⟨_, _, O2, R3, hA3, fun r h => hR.out r (Way.says_loop_next HST.out h), by show _ ≤ _; rw [List.length_append, List.length_replicate]; exact HFIT.out, all15 h15.out (by decide)⟩
                case measure =>
                  have e1 := posOf_is hA3.out.st
                  have e2 := isS_pos hA3.out.st
                  simp only at e1 e2
                  rw [e1, HPOS.out]
                  have := HMV.out
                  omega
              · have HE := hR.out _ (Way.says_loop_err (HR1.out _ (Way.says_bind HSA.out (by rw [if_neg hx16, if_pos hx17]; exact Way.says_bind HSB.out (Way.says_bind_err (add_fails hfit))))))
                go_wp2_with fail
                exact ⟨rfl, .inr ⟨10, HE, rfl, hA2.out.dies hp⟩⟩
            · have HE := hR.out _ (Way.says_loop_err (HR1.out _ (Way.says_bind HSA.out (by rw [if_neg hx16, if_pos hx17]; exact Way.says_bind_err hs))))
              go_wp2_with fail
              exact ⟨rfl, .inr ⟨k, HE, rfl, hA1.out.went.on hp⟩⟩
          · have f17 : ((x : Int) == 17) = false := by simp; omega
            have g17 : decide ((x : Int) = 17) = false := decide_eq_false (by omega)
            by_cases hx18 : x = 18
            · have f18 : ((x : Int) == 18) = true := by simp; omega
              have g18 : decide ((x : Int) = 18) = true := decide_eq_true (by omega)
              have HG := get_go w1 g L m u fx O1 7 hA1.out.st (by decide) HL.out
              go_wp2_with fail
              go_at_call 69
              refine HG.mono ?_
              clear HG
              rintro e w2 (⟨n, u2, O2, hs, rfl, h1, h2⟩ | ⟨k, hs, rfl, hp⟩)
              · obtain ⟨hn, rfl, _⟩ := get_said hs
                have hn : n ≤ 127 := by omega
                have HSB := Lib.hid hs
                have hA2 := Lib.hid (hA1.out.next h1 h2)
                have HADD := addTo_code w2 W.heap.size (W.heap.size + 1 + 1) want ls R' 0 (11 + n) hA2.out.box hA2.out.row HWN.out (by omega) hLW.out
                have HNN : Hid (n ≤ 127) := hn
                clear hs h1 h2
                go_wp2_with fail
                go_at_call 109
                refine HADD.mono ?_
                clear HADD
                rintro e w3 (⟨R3, hfit, rfl, h1, h2⟩ | ⟨hfit, rfl, hp⟩)
                · have hA3 := Lib.hid (hA2.out.more h1 h2)
                  have HFIT := Lib.hid hfit
                  have HST : Hid (Says (lenStep c want ls) L m t (.ok (.inl (ls ++ List.replicate (11 + n) 0)) ⟨u.pos + 7, u.out⟩)) := HR1.out _ (Way.says_bind HSA.out (by rw [if_neg hx16, if_neg hx17, if_pos hx18]; exact Way.says_bind HSB.out (Way.says_bind (add_said hfit) (Way.says_pure _))))
                  clear h1 h2 hfit
                  go_wp2_with fail
                  go_roundw
                  case rel => exact ⟨_, _, O2, R3, hA3, fun r h => hR.out r (Way.says_loop_next HST.out h), by show _ ≤ _; rw [List.length_append, List.length_replicate]; exact HFIT.out, all15 h15.out (by decide)⟩
                  case measure =>
                    have e1 := posOf_is hA3.out.st
                    have e2 := isS_pos hA3.out.st
                    simp only at e1 e2
                    rw [e1, HPOS.out]
                    have := HMV.out
                    omega
                · have HE := hR.out _ (Way.says_loop_err (HR1.out _ (Way.says_bind HSA.out (by rw [if_neg hx16, if_neg hx17, if_pos hx18]; exact Way.says_bind HSB.out (Way.says_bind_err (add_fails hfit))))))
                  go_wp2_with fail
                  exact ⟨rfl, .inr ⟨10, HE, rfl, hA2.out.dies hp⟩⟩
              · have HE := hR.out _ (Way.says_loop_err (HR1.out _ (Way.says_bind HSA.out (by rw [if_neg hx16, if_neg hx17, if_pos hx18]; exact Way.says_bind_err hs))))
                go_wp2_with fail
                exact ⟨rfl, .inr ⟨k, HE, rfl, hA1.out.went.on hp⟩⟩
            · have f18 : ((x : Int) == 18) = false := by simp; omega
              have g18 : decide ((x : Int) = 18) = false := decide_eq_false (by omega)
              have HADD := addTo_code w1 W.heap.size (W.heap.size + 1 + 1) want ls R' x 1 hA1.out.box hA1.out.row HWN.out (by omega) hLW.out
              have HX15 : Hid (x ≤ 15) := by show _ ≤ _; omega
              have HN3 : Hid (¬ x = 16 ∧ ¬ x = 17 ∧ ¬ x = 18) := ⟨hx16, hx17, hx18⟩
              go_wp2_with fail
              go_at_call 109
              refine HADD.mono ?_
              clear HADD
              rintro e w3 (⟨R3, hfit, rfl, h1, h2⟩ | ⟨hfit, rfl, hp⟩)
              · have hA3 := Lib.hid (hA1.out.more h1 h2)
                have HFIT := Lib.hid hfit
                have HST : Hid (Says (lenStep c want ls) L m t (.ok (.inl (ls ++ List.replicate 1 x)) u)) := HR1.out _ (Way.says_bind HSA.out (by rw [if_neg HN3.out.1, if_neg HN3.out.2.1, if_neg HN3.out.2.2]; exact Way.says_bind (add_said hfit) (Way.says_pure _)))
                clear h1 h2 hfit
                go_wp2_with fail
                go_roundw
                case rel => exact ⟨_, _, O1, R3, hA3, fun r h => hR.out r (Way.says_loop_next HST.out h), by show _ ≤ _; rw [List.length_append, List.length_replicate]; exact HFIT.out, all15 h15.out HX15.out⟩
                case measure =>
                  have e1 := posOf_is hA3.out.st
                  have e2 := isS_pos hA3.out.st
                  rw [e1, HPOS.out]
                  have := HMV.out
                  omega
              · have HE := hR.out _ (Way.says_loop_err (HR1.out _ (Way.says_bind HSA.out (by rw [if_neg HN3.out.1, if_neg HN3.out.2.1, if_neg HN3.out.2.2]; exact Way.says_bind_err (add_fails hfit)))))
                go_wp2_with fail
                exact ⟨rfl, .inr ⟨10, HE, rfl, hA1.out.dies hp⟩⟩
      · go_wp2_with fail
        exact ⟨rfl, .inr ⟨k, hR.out _ (Way.says_loop_err (HR1.out _ (Way.says_bind_err hs))), rfl, hA.out.went.on hp⟩⟩
    · have d1 : decide ((k : Int) < (want : Int)) = false := decide_eq_false (by omega)
      have d2 : decide (k < want) = false := decide_eq_false hlt
      have HKW : Hid (k = want) := by show _ = _; omega
      have HE : Hid (Says (lengthsW c want) L m s (.ok ls t)) := hR.out _ (Way.says_loop_stop (by
        unfold lenStep
        rw [if_neg (by rw [EK.out]; exact hlt)]
        exact Way.says_pure _))
      go_wp2_with fail
      go_ret
      refine .inl ⟨ls, t, O', .slice vo k vc, HE.out, rfl, ?_, ?_, by rw [EK.out]; exact HKW.out, h15.out, hA.out.st, hA.out.went⟩
      · have h9 := own_listed HV.out.row
        rw [EK.out] at h9
        exact h9
      · intro j hj
        have h9 := HV.out.row
        rw [EK.out] at h9
        have h8 := own_in h9 j hj
        have hR' : R' j := by
          rw [HV.out.own, EK.out]
          exact .inr h8
        exact ⟨hA.out.rn j hR', hA.out.ro j hR'⟩
end Go.Proofs.YtbfpbmnnlckldaaDoor.Fx
