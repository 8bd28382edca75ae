/-
  A block's own codes, as landed. The conditions stand in it.
-/
import Derived.Test.YtbfpbmnnlckldaaDoorInfJ
namespace Go.Proofs.YtbfpbmnnlckldaaDoor.Fx
open Go Go.RowKit Go.Joins
set_option linter.unusedVariables false
/-- The order of the lengths of lengths, where it is laid. -/
def LaidOrder (w : World) : Prop := ∀ i, i < 19 → w.cell? ⟨0, i, none⟩ = some (.int .i64 (order.getD i 0 : Nat))
theorem LaidOrder.went {w w' : World} {O : Nat → Prop} (h : LaidOrder w) (hp : Past O w w') (ho : ¬ O 0) : LaidOrder w' := fun i hi =>
  (World.cell?_of_block (a := ⟨0, i, none⟩) (hp.block _ (World.block_lt_of_cell? w _ (h i hi)) ho)).trans (h i hi)
theorem order_low (i : Nat) (hi : i < 19) : order.getD i 0 < 19 := by
  have : ∀ i, i < 19 → order.getD i 0 < 19 := by decide
  exact this i hi
/-- What holds between the rounds: the stream, the lengths of lengths so far. -/
structure OwnAt (W wr : World) (g : Nat) (L : List Bool) (m : Nat) (t : St) (fx : Value) (O O' : Nat → Prop) (Y : Nat) (own : List Nat) : Prop where
  st : isS wr g L m t fx O'
  row : wr.heap[Y]? = some (.cells (cellsN own) 3 (0, 0))
  went : WentOn O O' W wr
  yo : ¬ O' Y
  yn : W.heap.size ≤ Y
  laid : LaidOrder wr
  lo : ¬ O' 0
theorem OwnAt.next {W wr w' : World} {g : Nat} {L : List Bool} {m : Nat} {t u : St} {fx : Value} {O O' O'' : Nat → Prop} {Y : Nat} {own : List Nat} (h : OwnAt W wr g L m t fx O O' Y own)
    (h1 : isS w' g L m u fx O'') (h2 : WentOn O' O'' wr w') : OwnAt W w' g L m u fx O O'' Y own where
  st := h1
  row := (h2.past.block Y (Array.getElem?_eq_some_iff.1 h.row).1 h.yo).trans h.row
  went := h.went.trans h2
  yo := fun h3 => (h2.own Y h3).elim h.yo (fun h4 => by have := (Array.getElem?_eq_some_iff.1 h.row).1; omega)
  yn := h.yn
  laid := h.laid.went h2.past h.lo
  lo := fun h3 => (h2.own _ h3).elim h.lo (fun h4 => by have := World.block_lt_of_cell? wr _ (h.laid 0 (by decide)); simp only at this; omega)
theorem listed_cells {w : World} {Y n : Nat} {ls : List Nat} (h : w.heap[Y]? = some (.cells (cellsN ls) 3 (0, 0))) (hn : ls.length = n) : listed natVal w (.slice (some ⟨Y, 0, none⟩) n n) ls := by
  subst hn
  refine .inr ⟨Y, 0, ls.length, rfl, (Array.getElem?_eq_some_iff.1 h).1, Nat.le_refl _, fun j z hz => ?_⟩
  have hj := (List.getElem?_eq_some_iff.1 hz).1
  rw [Nat.zero_add, cell_of_block h j, cellsN_get _ j hj, List.getD_eq_getElem?_getD, hz]
  rfl
set_option maxRecDepth 100000 in
/-- A row of numbers, in two parts. -/
theorem cuts {W : World} {lv : Value} {ls : List Nat} (h : listed natVal W lv ls) (n : Nat) (hn : 0 < n) (hn2 : n < ls.length) :
    ∃ b off cap, lv = .slice (some ⟨b, off, none⟩) ls.length cap ∧ ls.length ≤ cap ∧ (∀ w, (Instr.slice 144 (.slice (some ⟨b, off, none⟩) ls.length cap) none (some (.int .i64 (n : Int))) none).run Tryd.prog w = .ok (.slice (some ⟨b, off, none⟩) n cap) w) ∧ listed natVal W (.slice (some ⟨b, off, none⟩) n cap) (ls.take n) ∧
      (∀ w, (Instr.slice 144 (.slice (some ⟨b, off, none⟩) ls.length cap) (some (.int .i64 (n : Int))) none none).run Tryd.prog w = .ok (.slice (some ⟨b, off + n, none⟩) (ls.length - n) (cap - n)) w) ∧ listed natVal W (.slice (some ⟨b, off + n, none⟩) (ls.length - n) (cap - n)) (ls.drop n) := by
  have hs : ∀ w, (sizeOf (Tryd.prog.elem 144)).run Tryd.prog w = .ok 1 w := fun w => by
    have he : Tryd.prog.elem 144 = 3 := by kernel_rfl
    rw [he]
    have hi : (Tryd.prog.info? 3).map (·.size) = some 1 := by kernel_rfl
    cases hq : Tryd.prog.info? 3 with
    | none => simp [hq] at hi
    | some i => simp [sizeOf, typeInfo, hq, show i.size = 1 by simpa [hq] using hi]
  rcases h with ⟨_, rfl⟩ | ⟨b, off, cap, rfl, hlt, hle, hc⟩
  · simp at hn2
  · refine ⟨b, off, cap, rfl, hle, fun w => ?_, .inr ⟨b, off, cap, by rw [List.length_take, Nat.min_eq_left (by omega)], hlt, by rw [List.length_take]; omega, fun j z hz => ?_⟩, fun w => ?_, .inr ⟨b, off + n, cap - n, by rw [List.length_drop], hlt, by rw [List.length_drop]; omega, fun j z hz => ?_⟩⟩
    · rw [run_slice_h w 144 (some ⟨b, off, none⟩) ls.length cap Tryd.underlying144 .i64 n (by omega) (by omega), hs]
      have hadd : (⟨b, off, none⟩ : Addr).add 0 = ⟨b, off, none⟩ := by simp [Addr.add]
      simp [sliced, Result.andThen, hadd]
    · have hj : j < n := by
        have := (List.getElem?_eq_some_iff.1 hz).1
        rw [List.length_take] at this
        omega
      rw [List.getElem?_take, if_pos hj] at hz
      exact hc j z hz
    · rw [run_slice_l w 144 (some ⟨b, off, none⟩) ls.length cap Tryd.underlying144 .i64 n (by omega) (by omega), hs]
      have hadd : (⟨b, off, none⟩ : Addr).add n = ⟨b, off + n, none⟩ := by unfold Addr.add; split <;> simp_all
      have hne : ¬ cap = n := by omega
      simp [sliced, Result.andThen, hadd, hne]
    · rw [List.getElem?_drop] at hz
      rw [Nat.add_assoc]
      exact hc (n + j) z hz
theorem yield_slice {P : Program} {o : Oper} {a : Act} {w : World} (t : TypeId) (hu : P.underlying t = some (.slice (P.elem t))) (x : Operand) (lo hi : Option Operand) (ho : o.op = .slice t x lo hi none) (v u : Value) (l h : Option Value) (hx : a.eval x = v) (hl : lo.map a.eval = l) (hh : hi.map a.eval = h) (hrun : (Instr.slice t v l h none).run P w = .ok u w) : (execOp a.eval o).run P w = .ok (.value u) w := by
  subst hx; subst hl; subst hh
  unfold execOp
  simp [ho, run_sliceAt_slice, hu, hrun, Result.andThen]
/-- Codes in a box of their own. -/
theorem box_codes {w : World} {cs : List Nat} {v : Value} {c : Cds} (hcs : cs = c.counts) (hl : cs.length = 16) (hv : listed natVal w v c.syms) :
    isCd (w.alloc (.cells (cellsC cs v) 161)) w.heap.size 0 c (fun k => k = w.heap.size ∨ inBlock v k) := by
  subst hcs
  have hn := heap_alloc_new w (.cells (cellsC c.counts v) 161)
  refine ⟨v, fun l hlt => ?_, ?_, listed_on hv (((Below.refl _ _).alloc (Nat.le_refl _) _) : Below w.heap.size w _), rfl⟩
  · rw [Nat.zero_add, cell_of_block hn l]
    exact cellsC_get _ _ l (by omega)
  · rw [Nat.zero_add, cell_of_block hn 16]
    exact cellsC_last _ _ 16 hl.symm
theorem set_past (wr : World) (Y j : Nat) (v : Value) : Past (fun k => k = Y) wr (wr.setCell ⟨Y, j, none⟩ v) := ⟨rfl, rfl, rfl, by simp, fun k hk hn => Below.heap_setCell wr ⟨Y, j, none⟩ v k hn⟩
theorem own_start {W w3 : World} {g : Nat} {L : List Bool} {m : Nat} {t : St} {fx : Value} {O O' : Nat → Prop} (h1 : isS w3 g L m t fx O') (h2 : WentOn O O' W w3) (hl : LaidOrder W) (hlo : ¬ O 0) (Z : Array Value) (hZ : cellsN (List.replicate 19 0) = Z) :
    OwnAt W (w3.alloc (.cells Z 3)) g L m t fx O O' w3.heap.size (List.replicate 19 0) := by
  have hb : Below w3.heap.size w3 (w3.alloc (.cells Z 3)) := (Below.refl _ _).alloc (Nat.le_refl _) _
  have hlt := isS_lt h1
  have hl0 := World.block_lt_of_cell? W _ (hl 0 (by decide))
  refine ⟨isS_keep h1 hb.size (fun k hk => hb.block k (hlt k hk)), by rw [hZ]; exact heap_alloc_new w3 _, h2.trans ⟨fun b hb => .inl hb, Past.of_below hb⟩, fun ho => by have := hlt _ ho; omega, h2.past.size, ?_, fun ho => (h2.own _ ho).elim hlo (fun h3 => by simp only at hl0; omega)⟩
  exact (hl.went h2.past hlo).went (Past.of_below hb : Past (fun _ => False) _ _) (fun h => h)
theorem OwnAt.set {W wr : World} {g : Nat} {L : List Bool} {m : Nat} {t : St} {fx : Value} {O O' : Nat → Prop} {Y : Nat} {own : List Nat} (h : OwnAt W wr g L m t fx O O' Y own) (hY : 0 < W.heap.size) (j x : Nat) :
    OwnAt W (wr.setCell ⟨Y, j, none⟩ (.int .i64 (x : Int))) g L m t fx O O' Y (own.set j x) where
  st := isS_keep h.st (by simp) (fun k hk => Below.heap_setCell _ _ _ k (fun e => h.yo (by have e : k = Y := e; rw [← e]; exact hk)))
  row := by rw [← cellsN_set]; exact block_setCell h.row _
  went := ⟨h.went.own, h.went.past.trans (set_past wr Y j (.int .i64 (x : Int))) (fun k hk => .inr (by have e : k = Y := hk; rw [e]; exact h.yn))⟩
  yo := h.yo
  yn := h.yn
  laid := fun i hi => (World.cell?_of_block (a := ⟨0, i, none⟩) (Below.heap_setCell _ _ _ _ (by have := h.yn; show 0 ≠ Y; omega))).trans (h.laid i hi)
  lo := h.lo
theorem OwnAt.drew {W wr : World} {g : Nat} {L : List Bool} {m : Nat} {t : St} {fx : Value} {O O' : Nat → Prop} {Y : Nat} {own : List Nat} (h : OwnAt W wr g L m t fx O O' Y own) : OwnAt W wr.drew g L m t fx O O' Y own :=
  ⟨isS_drew h.st, h.row, ⟨h.went.own, h.went.past.trans (drew_past O wr) (fun b h => .inl h)⟩, h.yo, h.yn, h.laid, h.lo⟩
theorem says_bind2 {α β γ : Type} {x : Way α} {k : α → Way β} {F : β → Way γ} {L : List Bool} {m : Nat} {s u : St} {a : α} {r : Res γ} (h : Says x L m s (.ok a u)) (h' : Says ((k a).bind F) L m u r) : Says ((x.bind k).bind F) L m s r := by
  obtain ⟨f, h⟩ := h
  obtain ⟨g, h'⟩ := h'
  refine ⟨max f g, ?_⟩
  have h1 := Way.run_le x h (Nat.le_max_left f g)
  have h2 := Way.run_le ((k a).bind F) h' (Nat.le_max_right f g)
  have h3 : (x.bind k).run (max f g) L m s = (k a).run (max f g) L m u := Way.bindRun_ok h1
  show Way.bindRun (x.bind k) F _ L m s = _
  have h4 : Way.bindRun (k a) F (max f g) L m u = some r := h2
  unfold Way.bindRun at h4 ⊢
  rw [h3]
  exact h4
/-- What a block's own codes come to. -/
def OwnTo (L : List Bool) (m : Nat) (s : St) (g : Nat) (fx : Value) (O : Nat → Prop) (w : World) (e : Ending) (w' : World) : Prop :=
  (∃ p t O' b K, Says ownPairW L m s (.ok p t) ∧ e = .returned (.pointer (some ⟨b, 0, none⟩)) ∧ isPair w' b p K ∧ (∀ k, K k → ¬ O' k ∧ k < w'.heap.size) ∧ Fit p.1 ∧ Fit p.2 ∧ isS w' g L m t fx O' ∧ WentOn O O' w w') ∨ (∃ k, Says ownPairW L m s (.err k) ∧ e = .panicked (fault k) ∧ Past O w w')
set_option maxHeartbeats 4000000 in
set_option maxRecDepth 100000 in
theorem ownPair_go (W : World) (g : Nat) (L : List Bool) (m : Nat) (s : St) (fx : Value) (O : Nat → Prop) (h : isS W g L m s fx O) (hl : LaidOrder W) (hlo : ¬ O 0) (hL : L.length ≤ 1099511627776) :
    Calls Tryd.prog 91 #[.pointer (some ⟨g, 0, none⟩)] W (OwnTo L m s g fx O W) := by
  obtain ⟨Z, eZ⟩ : ∃ Z, cellsN (List.replicate 19 0) = Z := ⟨_, rfl⟩
  have EZ := Lib.hid eZ
  have hmake : ∀ w : World, (Instr.makeSlice 144 (.int .i64 19) (.int .i64 19)).run Tryd.prog w = .ok (.slice (some ⟨w.heap.size, 0, none⟩) 19 19) (w.alloc (.cells Z 3)) := fun w => by
    rw [← eZ]
    exact make_nats 19 (by decide) w
  clear eZ
  have HLI := Lib.hid hl
  have HLO := Lib.hid hlo
  have HL := Lib.hid hL
  have HGW : Hid (0 < W.heap.size) := World.block_lt_of_cell? W _ (hl 0 (by decide))
  have HG := get_go W g L m s fx O 5 h (by decide) hL
  clear h hl hlo hL
  go_enter Tryd.func91, Tryd.ntmps91
  go_wp2_with fail
  go_at_call 69
  refine HG.mono ?_
  clear HG
  rintro e w1 (⟨a, u, O1, hs, rfl, h1, h2⟩ | ⟨k, hs, rfl, hp⟩)
  · obtain ⟨ha, rfl, _⟩ := get_said hs
    have ha : a ≤ 31 := by omega
    obtain ⟨N, eN⟩ : ∃ N, a + 257 = N := ⟨_, rfl⟩
    have EN := Lib.hid eN
    have iN : (a : Int) + 257 = (N : Int) := by omega
    have bN : N ≤ 288 := by omega
    clear eN
    have HS1 := Lib.hid hs
    have HW1 := Lib.hid h2
    have HG := get_go w1 g L m _ fx O1 5 h1 (by decide) HL.out
    clear hs h1 h2
    go_wp2_with fail
    go_at_call 69
    refine HG.mono ?_
    clear HG
    rintro e w2 (⟨b, u, O2, hs, rfl, h1, h2⟩ | ⟨k, hs, rfl, hp⟩)
    · obtain ⟨hb, rfl, _⟩ := get_said hs
      have hb : b ≤ 31 := by omega
      obtain ⟨M, eM⟩ : ∃ M, b + 1 = M := ⟨_, rfl⟩
      have EM := Lib.hid eM
      have iM : (b : Int) + 1 = (M : Int) := by omega
      have bM : M ≤ 32 := by omega
      clear eM
      have HS2 := Lib.hid hs
      have HW2 := Lib.hid (HW1.out.trans h2)
      have HG := get_go w2 g L m _ fx O2 4 h1 (by decide) HL.out
      clear hs h1 h2
      go_wp2_with fail
      go_at_call 69
      refine HG.mono ?_
      clear HG
      rintro e w3 (⟨k, u, O3, hs, rfl, h1, h2⟩ | ⟨k, hs, rfl, hp⟩)
      · obtain ⟨hk, rfl, _⟩ := get_said hs
        have hk : k ≤ 15 := by omega
        have HS3 := Lib.hid hs
        have HW3 := Lib.hid (HW2.out.trans h2)
        have HT3 := Lib.hid h1
        obtain ⟨J, eJ⟩ : ∃ J, k + 4 = J := ⟨_, rfl⟩
        have EJ := Lib.hid eJ
        have iJ : (k : Int) + 4 = (J : Int) := by omega
        have bJ : J ≤ 19 := by omega
        have HST := Lib.hid (own_start h1 HW3.out HLI.out HLO.out Z EZ.out)
        have HR0 : Hid (∀ r, Says ((ownFrom (J - 0) 0 (List.replicate 19 0)).bind fun own => (refuseW (286 < N ∨ 30 < M ∨ ¬ (newCds own).mayBe) 10).bind fun _ => (lengthsW (newCds own) (N + M)).bind fun ls =>
          (refuseW (ls.getD 256 0 = 0) 10).bind fun _ => (refuseW (¬ (newCds (ls.take N)).mayBe) 10).bind fun _ =>
          (refuseW (¬ (newCds (ls.drop N)).mayBe ∧ 0 < (newCds (ls.drop N)).syms.length) 10).bind fun _ => Way.pure (newCds (ls.take N), newCds (ls.drop N))) L m ⟨s.pos + 5 + 5 + 4, s.out⟩ r → Says ownPairW L m s r) := fun r h => by
          subst eJ
          rw [← EN.out, ← EM.out] at h
          exact Way.says_bind HS1.out (Way.says_bind HS2.out (Way.says_bind HS3.out h))
        obtain ⟨F, eF⟩ : ∃ F : List Nat → Way (Cds × Cds), (fun own => (refuseW (286 < N ∨ 30 < M ∨ ¬ (newCds own).mayBe) 10).bind fun _ => (lengthsW (newCds own) (N + M)).bind fun ls =>
          (refuseW (ls.getD 256 0 = 0) 10).bind fun _ => (refuseW (¬ (newCds (ls.take N)).mayBe) 10).bind fun _ =>
          (refuseW (¬ (newCds (ls.drop N)).mayBe ∧ 0 < (newCds (ls.drop N)).syms.length) 10).bind fun _ => Way.pure (newCds (ls.take N), newCds (ls.drop N))) = F := ⟨_, rfl⟩
        rw [eF] at HR0
        have EF := Lib.hid eF
        have H70 : Hid (∀ x ∈ (List.replicate 19 0 : List Nat), x ≤ 7) := by
          intro x hx
          have := List.eq_of_mem_replicate hx
          omega
        clear hs h1 h2 eJ eF
        go_wp2_with fail
        go_loopw [22] (fun u22 wr => ∃ (i : Nat) (t : St) (O' : Nat → Prop) (own : List Nat), i ≤ J ∧ u22 = .int .i64 i ∧ Hid (OwnAt W wr g L m t fx O O' w3.heap.size own) ∧ Hid (∀ r, Says ((ownFrom (J - i) i own).bind F) L m t r → Says ownPairW L m s r) ∧ Hid (own.length = 19) ∧ Hid (∀ x ∈ own, x ≤ 7)) (fun u22 _ => J - (intOf u22).toNat)
        case atStart => exact ⟨0, _, O3, List.replicate 19 0, Nat.zero_le _, rfl, HST, HR0, rfl, H70⟩
        case round =>
          obtain ⟨i, t, O', own, hi, rfl, hA, hR, h19, h7⟩ := hrel
          by_cases hij : i < J
          · have d1 : decide ((i : Int) < (J : Int)) = true := decide_eq_true (by omega)
            have d2 : decide (i < J) = true := decide_eq_true hij
            have hol := order_low i (by omega)
            have hg0 := hA.out.laid i (by omega)
            have HRB : Hid (∀ r, Says (((Way.get 3).bind fun x => ownFrom (J - (i + 1)) (i + 1) (own.set (order.getD i 0) x)).bind F) L m t r → Says ownPairW L m s r) := fun r h => hR.out r (by
              rw [show J - i = (J - (i + 1)) + 1 by omega]
              exact h)
            obtain ⟨q, eq⟩ : ∃ q, order.getD i 0 = q := ⟨_, rfl⟩
            have EQ := Lib.hid eq
            rw [eq] at hol hg0 HRB
            have HG := Lib.hid (get_go wr.drew g L m t fx O' 3 hA.out.drew.st (by decide) HL.out)
            have hi1 : (0 : Int) ≤ (i : Int) := by omega
            have hi2 : (i : Int) < 19 := by omega
            have hq1 : (0 : Int) ≤ (q : Int) := by omega
            have hq2 : (q : Int) < 19 := by omega
            clear eq
            go_wp2_with fail
            go_region_with (go_at_call 69; refine HG.out.mono ?_; rintro e w5 (⟨x, u, O5, hs, rfl, h1, h2⟩ | ⟨k, hs, rfl, hp⟩); rotate_left; (exact ⟨rfl, .inr ⟨k, HRB.out _ (Way.says_bind_err (Way.says_bind_err hs)), rfl, hA.out.went.on (past_drew hp)⟩⟩); obtain ⟨hx8, rfl, _⟩ := get_said hs; have hx8 : x ≤ 7 := (by omega); have HS5 := Lib.hid hs; have HA5 := Lib.hid (hA.out.drew.next h1 h2); have hg5 := HA5.out.laid i (by omega); rw [EQ.out] at hg5; have qy := (cell_of_block HA5.out.row q).trans (cellsN_get _ q (by rw [h19.out]; exact hol)); have fy := unfrozen_of_block HA5.out.row q; clear hs h1 h2)
            all_goals go_wp2_with fail
            all_goals (refine ⟨⟨i + 1, _, O5, own.set q x, by omega, by go_num, HA5.out.set HGW.out q x, fun r h => HRB.out r (says_bind2 HS5.out h), ?_, ?_⟩, by simp [intOf]; omega⟩)
            all_goals first
              | (show _ = _
                 rw [List.length_set]
                 exact h19.out)
              | (intro y hy
                 rcases List.mem_or_eq_of_mem_set hy with h | h
                 · exact h7.out y h
                 · omega)
          · have hij2 : i = J := by omega
            have d1 : decide ((i : Int) < (J : Int)) = false := decide_eq_false (by omega)
            have d2 : decide (i < J) = false := decide_eq_false hij
            have HR1 : Hid (∀ r, Says (F own) L m t r → Says ownPairW L m s r) := fun r h => hR.out r (by
              rw [hij2, Nat.sub_self]
              exact Way.says_bind (Way.says_pure own) h)
            have HLO' : Hid (listed natVal wr (.slice (some ⟨w3.heap.size, 0, none⟩) 19 19) own) := by
              have h9 := listed_cells hA.out.row (n := 19) h19.out
              exact h9
            have KN := newCodes_any (.slice (some ⟨w3.heap.size, 0, none⟩) 19 19) own wr HLO'.out (fun x hx => by have := h7.out x hx; omega) (by rw [h19.out]; decide)
            clear hR hij2 hij hi
            go_wp2_with fail
            go_at_call 98
            refine KN.mono ?_
            clear KN
            rintro e w5 ⟨v5, rfl, h1, h2, h3, h4⟩
            have hi108 : (Tryd.prog.info? 161).map (·.size) = some 17 := by kernel_rfl
            have hA1s : (cellsC (countsOf own) v5).size = 17 := by rw [cellsC_size, counts_length]
            have hA1o := cellsC_one (countsOf own) v5 h3
            have hbw : Below wr.heap.size wr (w5.alloc (.cells (cellsC (countsOf own) v5) 161)) := h4.alloc h4.size _
            have HB6 := Lib.hid hbw
            have HC6 := Lib.hid (box_codes (cs := countsOf own) (c := newCds own) rfl (counts_length own) h1)
            have HN5 := Lib.hid h2
            have HSW := Lib.hid h4.size
            have hS6 := Lib.hid (isS_keep hA.out.st hbw.size (fun k hk => hbw.block k (isS_lt hA.out.st k hk)))
            have hW6 : Hid (WentOn O O' W (w5.alloc (.cells (cellsC (countsOf own) v5) 161))) := hA.out.went.trans ⟨fun b hb => .inl hb, Past.of_below hbw⟩
            have HKO : Hid (∀ k, (k = w5.heap.size ∨ inBlock v5 k) → ¬ O' k) := fun k hk ho => by
              have h9 := isS_lt hA.out.st k ho
              rcases hk with rfl | hk
              · have := HSW.out; omega
              · have := HN5.out k hk; omega
            obtain ⟨A1, eA1⟩ : ∃ A1, cellsC (countsOf own) v5 = A1 := ⟨_, rfl⟩
            rw [eA1] at hA1s hA1o HB6 HC6 hS6 hW6 ⊢
            have HI := Lib.hid hi108
            have HA1S := Lib.hid hA1s
            have HA1O := Lib.hid hA1o
            have HFI := Lib.hid (newCds_fit own (by rw [h19.out]; decide))
            have HSYM : Hid (∀ x ∈ (newCds own).syms, x < 19) := fun x hx => by have := newCds_below own x hx; rw [h19.out] at this; exact this
            have hR2 : Hid (∀ r, Says ((refuseW (286 < N ∨ 30 < M ∨ ¬ (newCds own).mayBe) 10).bind fun _ => (lengthsW (newCds own) (N + M)).bind fun ls =>
              (refuseW (ls.getD 256 0 = 0) 10).bind fun _ => (refuseW (¬ (newCds (ls.take N)).mayBe) 10).bind fun _ =>
              (refuseW (¬ (newCds (ls.drop N)).mayBe ∧ 0 < (newCds (ls.drop N)).syms.length) 10).bind fun _ => Way.pure (newCds (ls.take N), newCds (ls.drop N))) L m t r → Says ownPairW L m s r) := fun r h => HR1.out r (by
                rw [← EF.out]
                exact h)
            have KM := Lib.hid (mayBe_code (w5.alloc (.cells A1 161)) w5.heap.size 0 (newCds own) _ HC6.out HFI.out)
            clear h1 h2 h3 h4 hi108 hA1s hA1o hbw eA1 hmake
            by_cases hN : 286 < N
            · have e1 : decide ((286 : Int) < (N : Int)) = true := decide_eq_true (by omega)
              have e2 : decide (286 < N) = true := decide_eq_true hN
              have HE := hR2.out _ (Way.says_bind_err (refuse_fails (.inl hN)))
              go_wp2_with (refine wpList_store_agg rfl 161 _ _ rfl ⟨w5.heap.size, 0, none⟩ rfl (.agg A1) rfl (run_storeVar_new w5 161 _ A1 (by rw [HA1S.out]; exact HI.out) (by rw [HA1S.out]; rfl) HA1O.out) ?_)
              go_at_call 87
              refine (refuse_yes 10 _).mono ?_
              rintro e w7 ⟨rfl, rfl⟩
              go_wp2_with fail
              exact ⟨rfl, .inr ⟨10, HE, rfl, hW6.out.past⟩⟩
            · have e1 : decide ((286 : Int) < (N : Int)) = false := decide_eq_false (by omega)
              have e2 : decide (286 < N) = false := decide_eq_false hN
              by_cases hM : 30 < M
              · have e3 : decide ((30 : Int) < (M : Int)) = true := decide_eq_true (by omega)
                have e4 : decide (30 < M) = true := decide_eq_true hM
                have HE := hR2.out _ (Way.says_bind_err (refuse_fails (.inr (.inl hM))))
                go_wp2_with (refine wpList_store_agg rfl 161 _ _ rfl ⟨w5.heap.size, 0, none⟩ rfl (.agg A1) rfl (run_storeVar_new w5 161 _ A1 (by rw [HA1S.out]; exact HI.out) (by rw [HA1S.out]; rfl) HA1O.out) ?_)
                go_at_call 87
                refine (refuse_yes 10 _).mono ?_
                rintro e w7 ⟨rfl, rfl⟩
                go_wp2_with fail
                exact ⟨rfl, .inr ⟨10, HE, rfl, hW6.out.past⟩⟩
              · have e3 : decide ((30 : Int) < (M : Int)) = false := decide_eq_false (by omega)
                have e4 : decide (30 < M) = false := decide_eq_false hM
                by_cases hmb : (newCds own).mayBe
                · have KM1 := KM.out
                  rw [decide_eq_true hmb] at KM1
                  have HRF := Lib.hid (refuse_said (c := 286 < N ∨ 30 < M ∨ ¬ (newCds own).mayBe) (e := 10) (L := L) (m := m) (s := t) (fun h => h.elim hN (fun h => h.elim hM (fun h => h hmb))))
                  have KL := lengths_go (w5.alloc (.cells A1 161)) g L m t fx O' w5.heap.size 0 (newCds own) _ (N + M) hS6.out HC6.out HKO.out HFI.out HSYM.out (by omega) HL.out
                  have iNM : (N : Int) + (M : Int) = ((N + M : Nat) : Int) := by omega
                  obtain ⟨X, eX⟩ : ∃ X, N + M = X := ⟨_, rfl⟩
                  have EX := Lib.hid eX
                  rw [eX] at iNM KL
                  have bX : X ≤ 400 := by omega
                  clear KM hmb eX
                  go_wp2_with (first | (refine wpList_store_agg rfl 161 _ _ rfl ⟨w5.heap.size, 0, none⟩ rfl (.agg A1) rfl (run_storeVar_new w5 161 _ A1 (by rw [HA1S.out]; exact HI.out) (by rw [HA1S.out]; rfl) HA1O.out) ?_) | (go_at_call 103; refine KM1.mono ?_; rintro e w7 ⟨rfl, rfl⟩))
                  go_at_call 87
                  refine (refuse_no _ _).mono ?_
                  rintro e w7 ⟨rfl, rfl⟩
                  go_wp2_with fail
                  go_at_call 104
                  refine KL.mono ?_
                  clear KL
                  rintro e w7 (⟨ls, t2, O2', lv, hs, rfl, h1, h2, h3, h4, h5, h6⟩ | ⟨k, hs, rfl, hp⟩)
                  · have hW7 := Lib.hid (hW6.out.trans h6)
                    have hbM : 0 < M := by have := EM.out; omega
                    have hN0 : 0 < N := by have := EN.out; omega
                    have hN2 : N < ls.length := by have := EX.out; omega
                    obtain ⟨lb, lo, lc, rfl, hlc, c1, d1, c2, d2⟩ := cuts h1 N hN0 hN2
                    obtain ⟨y, ey⟩ : ∃ y, ls[256]? = some y := ⟨ls[256]'(by have := EN.out; omega), List.getElem?_eq_getElem _⟩
                    obtain ⟨vb, vof, vcap, ev, hvlt, hcell⟩ := listed_cell h1 256 y ey
                    simp only [Value.slice.injEq, Option.some.injEq, Addr.mk.injEq] at ev
                    obtain ⟨⟨rfl, rfl, _⟩, _, rfl⟩ := ev
                    unfold natVal at hcell
                    have HGD : Hid (ls.getD 256 0 = y) := by
                      show _ = _
                      rw [List.getD_eq_getElem?_getD, ey]
                      rfl
                    rw [h3] at c1 c2 d2 ⊢
                    have C1 := Lib.hid c1
                    have C2 := Lib.hid c2
                    have D1 := Lib.hid d1
                    have D2 := Lib.hid d2
                    have HSL := Lib.hid hs
                    have H15 := Lib.hid h4
                    have HS7 := Lib.hid h5
                    have HX257 : 257 ≤ X := by omega
                    have hR3 : Hid (∀ r, Says ((refuseW (ls.getD 256 0 = 0) 10).bind fun _ => (refuseW (¬ (newCds (ls.take N)).mayBe) 10).bind fun _ =>
                      (refuseW (¬ (newCds (ls.drop N)).mayBe ∧ 0 < (newCds (ls.drop N)).syms.length) 10).bind fun _ => Way.pure (newCds (ls.take N), newCds (ls.drop N))) L m t2 r → Says ownPairW L m s r) := fun r h => hR2.out r (Way.says_bind HRF.out (Way.says_bind (by rw [EX.out]; exact hs) h))
                    have HLX : Hid (ls.length = X) := h3
                    clear h1 h2 h3 h4 h5 h6 hs c1 c2 d1 d2 ey hN2 hlc
                    by_cases hy0 : y = 0
                    · have f0 : ((y : Int) == 0) = true := by simp; omega
                      have g0 : decide ((y : Int) = 0) = true := decide_eq_true (by omega)
                      have HE := hR3.out _ (Way.says_bind_err (refuse_fails (by rw [HGD.out]; exact hy0)))
                      clear hy0
                      go_wp2_with fail
                      go_at_call 87
                      refine (refuse_yes 10 _).mono ?_
                      rintro e w8 ⟨rfl, rfl⟩
                      go_wp2_with fail
                      exact ⟨rfl, .inr ⟨10, HE, rfl, hW7.out.past⟩⟩
                    · have f0 : ((y : Int) == 0) = false := by simp; omega
                      have g0 : decide ((y : Int) = 0) = false := decide_eq_false (by omega)
                      have HY0 : Hid (¬ ls.getD 256 0 = 0) := by rw [HGD.out]; exact hy0
                      clear hy0
                      go_wp2_with fail
                      go_at_call 87
                      refine (refuse_no _ _).mono ?_
                      rintro e w8 ⟨rfl, rfl⟩
                      go_wp2_with fail
                      have hl400 : ls.length ≤ 400 := by rw [HLX.out]; exact bX
                      have KN1 : Hid (∀ w', Below w7.heap.size w7 w' → Calls Tryd.prog 98 #[.slice (some ⟨lb, lo, none⟩) N lc] w' fun e w'' => ∃ v, e = .returned (.agg (cellsC (countsOf (ls.take N)) v)) ∧ listed natVal w'' v (newCds (ls.take N)).syms ∧ (∀ b, inBlock v b → w'.heap.size ≤ b) ∧ v.oneCell' = true ∧ Below w'.heap.size w' w'') := fun w' hb =>
                        newCodes_any _ (ls.take N) w' (listed_on D1.out hb) (fun l hl => H15.out l (List.mem_of_mem_take hl)) (by rw [List.length_take]; omega)
                      have KN2 : Hid (∀ w', Below w7.heap.size w7 w' → Calls Tryd.prog 98 #[.slice (some ⟨lb, lo + N, none⟩) (X - N) (lc - N)] w' fun e w'' => ∃ v, e = .returned (.agg (cellsC (countsOf (ls.drop N)) v)) ∧ listed natVal w'' v (newCds (ls.drop N)).syms ∧ (∀ b, inBlock v b → w'.heap.size ≤ b) ∧ v.oneCell' = true ∧ Below w'.heap.size w' w'') := fun w' hb =>
                        newCodes_any _ (ls.drop N) w' (listed_on D2.out hb) (fun l hl => H15.out l (List.mem_of_mem_drop hl)) (by rw [List.length_drop]; omega)
                      refine wp_region_held_drew (S := fun w' => Below w7.heap.size w7 w') (by kernel_rfl) (Below.refl _ _).drew (fun hS => ?_)
                      refine wpAnyH_take (i := 0) (v := .slice (some ⟨lb, lo, none⟩) X lc) rfl (by kernel_rfl) (by kernel_rfl) (by kernel_rfl) (fun _ _ _ h => h) (.inl ⟨rfl, fun w' hS' => ?_⟩) hS ?_
                      · go_simp
                      refine wpAnyH_take (i := 1) (v := .int .i64 (N : Int)) rfl (by kernel_rfl) (by kernel_rfl) (by kernel_rfl) (fun _ _ _ h => h) (.inl ⟨rfl, fun w' hS' => ?_⟩) hS ?_
                      · go_simp
                      refine wpAnyH_take (i := 2) (v := .slice (some ⟨lb, lo, none⟩) N lc) rfl (by kernel_rfl) (by kernel_rfl) (by kernel_rfl) (fun _ _ _ h => h) (.inl ⟨rfl, fun w' hS' => ?_⟩) hS ?_
                      · exact yield_slice 144 Tryd.underlying144 _ _ _ rfl _ _ _ _ (by simp [Act.eval, Act.put]) rfl (by simp [Act.eval, Act.put]) (C1.out w')
                      refine wpAnyH_take (i := 4) (v := .slice (some ⟨lb, lo, none⟩) X lc) rfl (by kernel_rfl) (by kernel_rfl) (by kernel_rfl) (fun _ _ _ h => h) (.inl ⟨rfl, fun w' hS' => ?_⟩) hS ?_
                      · go_simp
                      refine wpAnyH_take (i := 5) (v := .int .i64 (N : Int)) rfl (by kernel_rfl) (by kernel_rfl) (by kernel_rfl) (fun _ _ _ h => h) (.inl ⟨rfl, fun w' hS' => ?_⟩) hS ?_
                      · go_simp
                      refine wpAnyH_take (i := 6) (v := .slice (some ⟨lb, lo + N, none⟩) (X - N) (lc - N)) rfl (by kernel_rfl) (by kernel_rfl) (by kernel_rfl) (fun _ _ _ h => h) (.inl ⟨rfl, fun w' hS' => ?_⟩) hS ?_
                      · exact yield_slice 144 Tryd.underlying144 _ _ _ rfl _ _ _ _ (by simp [Act.eval, Act.put]) (by simp [Act.eval, Act.put]) rfl (C2.out w')
                      refine wpAnyH_ready (rs := [3]) (by kernel_rfl) (by simp) (AllReadyH.cons rfl (fun K' hK => ?_) AllReadyH.nil)
                      go_simp
                      go_at_call 98
                      refine (KN1.out _ hS).mono ?_
                      rintro e w8 ⟨v8, rfl, h1, h2, h3, h4⟩
                      have hS8 : Below w7.heap.size w7 w8 := hS.trans (h4.mono hS.size)
                      have HS8 := Lib.hid h1
                      have HN8 := Lib.hid h2
                      clear h1 h2 h3 h4
                      refine hK.out _ _ hS8 (fun _ => ?_)
                      refine wpAnyH_ready (rs := [7]) (by kernel_rfl) (by simp) (AllReadyH.cons rfl (fun K' hK => ?_) AllReadyH.nil)
                      go_simp
                      go_at_call 98
                      refine (KN2.out _ hS8).mono ?_
                      rintro e w9 ⟨v9, rfl, h1, h2, h3, h4⟩
                      have hS9 : Below w7.heap.size w7 w9 := hS8.trans (h4.mono hS8.size)
                      have HS9 := Lib.hid h1
                      have HN9 := Lib.hid h2
                      have HB89 := Lib.hid h4
                      clear h1 h2 h3 h4
                      have hbuild : ∀ w, (Instr.build 164 #[(0, .agg (cellsC (countsOf (ls.take N)) v8)), (1, .agg (cellsC (countsOf (ls.drop N)) v9))]).run Tryd.prog w = .ok (.agg (cellsC (countsOf (ls.take N)) v8 ++ cellsC (countsOf (ls.drop N)) v9)) w := fun w =>
                        run_build w 164 _ _ (pair_built (countsOf (ls.take N)) (countsOf (ls.drop N)) v8 v9 (counts_length _) (counts_length _))
                      obtain ⟨A2, eA2⟩ : ∃ A2, cellsC (countsOf (ls.take N)) v8 = A2 := ⟨_, rfl⟩
                      have EA2 := Lib.hid eA2
                      obtain ⟨A3, eA3⟩ : ∃ A3, cellsC (countsOf (ls.drop N)) v9 = A3 := ⟨_, rfl⟩
                      have EA3 := Lib.hid eA3
                      rw [eA2, eA3] at hbuild
                      rw [eA2, eA3]
                      obtain ⟨A4, eA4⟩ : ∃ A4, A2 ++ A3 = A4 := ⟨_, rfl⟩
                      have EA4 := Lib.hid eA4
                      rw [eA4] at hbuild
                      clear eA2 eA3 eA4
                      refine hK.out _ _ hS9 (fun _ => ?_)
                      refine wpAnyH_ready (rs := [8]) (by kernel_rfl) (by simp) (AllReadyH.cons rfl (fun K' hK => ?_) AllReadyH.nil)
                      rw [if_pos (by rfl)]
                      refine wp_build_run 164 _ rfl A4 #[(0, .agg A2), (1, .agg A3)] (by simp [Act.eval]) (hbuild w9) ?_
                      refine hK.out _ _ hS9 (fun _ => ?_)
                      refine wpAnyH_ready (rs := [9]) (by kernel_rfl) (by simp) (AllReadyH.cons rfl (fun K' hK => ?_) AllReadyH.nil)
                      go_simp
                      refine hK.out _ _ (hS9.alloc hS9.size _) (fun hS10 => ?_)
                      refine wpAnyH_ready (rs := [10]) (by kernel_rfl) (by simp) (AllReadyH.cons rfl (fun K' hK => ?_) AllReadyH.nil)
                      go_simp
                      refine hK.out _ _ hS10 (fun _ => ?_)
                      refine wpAnyH_done (by kernel_rfl) ?_ _
                      have HS10 := Lib.hid hS10
                      have hnew := heap_alloc_new w9 (.cells A4 164)
                      have hA4 : A4 = cellsC (newCds (ls.take N)).counts v8 ++ cellsC (newCds (ls.drop N)).counts v9 := by
                        rw [← EA4.out, ← EA2.out, ← EA3.out]
                        rfl
                      have hl1 : listed natVal (w9.alloc (.cells A4 164)) v8 (newCds (ls.take N)).syms := listed_on (listed_on HS8.out HB89.out) (((Below.refl _ _).alloc (Nat.le_refl _) _) : Below w9.heap.size w9 _)
                      have hl2 : listed natVal (w9.alloc (.cells A4 164)) v9 (newCds (ls.drop N)).syms := listed_on HS9.out (((Below.refl _ _).alloc (Nat.le_refl _) _) : Below w9.heap.size w9 _)
                      have hsz : (w9.alloc (.cells A4 164)).heap.size = w9.heap.size + 1 := by
                        show (w9.heap.push _).size = _
                        simp
                      have hP := pair_is (c1 := newCds (ls.take N)) (c2 := newCds (ls.drop N)) (v1 := v8) (v2 := v9) (t := 164) (fr := (0, 0)) (by rw [← hA4]; exact hnew) (counts_length _) (counts_length _) hl1 hl2 (fun k => w7.heap.size ≤ k ∧ k < (w9.alloc (.cells A4 164)).heap.size) ⟨hS9.size, by rw [hsz]; omega⟩ (fun k hk => ⟨Nat.le_trans hS.size (HN8.out k hk), inBlock_low hl1 hk⟩) (fun k hk => ⟨Nat.le_trans hS8.size (HN9.out k hk), inBlock_low hl2 hk⟩)
                      have HP := Lib.hid hP
                      have hst := Lib.hid (isS_keep HS7.out hS10.size (fun k hk => hS10.block k (isS_lt HS7.out k hk)))
                      have HDJ : Hid (∀ k, (w7.heap.size ≤ k ∧ k < (w9.alloc (.cells A4 164)).heap.size) → ¬ O2' k ∧ k < (w9.alloc (.cells A4 164)).heap.size) := fun k hk => ⟨fun ho => by have := isS_lt HS7.out k ho; omega, hk.2⟩
                      have HW10 : Hid (WentOn O O2' W (w9.alloc (.cells A4 164))) := hW7.out.trans ⟨fun b hb => .inl hb, Past.of_below hS10⟩
                      have HF1 := Lib.hid (newCds_fit (ls.take N) (by rw [List.length_take]; omega))
                      have HF2 := Lib.hid (newCds_fit (ls.drop N) (by rw [List.length_drop]; omega))
                      obtain ⟨w10, ew10⟩ : ∃ w10, w9.alloc (.cells A4 164) = w10 := ⟨_, rfl⟩
                      rw [ew10] at HS10 HP hst HDJ HW10 ⊢
                      obtain ⟨b9, eb9⟩ : ∃ b9, w9.heap.size = b9 := ⟨_, rfl⟩
                      rw [eb9] at HP ⊢
                      clear hnew hA4 hl1 hl2 hsz hP hS hS8 hS9 hS10 hbuild ew10 eb9 hK
                      obtain ⟨K1, hc1, hk1⟩ := HP.out.fst
                      obtain ⟨K2, hc2, hk2⟩ := HP.out.snd
                      have KM1 := mayBe_code w10 b9 0 (newCds (ls.take N)) K1 hc1 HF1.out
                      have KM2 := mayBe_code w10 b9 17 (newCds (ls.drop N)) K2 hc2 HF2.out
                      obtain ⟨v3, hv3⟩ := hc2
                      have q33 := hv3.list
                      obtain ⟨o3, cap3, rfl⟩ := listed_length hv3.syms
                      obtain ⟨n3, en3⟩ : ∃ n3, (newCds (ls.drop N)).syms.length = n3 := ⟨_, rfl⟩
                      have EN3 := Lib.hid en3
                      rw [en3] at q33
                      have HRY := Lib.hid (refuse_said (e := 10) (L := L) (m := m) (s := t2) HY0.out)
                      clear hc1 hv3 en3 hk1 hk2
                      by_cases hm1 : (newCds (ls.take N)).mayBe
                      · rw [decide_eq_true hm1] at KM1
                        have HR1Y := Lib.hid (refuse_said (c := ¬ (newCds (ls.take N)).mayBe) (e := 10) (L := L) (m := m) (s := t2) (fun h => h hm1))
                        clear hm1
                        by_cases hm2 : (newCds (ls.drop N)).mayBe
                        · rw [decide_eq_true hm2] at KM2
                          have HE := Lib.hid (hR3.out _ (Way.says_bind HRY.out (Way.says_bind HR1Y.out (Way.says_bind (refuse_said (fun h => h.1 hm2)) (Way.says_pure _)))))
                          clear hm2
                          go_wp2_with fail
                          go_at_call 103
                          refine KM1.mono ?_
                          rintro e w11 ⟨rfl, rfl⟩
                          go_wp2_with fail
                          go_at_call 87
                          refine (refuse_no _ _).mono ?_
                          rintro e w11 ⟨rfl, rfl⟩
                          go_wp2_with fail
                          go_at_call 103
                          refine KM2.mono ?_
                          rintro e w11 ⟨rfl, rfl⟩
                          go_wp2_with fail
                          go_at_call 87
                          refine (refuse_no _ _).mono ?_
                          rintro e w11 ⟨rfl, rfl⟩
                          go_wp2_with fail
                          go_ret
                          exact .inl ⟨_, t2, O2', b9, _, HE.out, rfl, HP.out, HDJ.out, HF1.out, HF2.out, hst.out, HW10.out⟩
                        · rw [decide_eq_false hm2] at KM2
                          by_cases hn3 : 0 < n3
                          · have f1 : decide ((0 : Int) < (n3 : Int)) = true := decide_eq_true (by omega)
                            have f2 : decide (0 < n3) = true := decide_eq_true hn3
                            have HE := Lib.hid (hR3.out _ (Way.says_bind HRY.out (Way.says_bind HR1Y.out (Way.says_bind_err (refuse_fails ⟨hm2, by rw [EN3.out]; exact hn3⟩)))))
                            clear hm2
                            go_wp2_with fail
                            go_at_call 103
                            refine KM1.mono ?_
                            rintro e w11 ⟨rfl, rfl⟩
                            go_wp2_with fail
                            go_at_call 87
                            refine (refuse_no _ _).mono ?_
                            rintro e w11 ⟨rfl, rfl⟩
                            go_wp2_with fail
                            go_at_call 103
                            refine KM2.mono ?_
                            rintro e w11 ⟨rfl, rfl⟩
                            go_wp2_with fail
                            go_at_call 87
                            refine (refuse_yes 10 _).mono ?_
                            rintro e w11 ⟨rfl, rfl⟩
                            go_wp2_with fail
                            exact ⟨rfl, .inr ⟨10, HE.out, rfl, HW10.out.past⟩⟩
                          · have f1 : decide ((0 : Int) < (n3 : Int)) = false := decide_eq_false (by omega)
                            have f2 : decide (0 < n3) = false := decide_eq_false hn3
                            have HE := Lib.hid (hR3.out _ (Way.says_bind HRY.out (Way.says_bind HR1Y.out (Way.says_bind (refuse_said (fun h => hn3 (by have := h.2; rw [EN3.out] at this; exact this))) (Way.says_pure _)))))
                            clear hm2
                            go_wp2_with fail
                            go_at_call 103
                            refine KM1.mono ?_
                            rintro e w11 ⟨rfl, rfl⟩
                            go_wp2_with fail
                            go_at_call 87
                            refine (refuse_no _ _).mono ?_
                            rintro e w11 ⟨rfl, rfl⟩
                            go_wp2_with fail
                            go_at_call 103
                            refine KM2.mono ?_
                            rintro e w11 ⟨rfl, rfl⟩
                            go_wp2_with fail
                            go_at_call 87
                            refine (refuse_no _ _).mono ?_
                            rintro e w11 ⟨rfl, rfl⟩
                            go_wp2_with fail
                            go_ret
                            exact .inl ⟨_, t2, O2', b9, _, HE.out, rfl, HP.out, HDJ.out, HF1.out, HF2.out, hst.out, HW10.out⟩
                      · rw [decide_eq_false hm1] at KM1
                        have HE := Lib.hid (hR3.out _ (Way.says_bind HRY.out (Way.says_bind_err (refuse_fails hm1))))
                        clear hm1
                        go_wp2_with fail
                        go_at_call 103
                        refine KM1.mono ?_
                        rintro e w11 ⟨rfl, rfl⟩
                        go_wp2_with fail
                        go_at_call 87
                        refine (refuse_yes 10 _).mono ?_
                        rintro e w11 ⟨rfl, rfl⟩
                        go_wp2_with fail
                        exact ⟨rfl, .inr ⟨10, HE.out, rfl, HW10.out.past⟩⟩
                  · have HE := hR2.out _ (Way.says_bind HRF.out (Way.says_bind_err (by rw [EX.out]; exact hs)))
                    go_wp2_with fail
                    exact ⟨rfl, .inr ⟨k, HE, rfl, hW6.out.on hp⟩⟩
                · have KM1 := KM.out
                  rw [decide_eq_false hmb] at KM1
                  have HE := hR2.out _ (Way.says_bind_err (refuse_fails (.inr (.inr hmb))))
                  clear KM hmb
                  go_wp2_with (first | (refine wpList_store_agg rfl 161 _ _ rfl ⟨w5.heap.size, 0, none⟩ rfl (.agg A1) rfl (run_storeVar_new w5 161 _ A1 (by rw [HA1S.out]; exact HI.out) (by rw [HA1S.out]; rfl) HA1O.out) ?_) | (go_at_call 103; refine KM1.mono ?_; rintro e w7 ⟨rfl, rfl⟩))
                  go_at_call 87
                  refine (refuse_yes 10 _).mono ?_
                  rintro e w7 ⟨rfl, rfl⟩
                  go_wp2_with fail
                  exact ⟨rfl, .inr ⟨10, HE, rfl, hW6.out.past⟩⟩
      · go_wp2_with fail
        exact ⟨rfl, .inr ⟨k, Way.says_bind HS1.out (Way.says_bind HS2.out (Way.says_bind_err hs)), rfl, HW2.out.on hp⟩⟩
    · go_wp2_with fail
      exact ⟨rfl, .inr ⟨k, Way.says_bind HS1.out (Way.says_bind_err hs), rfl, HW1.out.on hp⟩⟩
  · go_wp2_with fail
    exact ⟨rfl, .inr ⟨k, Way.says_bind_err hs, rfl, hp⟩⟩
end Go.Proofs.YtbfpbmnnlckldaaDoor.Fx
