/-
  What the window forgets, as landed. The conditions stand in it.
  A stored block, as landed: how many bits it has, and how it is put. The conditions stand in each.
  A block, as landed. The conditions stand in it.
  A deflate writer, as landed: what it is, what its calls do to a packer. The conditions stand in each.
-/
import Derived.Test.YtefdlidjdmlnaaaWinJ
import Derived.Test.YtefdlidjdmlnaaaDeflQ
namespace Go.Proofs.Ytefdlidjdmlnaaa.Fx
open Go Go.RowKit Go.Joins Go.Maps
set_option linter.unusedVariables false
theorem book_is {c d : Int} (D : Book) (key : Lit) (h1 : D.atKey key (.lit (.int .i64 0)) = .lit (.int .i64 c)) (h2 : D.atKey key (.lit (.int .i64 0)) = .lit (.int .i64 d)) : c = d := by
  rw [h1] at h2
  simpa using h2
set_option maxHeartbeats 4000000 in
set_option maxRecDepth 100000 in
theorem forget_code (g : Nat) (out : Value) (zs : List Nat) (first opn : Nat) (W : World) (O : Nat → Prop) (hk : isK W g out zs first opn O) (h8 : ∀ x ∈ zs, x < 256) (hl : zs.length ≤ 65536) (hf : first ≤ 1099511627776) :
    Calls Try.prog 73 #[.pointer (some ⟨g, 1, none⟩)] W fun e w' => e = .returned (.tuple #[]) ∧ ∃ O', isK w' g out (zs.drop (zs.length - 32768)) (first + (zs.length - 32768)) opn O' ∧ (∀ b, O' b → O b ∨ W.heap.size ≤ b) ∧ Past O W w' := by
  obtain ⟨s, t, mb, st, D, hkept, hsteps, hst, rfl⟩ := hk
  have HK := Lib.hid hkept
  have HST := Lib.hid hsteps
  have HSL := Lib.hid hst
  have H8 := Lib.hid h8
  obtain ⟨q0, q1, q2, q3, q4, q5, q6⟩ := hkept.cells
  obtain ⟨so, sc, es⟩ := row_shape hkept.own1
  obtain ⟨to', tc, et⟩ := row_shape hkept.own2
  obtain ⟨len, el⟩ : ∃ n, zs.length = n := ⟨_, rfl⟩
  obtain ⟨m, em⟩ : ∃ n, st.length = n := ⟨_, rfl⟩
  have EL := Lib.hid el
  have EM := Lib.hid em
  obtain ⟨n, en⟩ : ∃ n, len - 32768 = n := ⟨_, rfl⟩
  rw [el] at es hl
  rw [em] at et
  have hm : m = len - 2 := by rw [← em, hst, el]
  rw [el, en]
  by_cases hn : n = 0
  · subst hn
    have hsub : (len : Int) - 32768 ≤ 0 := by omega
    have d1 : decide ((len : Int) - 32768 ≤ 0) = true := decide_eq_true hsub
    clear hkept hsteps hst h8 el em en q0 q2 q3 q4 q5 q6 hm
    subst es
    go_enter Try.func73, Try.ntmps73
    go_wp2_with fail
    refine bodyPost_ret (v := .tuple #[]) (by simp [results, Try.results73, go_sem]) rfl ⟨rfl, _, ⟨_, t, mb, st, D, HK.out, HST.out, HSL.out, rfl⟩, fun b hb => .inl hb, Past.refl _ _⟩
  have hsub : (len : Int) - 32768 = (n : Int) := by omega
  have d1 : decide ((n : Int) ≤ 0) = false := decide_eq_false (by omega)
  have hnm : n ≤ m := by omega
  have hm2 : m ≤ 65536 := by omega
  have hn3 : n + 3 ≤ len := by omega
  have hl32 : 32768 ≤ len := by omega
  obtain ⟨O0, eO0⟩ : ∃ O0, O0 = blocksK g s t mb := ⟨_, rfl⟩
  have EO0 := Lib.hid eO0
  rw [← eO0]
  clear hkept hsteps hst h8 el em en q0 q2 q3 q4 q5 q6 hm eO0
  subst es
  subst et
  go_enter Try.func73, Try.ntmps73
  go_wp2_with fail
  clear q1
  go_loopw [14] (fun s14 wr => ∃ (i : Nat) (D' : Book), i ≤ n ∧ s14 = .int .i64 (i : Int) ∧ Hid (Mem wr g out (.slice so len sc) (.slice to' m tc) mb zs first st opn (first + st.length) D') ∧ Hid (LastsFrom zs first st.length i D') ∧ Hid (Past O0 W wr)) (fun s14 _ => n - (intOf s14).toNat)
  case atStart => exact ⟨0, D, Nat.zero_le _, rfl, HK.out.mem, LastsFrom.start HK.out.last, Past.refl _ _⟩
  case round =>
    obtain ⟨i, D', hi, rfl, hM, hL, hP⟩ := hrel
    have q1 := cell_of_block hM.out.blk 1
    have q2 := cell_of_block hM.out.blk 2
    have q3 := cell_of_block hM.out.blk 3
    have q4 := cell_of_block hM.out.blk 4
    have hfro := fun j => unfrozen_of_block hM.out.blk j
    by_cases hlt : i < n
    · have d2 : decide ((i : Int) < (n : Int)) = true := decide_eq_true (by omega)
      have d2n : decide (i < n) = true := decide_eq_true hlt
      have K3 := three_code g (.slice so len sc) zs i wr q1 (own_listed (by have := hM.out.own1; exact this)) H8.out (by rw [EL.out]; omega) (by rw [EL.out]; omega)
      obtain ⟨p, hq, hip, hat⟩ := hL.out.at_ H8.out (i := i) (by rw [EM.out]; omega)
      have hpm := (lastOf_some hq).1
      rw [EM.out] at hpm
      obtain ⟨T, eT⟩ : ∃ T, three zs i = T := ⟨_, rfl⟩
      have hT : T < 16777216 := by rw [← eT]; exact three_lt zs H8.out i
      have HTW := Lib.hid (u32_wf T (by omega))
      have HGO : Hid (p = i → LastsFrom zs first st.length (i + 1) (D'.del (.int .u32 (T : Int)))) := fun e => by
        rw [← eT]
        exact hL.out.gone (by rw [hq, e])
      have HSTAY : Hid (p ≠ i → LastsFrom zs first st.length (i + 1) D') := fun e => hL.out.stays hq e
      rw [eT] at K3 hat
      have hlook : ∀ k, (Instr.lookup 100 (.map (some mb)) (.int .u32 (T : Int)) false).run Try.prog (wr.drewN k) = .ok (.int .i64 ((first + p : Nat) : Int)) (wr.drewN k) := fun k => by
        obtain ⟨c, hrun, hc, _⟩ := (ownsMap_drewN hM.out.map k).lookup_int keyLaw Try.underlying100 Try.underlying3 (zeroInt _) (keyOf_int_mk Try.underlying80 HTW.out)
        rw [book_is D' _ hc hat] at hrun
        exact hrun
      have hsum : (first : Int) + (i : Int) = ((first + i : Nat) : Int) := by omega
      obtain ⟨F, eF⟩ : ∃ F, first + i = F := ⟨_, rfl⟩
      obtain ⟨G, eG⟩ : ∃ G, first + p = G := ⟨_, rfl⟩
      rw [eF] at hsum
      rw [eG] at hlook
      have hF : F ≤ 1099511627776 + 65536 := by omega
      have wF : IntKind.i64.wrap (F : Int) = (F : Int) := by rw [IntKind.wrap_i64]; omega
      by_cases hpi : p = i
      · have hGF : G = F := by omega
        subst hGF
        have HLF := Lib.hid (HGO.out hpi)
        clear hq hat eT eF eG hpm hip hpi
        go_wp2_with fail
        go_at_call 74
        refine K3.mono ?_
        rintro e w' ⟨rfl, k, rfl⟩
        go_wp2_with fail
        go_quiet (fail)
        go_wp2_with (at_delete; refine wpList_delete_own _ rfl _ _ 100 80 rfl 3 keyLaw Try.underlying100 _ mb (first + st.length) D' rfl (ownsMap_drewN hM.out.map _) _ _ rfl (keyOf_int_mk Try.underlying80 HTW.out) ?_; intro w1 hown1 hturn1)
        obtain ⟨k1, k2⟩ := (hM.out.drewN _).turned hown1 hturn1.grown
        have hP2 : Past O0 W w1 := hP.out.trans (by rw [EO0.out]; exact ⟨k2.os, k2.tape, k2.output, k2.size, k2.block⟩) (fun b hb => .inl hb)
        go_roundw
        case rel => exact ⟨i + 1, _, by omega, by go_num, k1, HLF.out, hP2⟩
        case measure => simp [intOf]; omega
      · have hne1 : ((G : Int) == (F : Int)) = false := by simp; omega
        have hne2 : decide ((G : Int) = (F : Int)) = false := decide_eq_false (by omega)
        have HLF := Lib.hid (HSTAY.out hpi)
        clear hq hat eT eF eG hpm hip hpi
        go_wp2_with fail
        go_at_call 74
        refine K3.mono ?_
        rintro e w' ⟨rfl, k, rfl⟩
        go_wp2_with fail
        go_quiet (fail)
        go_wp2_with fail
        go_roundw
        case rel => exact ⟨i + 1, _, by omega, by go_num, hM.out.drewN _, HLF.out, ⟨hP.out.os, hP.out.tape, hP.out.output, hP.out.size, hP.out.block⟩⟩
        case measure => simp [intOf]; omega
    · obtain rfl : i = n := by omega
      have d2 : decide ((i : Int) < (i : Int)) = false := decide_eq_false (by omega)
      have KD1 := deleteU8 (.slice so len sc) zs i wr (by rw [EL.out]; have := hM.out.own1; rw [EL.out] at this; exact this) (by omega) (by rw [EL.out]; omega) (by rw [EL.out]; omega)
      rw [EL.out] at KD1
      have hfirst : (first : Int) + (i : Int) = ((first + i : Nat) : Int) := by omega
      obtain ⟨F, eF⟩ : ∃ F, first + i = F := ⟨_, rfl⟩
      have EF := Lib.hid eF
      rw [eF] at hfirst
      have hF : F ≤ 1099511627776 + 65536 := by omega
      clear eF d1 hsub
      go_wp2_with fail
      go_at_call 90
      refine KD1.mono ?_
      rintro e w1 ⟨u, rfl, a1, a2, a3⟩
      obtain ⟨uo, uc, eu⟩ := row_shape a1
      obtain ⟨k1, k2, k3⟩ := hM.out.cut1 u (by rw [EL.out]; exact a1) a2 a3
      have KD2 := deleteI32 (.slice to' m tc) st i _ k1.own2 (by omega) (by rw [EM.out]; omega) (by rw [EM.out]; omega)
      rw [EM.out] at KD2
      have K1 := Lib.hid k1
      have K2 := Lib.hid k2
      have g1 := cell_of_block k3 1
      have g3 := cell_of_block k3 3
      have f1 := unfrozen_of_block k3 1
      have A2 := Lib.hid a2
      subst eu
      clear q1 q2 q3 q4 hfro a1 a2 a3 k1 k2 k3
      go_wp2_with fail
      go_at_call 91
      refine KD2.mono ?_
      rintro e w2 ⟨u2, rfl, a1, a2, a3⟩
      obtain ⟨uo2, uc2, eu⟩ := row_shape a1
      obtain ⟨k1, k2, k3⟩ := K1.out.cut2 u2 (by rw [EM.out]; exact a1) a2 a3
      obtain ⟨l1, l2⟩ := k1.moved F
      have g2 := cell_of_block k3 2
      have g3b := cell_of_block k3 3
      have f2 := unfrozen_of_block k3 2
      have f3 := unfrozen_of_block k3 3
      have hfin : Kept (World.setCell _ ⟨g, 2, none⟩ (.int .i64 (F : Int))) g out _ _ mb (zs.drop i) F (st.drop i) opn D' := Mem.kept (by rw [List.length_drop, ← EF.out, show first + i + (st.length - i) = first + st.length by rw [EM.out]; omega, EF.out]; exact l1) (by rw [List.length_drop, ← EF.out]; exact hL.out.end_ (by rw [EM.out]; exact hnm))
      have hin : ∀ b, blocksK g (.slice uo (len - i) uc) u2 mb b → O0 b := fun b hb => by
        rw [EO0.out]
        rcases hb with h | h | h | h
        · exact .inl h
        · exact .inr (.inl (by rw [← A2.out]; exact h))
        · exact .inr (.inr (.inl (by rw [← a2]; exact h)))
        · exact .inr (.inr (.inr h))
      have hin0 : ∀ b, blocksK g (.slice uo (len - i) uc) (.slice to' m tc) mb b → O0 b := fun b hb => by
        rw [EO0.out]
        rcases hb with h | h | h | h
        · exact .inl h
        · exact .inr (.inl (by rw [← A2.out]; exact h))
        · exact .inr (.inr (.inl h))
        · exact .inr (.inr (.inr h))
      have hpast : Past O0 W (World.setCell _ ⟨g, 2, none⟩ (.int .i64 (F : Int))) := (hP.out.trans (by rw [EO0.out]; exact K2.out) (fun b hb => .inl hb)).trans (k2.trans l2 (fun b hb => .inl (by rcases hb with h | h | h | h; exact .inl h; exact .inr (.inl h); exact .inr (.inr (.inl (by rw [← a2]; exact h))); exact .inr (.inr (.inr h))))) (fun b hb => .inl (hin0 b hb))
      have HFIN := Lib.hid (And.intro hfin (And.intro hin hpast))
      subst eu
      clear a1 a2 a3 k1 k2 k3 l1 l2 hfin hin hin0 hpast g1 g3 f1
      go_wp2_with fail
      refine bodyPost_end (v := .tuple #[]) (by simp [results, Try.results73, go_sem]) rfl ⟨rfl, _, ⟨_, _, mb, _, D', by rw [EF.out]; exact HFIN.out.1, HST.out.drop i, by rw [List.length_drop, List.length_drop, HSL.out]; omega, rfl⟩, fun b hb => .inl (HFIN.out.2.1 b hb), HFIN.out.2.2⟩
end Go.Proofs.Ytefdlidjdmlnaaa.Fx
namespace Go.Proofs.Ytefdlidjdmlnaaa.Fx
open Go Go.RowKit Go.Joins Go.Maps
set_option linter.unusedVariables false
/-- How many bits of 0 there are up to a whole byte. -/
def padOf (n : Nat) : Nat := (8 - n % 8) % 8
theorem storedBits_code (g n : Nat) (v : Value) (l : List Bool) (t : Nat) (O : Nat → Prop) (W : World) (hg : W.cell? ⟨g, 0, none⟩ = some v) (h : isW W v l t O) (hl : l.length ≤ 1099511627776) (hn : n ≤ 1099511627776) :
    Calls Try.prog 70 #[.pointer (some ⟨g, 0, none⟩), .int .i64 (n : Int)] W fun e w' => e = .returned (.int .i64 ((padOf (l.length + 2) + 32 + 8 * n : Nat) : Int)) ∧ ∃ O', isW w' v l t O' ∧ (∀ b, O' b → O b ∨ W.heap.size ≤ b) ∧ Past O W w' := by
  have KB := bits_code W v l t O h
  have ha := i64_and7 (-((l.length : Int) + 2))
  have e : (-((l.length : Int) + 2)) % 8 = ((padOf (l.length + 2) : Nat) : Int) := by unfold padOf; omega
  rw [e] at ha
  have hp : padOf (l.length + 2) ≤ 7 := by unfold padOf; omega
  obtain ⟨p, ep⟩ : ∃ p, padOf (l.length + 2) = p := ⟨_, rfl⟩
  obtain ⟨L, eL⟩ : ∃ p, l.length = p := ⟨_, rfl⟩
  rw [ep] at ha hp ⊢
  rw [eL] at ha hl KB
  have hvp : ∃ a, v = .pointer a := by
    obtain ⟨g1, g2, s, hh, _⟩ := h
    exact ⟨_, hh.val⟩
  obtain ⟨va, rfl⟩ := hvp
  clear e ep h eL
  go_enter Try.func70, Try.ntmps70
  go_wp2_with fail
  go_at_call 89
  refine KB.mono ?_
  rintro e w' ⟨O', rfl, k1, k2, k3⟩
  have K := Lib.hid (And.intro k1 (And.intro k2 k3))
  clear k1 k2 k3
  go_wp2_with fail
  go_ret
  exact ⟨by simp; omega, O', K.out⟩
/-- A stored block, behind its first bit. -/
def storedOf (l : List Bool) (b : List Nat) : List Bool := aligned (l ++ bitsOf 0 2) ++ bitsOf b.length 16 ++ bitsOf (65535 - b.length) 16 ++ bitsOfBytes b
theorem bitsOfBytes_take (zs : List Nat) (k x : Nat) (h : zs[k]? = some x) : bitsOfBytes (zs.take (k + 1)) = bitsOfBytes (zs.take k) ++ bitsOf x 8 := by
  rw [List.take_add_one, h]
  exact bitsOfBytes_snoc _ _
/-- What a writer has come to since the world W, where it had the blocks O. -/
def Went (W : World) (O : Nat → Prop) (v : Value) (t : Nat) (l : List Bool) (w : World) : Prop := ∃ O', isW w v l t O' ∧ (∀ b, O' b → O b ∨ W.heap.size ≤ b) ∧ Past O W w
theorem Went.start {W : World} {O : Nat → Prop} {v : Value} {t : Nat} {l : List Bool} (h : isW W v l t O) : Went W O v t l W := ⟨O, h, fun b hb => .inl hb, Past.refl _ _⟩
theorem Went.past {W w : World} {O : Nat → Prop} {v : Value} {t : Nat} {l : List Bool} (h : Went W O v t l w) : Past O W w := by
  obtain ⟨_, _, _, h⟩ := h
  exact h
theorem Went.cell {W w : World} {O : Nat → Prop} {v : Value} {t : Nat} {l : List Bool} (h : Went W O v t l w) {g o : Nat} {x : Value} (hc : W.cell? ⟨g, o, none⟩ = some x) (hg : ¬ O g) : w.cell? ⟨g, o, none⟩ = some x :=
  (World.cell?_of_block (w := W) (a := ⟨g, o, none⟩) (h.past.block g (World.block_lt_of_cell? W _ hc) hg)).trans hc
theorem Went.on {W w w' : World} {O : Nat → Prop} {v : Value} {t : Nat} {l l' : List Bool} {O1 O2 : Nat → Prop} (h1 : ∀ b, O1 b → O b ∨ W.heap.size ≤ b) (h2 : Past O W w) (k1 : isW w' v l' t O2) (k2 : ∀ b, O2 b → O1 b ∨ w.heap.size ≤ b) (k3 : Past O1 w w') : Went W O v t l' w' :=
  ⟨O2, k1, fun b hb => (k2 b hb).elim (fun h => h1 b h) (fun h => .inr (Nat.le_trans h2.size h)), h2.trans k3 h1⟩
theorem Went.put {W w : World} {O : Nat → Prop} {v : Value} {t : Nat} {l : List Bool} (h : Went W O v t l w) (n k : Nat) (hl : l.length ≤ 1099511627776) (hk : k ≤ 32) (hn : n < 2 ^ k) :
    Calls Try.prog 69 #[v, .int .u32 (n : Int), .int .i64 (k : Int)] w fun e w' => e = .returned (.int .i64 0) ∧ Went W O v t (l ++ bitsOf n k) w' := by
  obtain ⟨O1, k1, k2, k3⟩ := h
  refine (put_code w v l t O1 n k k1 hl hk hn).mono ?_
  rintro e w' ⟨O2, rfl, j1, j2, j3⟩
  exact ⟨rfl, Went.on (l := l) k2 k3 j1 j2 j3⟩
theorem Went.align {W w : World} {O : Nat → Prop} {v : Value} {t : Nat} {l : List Bool} (h : Went W O v t l w) (hl : l.length ≤ 1099511627776) :
    Calls Try.prog 58 #[v] w fun e w' => e = .returned (.int .i64 0) ∧ Went W O v t (aligned l) w' := by
  obtain ⟨O1, k1, k2, k3⟩ := h
  refine (align_code w v l t O1 k1 hl).mono ?_
  rintro e w' ⟨O2, rfl, j1, j2, j3⟩
  exact ⟨rfl, Went.on (l := l) k2 k3 j1 j2 j3⟩
theorem not16 (n : Nat) (hn : n ≤ 65535) : bits .xor .u16 IntKind.u16.max (n : Int) = ((65535 - n : Nat) : Int) := by
  have key : (BitVec.ofInt 16 IntKind.u16.max ^^^ BitVec.ofInt 16 (n : Int)).toNat = 65535 - n := by
    have h1 : BitVec.ofInt 16 IntKind.u16.max = BitVec.allOnes 16 := by decide
    rw [h1, BitVec.allOnes_xor, BitVec.toNat_not, BitVec.toNat_ofInt]
    omega
  show IntKind.u16.wrap ((BitVec.ofInt 16 IntKind.u16.max ^^^ BitVec.ofInt 16 (n : Int)).toNat : Nat) = _
  rw [key]
  simp [IntKind.wrap, IntKind.bits, IntKind.signed]
  omega
theorem isW_ptr {w : World} {v : Value} {l : List Bool} {t : Nat} {O : Nat → Prop} (h : isW w v l t O) : ∃ a, v = .pointer a := by
  obtain ⟨g1, g2, s, hh, _⟩ := h
  exact ⟨_, hh.val⟩
set_option maxHeartbeats 4000000 in
set_option maxRecDepth 100000 in
theorem store_code (g : Nat) (v bv : Value) (l : List Bool) (t : Nat) (O : Nat → Prop) (zs : List Nat) (W : World) (hg : W.cell? ⟨g, 0, none⟩ = some v) (h : isW W v l t O) (hgO : ¬ O g) (hb : bytesIn W bv zs) (h8 : ∀ x ∈ zs, x < 256) (hbO : ∀ b, inBlock bv b → ¬ O b) (hl : l.length ≤ 1099000000000) (hz : zs.length ≤ 65535) :
    Calls Try.prog 71 #[.pointer (some ⟨g, 0, none⟩), bv] W fun e w' => e = .returned (.tuple #[]) ∧ Went W O v t (storedOf l zs) w' := by
  obtain ⟨va, rfl⟩ := isW_ptr h
  obtain ⟨bo, bc, rfl⟩ := listed_length hb
  have HG := Lib.hid hg
  have HB := Lib.hid hb
  have H8 := Lib.hid h8
  have HBO := Lib.hid hbO
  have HGO := Lib.hid hgO
  obtain ⟨len, el⟩ : ∃ n, zs.length = n := ⟨_, rfl⟩
  have EL := Lib.hid el
  have hso : storedOf l zs = aligned (l ++ bitsOf 0 2) ++ bitsOf len 16 ++ bitsOf (65535 - len) 16 ++ bitsOfBytes zs := by unfold storedOf; rw [el]
  rw [hso]
  rw [el] at hz HB HBO ⊢
  have KP1 := (Went.start h).put 0 2 (by omega) (by omega) (by decide)
  have hl1 : (aligned (l ++ bitsOf 0 2)).length ≤ 1099000000000 + 16 := by rw [aligned_length, List.length_append, bitsOf_length]; omega
  have hl0 : (l ++ bitsOf 0 2).length ≤ 1099000000000 + 16 := by rw [List.length_append, bitsOf_length]; omega
  generalize l ++ bitsOf 0 2 = l0 at *
  obtain ⟨l1, el1⟩ : ∃ x, aligned l0 = x := ⟨_, rfl⟩
  have EL1 := Lib.hid el1
  rw [el1] at hl1 ⊢
  obtain ⟨q, eq⟩ : ∃ q, 65535 - len = q := ⟨_, rfl⟩
  rw [eq]
  have hnot := not16 len hz
  rw [eq] at hnot
  have hm16 : (len : Int) % 65536 = (len : Int) := by omega
  have hq16 : q ≤ 65535 := by omega
  have hqm : (q : Int) % 4294967296 = (q : Int) := by omega
  clear hb h8 hbO hgO el h el1 hso eq
  go_enter Try.func71, Try.ntmps71
  go_wp2_with fail
  go_at_call 69
  refine KP1.mono ?_
  rintro e w1 ⟨rfl, H1⟩
  have KA := H1.align (by omega)
  rw [EL1.out] at KA
  have hg1 := H1.cell HG.out HGO.out
  clear H1 KP1 hg
  go_wp2_with fail
  go_at_call 58
  refine KA.mono ?_
  rintro e w2 ⟨rfl, H2⟩
  have KP2 := H2.put len 16 (by omega) (by omega) (by omega)
  have hg2 := H2.cell HG.out HGO.out
  clear H2 KA hg1
  go_wp2_with fail
  go_at_call 69
  refine KP2.mono ?_
  rintro e w3 ⟨rfl, H3⟩
  have KP3 := H3.put q 16 (by rw [List.length_append, bitsOf_length]; omega) (by omega) (by omega)
  have hg3 := H3.cell HG.out HGO.out
  clear H3 KP2 hg2
  go_wp2_with fail
  go_at_call 69
  refine KP3.mono ?_
  rintro e w4 ⟨rfl, H4⟩
  have HS4 : Hid (Went W O (.pointer va) t (l1 ++ bitsOf len 16 ++ bitsOf q 16 ++ bitsOfBytes (zs.take 0)) w4) := by
    show Went _ _ _ _ _ _
    rw [List.take_zero, show bitsOfBytes [] = [] from rfl, List.append_nil]
    exact H4
  have hlb : (l1 ++ bitsOf len 16 ++ bitsOf q 16).length ≤ 1099000000000 + 64 := by
    rw [List.length_append, List.length_append, bitsOf_length, bitsOf_length]
    omega
  obtain ⟨lb, elb⟩ : ∃ x, l1 ++ bitsOf len 16 ++ bitsOf q 16 = x := ⟨_, rfl⟩
  have ELB := Lib.hid elb
  rw [elb] at HS4 hlb
  clear H4 KP3 hg3 elb hnot hqm hm16
  go_wp2_with fail
  go_loopw [36] (fun s36 wr => ∃ k : Nat, k ≤ len ∧ s36 = .int .i64 (k : Int) ∧ Hid (Went W O (.pointer va) t (lb ++ bitsOfBytes (zs.take k)) wr)) (fun s36 _ => len - (intOf s36).toNat)
  case atStart => exact ⟨0, Nat.zero_le _, rfl, HS4⟩
  case round =>
    obtain ⟨k, hk, rfl, hW⟩ := hrel
    have hg5 := hW.out.cell HG.out HGO.out
    by_cases hlt : k < len
    · have d1 : decide ((k : Int) < (len : Int)) = true := decide_eq_true (by omega)
      have d1n : decide (k < len) = true := decide_eq_true hlt
      obtain ⟨x, ex⟩ : ∃ x, zs[k]? = some x := ⟨zs[k]'(by rw [EL.out]; exact hlt), List.getElem?_eq_getElem _⟩
      have hx8 := H8.out x (List.mem_of_getElem? ex)
      obtain ⟨b, off, cap, eb, hblt, hcell⟩ := listed_cell HB.out k x ex
      rw [EL.out] at eb
      simp only [Value.slice.injEq] at eb
      obtain ⟨rfl, _, rfl⟩ := eb
      unfold byteVal at hcell
      have hbO := HBO.out b ⟨off, len, bc, rfl, by omega⟩
      have hc := (World.cell?_of_block (w := W) (a := ⟨b, off + k, none⟩) (hW.out.past.block b hblt hbO)).trans hcell
      have KP := hW.out.put x 8 (by rw [List.length_append, bitsOfBytes_length, List.length_take]; have := EL.out; omega) (by omega) (by omega)
      rw [List.append_assoc, ← bitsOfBytes_take zs k x ex] at KP
      have k1 : (k : Int) < (len : Int) := by omega
      clear ex hcell
      go_wp2_with fail
      go_at_call 69
      refine KP.mono ?_
      rintro e w5 ⟨rfl, H5⟩
      go_wp2_with fail
      go_roundw
      case rel => exact ⟨k + 1, by omega, by go_num, H5⟩
      case measure => simp [intOf]; omega
    · have d1 : decide ((k : Int) < (len : Int)) = false := decide_eq_false (by omega)
      have d1n : decide (k < len) = false := decide_eq_false hlt
      go_wp2_with fail
      refine bodyPost_end (v := .tuple #[]) (by simp [results, Try.results71, go_sem]) rfl ⟨rfl, ?_⟩
      rw [ELB.out]
      have := hW.out
      rwa [List.take_of_length_le (by rw [EL.out]; omega)] at this
end Go.Proofs.Ytefdlidjdmlnaaa.Fx
namespace Go.Proofs.Ytefdlidjdmlnaaa.Fx
open Go Go.RowKit Go.Joins Go.Maps
set_option linter.unusedVariables false
theorem bits_same (w : World) (v : Value) (l : List Bool) (t : Nat) (O : Nat → Prop) (h : isW w v l t O) : Calls Try.prog 89 #[v] w fun e w' => e = .returned (.int .i64 (l.length : Int)) ∧ w = w' := by
  obtain ⟨g, g', s, hh, _⟩ := h
  obtain ⟨rfl, h1, h2, h3⟩ := hh
  have q0 := cell_of_block h1 0
  have q1 := cell_of_block h2 1
  clear h1 h2 h3
  generalize l.length = n at *
  go_enter Try.func89, Try.ntmps89
  go_wp2_with fail
  go_ret
  first | exact ⟨rfl, rfl⟩ | simp
theorem storedBits_same (g n : Nat) (v : Value) (l : List Bool) (t : Nat) (O : Nat → Prop) (W : World) (hg : W.cell? ⟨g, 0, none⟩ = some v) (h : isW W v l t O) (hl : l.length ≤ 1099511627776) (hn : n ≤ 1099511627776) :
    Calls Try.prog 70 #[.pointer (some ⟨g, 0, none⟩), .int .i64 (n : Int)] W fun e w' => e = .returned (.int .i64 ((padOf (l.length + 2) + 32 + 8 * n : Nat) : Int)) ∧ w' = W := by
  have KB := bits_same W v l t O h
  have ha := i64_and7 (-((l.length : Int) + 2))
  have e : (-((l.length : Int) + 2)) % 8 = ((padOf (l.length + 2) : Nat) : Int) := by unfold padOf; omega
  rw [e] at ha
  have hp : padOf (l.length + 2) ≤ 7 := by unfold padOf; omega
  obtain ⟨p, ep⟩ : ∃ p, padOf (l.length + 2) = p := ⟨_, rfl⟩
  obtain ⟨L, eL⟩ : ∃ p, l.length = p := ⟨_, rfl⟩
  rw [ep] at ha hp ⊢
  rw [eL] at ha hl KB
  obtain ⟨va, rfl⟩ := isW_ptr h
  clear e ep h eL
  go_enter Try.func70, Try.ntmps70
  go_wp2_with fail
  go_at_call 89
  refine KB.mono ?_
  rintro e w' ⟨rfl, rfl⟩
  go_wp2_with fail
  go_ret
  refine ⟨?_, rfl⟩
  simp
  omega
/-- A packer: its writer's bits, what it keeps. -/
def Pack (w : World) (g : Nat) (v : Value) (l : List Bool) (t : Nat) (zs : List Nat) (first opn : Nat) (O : Nat → Prop) : Prop :=
  ∃ OB OK, isW w v l t OB ∧ isK w g v zs first opn OK ∧ (∀ k, OB k → ¬ OK k) ∧ O = fun k => OB k ∨ OK k
theorem isK_keep {w w' : World} {g : Nat} {out : Value} {zs : List Nat} {first opn : Nat} {O : Nat → Prop} (h : isK w g out zs first opn O) (hk : ∀ k, O k → w'.heap[k]? = w.heap[k]?) : isK w' g out zs first opn O := by
  obtain ⟨s, t, mb, st, D, h1, h2, h3, rfl⟩ := h
  exact ⟨s, t, mb, st, D, h1.keep hk, h2, h3, rfl⟩
theorem isK_lt {w : World} {g : Nat} {out : Value} {zs : List Nat} {first opn : Nat} {O : Nat → Prop} (h : isK w g out zs first opn O) : ∀ k, O k → k < w.heap.size := by
  obtain ⟨s, t, mb, st, D, h1, h2, h3, rfl⟩ := h
  exact fun k hk => h1.lt k hk
theorem isK_g {w : World} {g : Nat} {out : Value} {zs : List Nat} {first opn : Nat} {O : Nat → Prop} (h : isK w g out zs first opn O) : O g := by
  obtain ⟨s, t, mb, st, D, h1, h2, h3, rfl⟩ := h
  exact .inl rfl
/-- Which of two kinds of blocks has fewer bits. -/
theorem fewer (l : List Bool) (b : List Nat) (ts : List Tok) (last F : Nat) (hF : (ts.flatMap tokBits ++ fixedSym 256).length = F) : (padOf (l.length + 1 + 2) + 32 + 8 * b.length < F) ↔ (storedBlock l b last).length < (fixedBlock l ts last).length := by
  rw [storedBlock_length]
  unfold fixedBlock
  rw [List.append_assoc (l ++ bitsOf last 1 ++ bitsOf 1 2), List.length_append, hF, List.length_append, List.length_append, bitsOf_length, bitsOf_length]
  unfold padOf
  omega
/-- Bits that were not there before: a block's, counted at most. -/
theorem fixed_most (zs : List Nat) (up f a : Nat) : ((toks zs up f a).flatMap tokBits ++ fixedSym 256).length ≤ 60 * f + 60 := by
  have ht : ∀ t, (tokBits t).length ≤ 60 := by
    intro t
    have hx : ∀ k, lext.getD k 0 ≤ 5 ∧ dext.getD k 0 ≤ 13 := by
      intro k
      constructor
      · rcases Nat.lt_or_ge k 29 with h | h
        · have : (List.range 29).all (fun k => decide (lext.getD k 0 ≤ 5)) = true := by decide
          simpa using List.all_eq_true.1 this k (List.mem_range.2 h)
        · rw [List.getD_eq_getElem?_getD, List.getElem?_eq_none (by simpa [lext] using h)]; simp
      · rcases Nat.lt_or_ge k 30 with h | h
        · have : (List.range 30).all (fun k => decide (dext.getD k 0 ≤ 13)) = true := by decide
          simpa using List.all_eq_true.1 this k (List.mem_range.2 h)
        · rw [List.getD_eq_getElem?_getD, List.getElem?_eq_none (by simpa [dext] using h)]; simp
    unfold tokBits
    split
    · have := fixedSym_len t.b; omega
    · simp only [List.length_append, bitsOf_length, turned_length]
      have := fixedSym_len (257 + find lens t.n)
      have := (hx (find lens t.n)).1
      have := (hx (find dists t.back)).2
      omega
  induction f generalizing a with
  | zero =>
    have := fixedSym_len 256
    simp only [toks, List.flatMap_nil, List.nil_append]
    omega
  | succ f ih =>
    unfold toks
    by_cases ha : a < up
    · rw [if_pos ha]
      by_cases h3 : 3 ≤ (matchOf zs a up).1
      · rw [if_pos h3, List.flatMap_cons, List.append_assoc, List.length_append]
        have := ih (a + (matchOf zs a up).1)
        have := ht ⟨(matchOf zs a up).1, a - (matchOf zs a up).2, 0⟩
        omega
      · rw [if_neg h3, List.flatMap_cons, List.append_assoc, List.length_append]
        have := ih (a + 1)
        have := ht ⟨0, 0, zs.getD a 0⟩
        omega
    · rw [if_neg ha]
      have := fixedSym_len 256
      simp only [List.flatMap_nil, List.nil_append]
      omega
theorem toks_count (zs : List Nat) (up f a : Nat) : (toks zs up f a).length ≤ f := by
  induction f generalizing a with
  | zero => simp [toks]
  | succ f ih =>
    unfold toks
    by_cases ha : a < up
    · rw [if_pos ha]
      by_cases h3 : 3 ≤ (matchOf zs a up).1
      · rw [if_pos h3, List.length_cons]
        have := ih (a + (matchOf zs a up).1)
        omega
      · rw [if_neg h3, List.length_cons]
        have := ih (a + 1)
        omega
    · rw [if_neg ha]
      simp
theorem partsIn_lt {w : World} {v : Value} {ps : List (Nat × Nat)} (h : partsIn w v ps) {b : Nat} (hb : inBlock v b) : b < w.heap.size := by
  obtain ⟨off, n, cap, rfl, hn⟩ := hb
  rcases h with ⟨h, _⟩ | ⟨g, c, h, hg, _⟩
  · simp only [Value.slice.injEq] at h
    omega
  · simp only [Value.slice.injEq, Option.some.injEq, Addr.mk.injEq] at h
    obtain ⟨⟨rfl, _⟩, _⟩ := h
    exact hg
theorem Went.store {W w : World} {O : Nat → Prop} {v : Value} {t : Nat} {l : List Bool} (h : Went W O v t l w) (g : Nat) (bv : Value) (zs : List Nat) (hg : w.cell? ⟨g, 0, none⟩ = some v) (hgO : g < W.heap.size ∧ ¬ O g) (hb : bytesIn w bv zs) (h8 : ∀ x ∈ zs, x < 256) (hbO : ∀ b, inBlock bv b → b < W.heap.size ∧ ¬ O b) (hl : l.length ≤ 1099000000000) (hz : zs.length ≤ 65535) :
    Calls Try.prog 71 #[.pointer (some ⟨g, 0, none⟩), bv] w fun e w' => e = .returned (.tuple #[]) ∧ Went W O v t (storedOf l zs) w' := by
  obtain ⟨O1, k1, k2, k3⟩ := h
  refine (store_code g v bv l t O1 zs w hg k1 (fun h => (k2 g h).elim hgO.2 (fun h => by omega)) hb h8 (fun b hb h => (k2 b h).elim (hbO b hb).2 (fun h => by have := (hbO b hb).1; omega)) hl hz).mono ?_
  rintro e w' ⟨rfl, O2, j1, j2, j3⟩
  exact ⟨rfl, Went.on (l := l) k2 k3 j1 j2 j3⟩
theorem Went.spell {W w : World} {O : Nat → Prop} {v : Value} {t : Nat} {l : List Bool} (h : Went W O v t l w) (q g : Nat) (bv pv : Value) (zs : List Nat) (ps : List (Nat × Nat)) (hq : w.cell? ⟨q, 0, none⟩ = some (.pointer (some ⟨g, 0, none⟩))) (hg : w.cell? ⟨g, 0, none⟩ = some v) (hqO : q < W.heap.size ∧ ¬ O q) (hgO : g < W.heap.size ∧ ¬ O g) (hb : bytesIn w bv zs) (h8 : ∀ x ∈ zs, x < 256) (hbO : ∀ b, inBlock bv b → b < W.heap.size ∧ ¬ O b) (hp : partsIn w pv ps) (hpO : ∀ b, inBlock pv b → b < W.heap.size ∧ ¬ O b) (hf : fits zs.length ps) (hz : zs.length ≤ 1099511627776) (hps : ps.length ≤ 1099511627776) (hl : (l ++ spelt zs ps).length ≤ 1099511627776 - 512) :
    Calls Try.prog 67 #[bv, pv, .func (Fn.func 72) #[] #[.pointer (some ⟨q, 0, none⟩)]] w fun e w' => e = .returned (.tuple #[]) ∧ Went W O v t (l ++ spelt zs ps) w' := by
  obtain ⟨O1, k1, k2, k3⟩ := h
  have no : ∀ b, b < W.heap.size ∧ ¬ O b → ¬ O1 b := fun b hb h => (k2 b h).elim hb.2 (fun h => by omega)
  refine (spell_code (bits_sink q g v t) bv pv zs ps w l O1 ⟨hq, hg, k1, no q hqO, no g hgO⟩ hb h8 hp (fun b hb => no b (hbO b hb)) (fun b hb => no b (hpO b hb)) hf hz hps hl).mono ?_
  rintro e w' ⟨rfl, O2, ⟨_, _, j1, _, _⟩, j2, j3⟩
  exact ⟨rfl, Went.on (l := l) k2 k3 j1 j2 j3⟩
theorem isK_open {w : World} {g : Nat} {out : Value} {zs : List Nat} {first opn : Nat} {O : Nat → Prop} (h : isK w g out zs first opn O) (n : Nat) : isK (w.setCell ⟨g, 5, none⟩ (.int .i64 (n : Int))) g out zs first n O := by
  obtain ⟨s, t, mb, st, D, h1, h2, h3, rfl⟩ := h
  obtain ⟨m1, m2, m3⟩ := h1.map_ne
  have hold : ∀ k, k ≠ g → (w.setCell ⟨g, 5, none⟩ (.int .i64 (n : Int))).heap[k]? = w.heap[k]? := fun k hk => Below.heap_setCell _ _ _ k hk
  refine ⟨s, t, mb, st, D, ⟨block_setCell h1.blk _, ownsRow_same h1.own1 (fun k hk => hold k (fun e => h1.ne1 (by rw [hk]; exact congrArg some e))), ownsRow_same h1.own2 (fun k hk => hold k (fun e => h1.ne2 (by rw [hk]; exact congrArg some e))), ?_, h1.last, h1.ne1, h1.ne2, h1.ne3⟩, h2, h3, rfl⟩
  obtain ⟨es, cl, hm, rest⟩ := h1.map
  exact ⟨es, cl, (hold mb m1).trans hm, rest⟩
/-- A block's end: what the packer has then. -/
theorem block_end {W w5 w8 : World} {g : Nat} {va : Option Addr} {L : List Bool} {t : Nat} {zs : List Nat} {first opn : Nat} {OB OK : Nat → Prop} (hY : Past (fun _ => False) W w5) (R8 : Went w5 OB (.pointer va) t L w8) (hK8 : isK w8 g (.pointer va) zs first opn OK) (hap : ∀ k, OB k → ¬ OK k) (hB : ∀ k, OB k → k < W.heap.size) (hK : ∀ k, OK k → k < W.heap.size) (hg : OK g) :
    ∀ (w9 : World) (O9 : Nat → Prop) (zs' : List Nat) (f' : Nat), isK w9 g (.pointer va) zs' f' 0 O9 → (∀ b, O9 b → OK b ∨ (w8.setCell ⟨g, 5, none⟩ (.int .i64 0)).heap.size ≤ b) → Past OK (w8.setCell ⟨g, 5, none⟩ (.int .i64 0)) w9 →
      ∃ O', Pack w9 g (.pointer va) L t zs' f' 0 O' ∧ (∀ b, O' b → (OB b ∨ OK b) ∨ W.heap.size ≤ b) ∧ Past (fun k => OB k ∨ OK k) W w9 := by
  intro w9 O9 zs' f' h1 h2 h3
  obtain ⟨O8, o1, o2, o3⟩ := R8
  have hz : (w8.setCell ⟨g, 5, none⟩ (.int .i64 0)).heap.size = w8.heap.size := by simp
  rw [hz] at h2
  have hset : Past OK w8 (w8.setCell ⟨g, 5, none⟩ (.int .i64 0)) := ⟨rfl, rfl, rfl, by simp, fun k hk hn => Below.heap_setCell _ _ _ k (fun e => hn (by have e : k = g := e; rw [e]; exact hg))⟩
  have hp8 : Past OK w8 w9 := hset.trans h3 (fun b hb => .inl hb)
  have hlt8 := isW_lt _ _ _ _ _ o1
  have hno : ∀ k, O8 k → ¬ OK k := fun k hk hk2 => (o2 k hk).elim (fun h => hap k h hk2) (fun h => by have := hK k hk2; have := hY.size; omega)
  refine ⟨_, ⟨O8, O9, isW_keep _ _ _ _ _ _ o1 hp8.size (fun k hk => hp8.block k (hlt8 k hk) (hno k hk)), h1, fun k hk hk9 => ?_, rfl⟩, fun b hb => ?_, ?_⟩
  · rcases h2 k hk9 with h | h
    · exact hno k hk h
    · have := hlt8 k hk
      omega
  · rcases hb with hb | hb
    · rcases o2 b hb with h | h
      · exact .inl (.inl h)
      · exact .inr (Nat.le_trans hY.size h)
    · rcases h2 b hb with h | h
      · exact .inl (.inr h)
      · exact .inr (Nat.le_trans hY.size (Nat.le_trans o3.size h))
  · have h5 : Past (fun k => OB k ∨ OK k) W w5 := ⟨hY.os, hY.tape, hY.output, hY.size, fun k hk _ => hY.block k hk (fun h => h)⟩
    exact h5.trans ((⟨o3.os, o3.tape, o3.output, o3.size, fun k hk hn => o3.block k hk (fun h => hn (.inl h))⟩ : Past (fun k => OB k ∨ OK k) w5 w8).trans hp8 (fun b hb => .inl (.inr hb))) (fun b hb => .inl hb)
set_option maxHeartbeats 4000000 in
set_option maxRecDepth 100000 in
theorem block_code (g : Nat) (v : Value) (l : List Bool) (t : Nat) (zs : List Nat) (first opn last : Nat) (O : Nat → Prop) (W : World) (h : Pack W g v l t zs first opn O) (h8 : ∀ x ∈ zs, x < 256) (ho : opn ≤ zs.length) (ho2 : opn ≤ 4096) (hz : zs.length ≤ 65536) (hl : l.length ≤ 1000000000000) (hf : first ≤ 1000000000000) (hlast : last < 2) :
    Calls Try.prog 55 #[.pointer (some ⟨g, 0, none⟩), .int .u32 (last : Int)] W fun e w' => e = .returned (.tuple #[]) ∧ ∃ O', Pack w' g v (blockOf l zs (zs.length - opn) zs.length last) t (zs.drop (zs.length - 32768)) (first + (zs.length - 32768)) 0 O' ∧ (∀ b, O' b → O b ∨ W.heap.size ≤ b) ∧ Past O W w' := by
  obtain ⟨OB, OK, hw, hk, hap, rfl⟩ := h
  obtain ⟨va, rfl⟩ := isW_ptr hw
  have HW := Lib.hid hw
  have HK := Lib.hid hk
  have HAP := Lib.hid hap
  have H8 := Lib.hid h8
  obtain ⟨s, tv, mb, st, D, hkept, hsteps, hst, eOK⟩ := hk
  have HS := Lib.hid hsteps
  have HSL := Lib.hid hst
  have HKE := Lib.hid hkept
  have EOK := Lib.hid eOK
  obtain ⟨len, el⟩ : ∃ n, zs.length = n := ⟨_, rfl⟩
  have EL := Lib.hid el
  obtain ⟨a, ea⟩ : ∃ n, len - opn = n := ⟨_, rfl⟩
  obtain ⟨q0, q1, q2, q3, q4, q5, q6⟩ := hkept.cells
  have hglt := hkept.glt
  -- the box of the receiver
  have hbl1 : Below W.heap.size W (W.alloc (.cells #[.pointer (some ⟨g, 0, none⟩)] 96)) := (Below.refl _ _).alloc (Nat.le_refl _) _
  obtain ⟨W1, e1⟩ : ∃ x, x = W.alloc (.cells #[.pointer (some ⟨g, 0, none⟩)] 96) := ⟨_, rfl⟩
  rw [← e1] at hbl1
  have hbx : W1.heap[W.heap.size]? = some (.cells #[.pointer (some ⟨g, 0, none⟩)] 96 (0, 0)) := by rw [e1]; exact heap_alloc_new W _
  have hs1 : W1.heap.size = W.heap.size + 1 := by rw [e1]; show (W.heap.push _).size = _; simp
  have cc : ∀ j x, W.cell? ⟨g, j, none⟩ = some x → W1.cell? ⟨g, j, none⟩ = some x := fun j x hx => (hbl1.cell (p := ⟨g, j, none⟩) hglt).trans hx
  have p0 := cc 0 _ q0
  have p1 := cc 1 _ q1
  have p3 := cc 3 _ q3
  have p5 := cc 5 _ q5
  have pb := cell_of_block hbx 0
  have hrow := listed_on (own_listed hkept.own1) hbl1
  have hstr := listed_on (own_listed hkept.own2) hbl1
  obtain ⟨so, sc, es⟩ := row_shape hkept.own1
  obtain ⟨u, hsl, hu, hub⟩ := listed_drop bytes_type bytes_one hrow (zs.length - opn) (by omega)
  have KPA := fun k => parts_code g s tv zs st (zs.length - opn) (W1.drewN k) p1 p3 hrow hstr h8 hsteps hst (by omega) (by omega)
  rw [el, ea] at hsl
  have HU := Lib.hid hu
  have HUB := Lib.hid hub
  have HBX := Lib.hid hbx
  have HBL1 := Lib.hid hbl1
  have HS1 := Lib.hid hs1
  have HLT := Lib.hid hglt
  rw [el, ea] at KPA ⊢
  rw [el] at ho hz es
  subst es
  have hsub : (len : Int) - (opn : Int) = (a : Int) := by omega
  have wsub : IntKind.i64.wrap (a : Int) = (a : Int) := by rw [IntKind.wrap_i64]; omega
  have EA := Lib.hid ea
  clear hw hap h8 hkept hsteps hst eOK el ea q0 q1 q2 q3 q4 q5 q6 hglt hbl1 hbx cc hrow hstr hu hub hs1
  go_enter Try.func55, Try.ntmps55
  go_upto_region 1 with fail
  rw [← e1]
  clear e1
  go_wp2_with fail
  go_quiet (fail)
  go_upto_region 2 with fail
  obtain ⟨W2, eW2⟩ : ∃ x, x = W1.drewN nq := ⟨_, rfl⟩
  have KPA := KPA (nq + 1)
  have hd : W2.drew = W1.drewN (nq + 1) := by rw [eW2]; rfl
  rw [← hd] at KPA
  have hbl2 : Below W.heap.size W W2 := by rw [eW2]; exact below_drewN HBL1.out _
  have hs2 : W2.heap.size = W.heap.size + 1 := by rw [eW2]; exact HS1.out
  have HBX2 : Hid (W2.heap[W.heap.size]? = some (.cells #[.pointer (some ⟨g, 0, none⟩)] 96 (0, 0))) := by rw [eW2]; exact HBX.out
  have HU2 : Hid (bytesIn W2 u (zs.drop (zs.length - opn))) := by rw [eW2]; exact HU.out
  have p0 : W2.cell? ⟨g, 0, none⟩ = some (.pointer va) := by rw [eW2]; exact p0
  have p1 : W2.cell? ⟨g, 1, none⟩ = some (.slice so len sc) := by rw [eW2]; exact p1
  have p5 : W2.cell? ⟨g, 5, none⟩ = some (.int .i64 (opn : Int)) := by rw [eW2]; exact p5
  have pb : W2.cell? ⟨W.heap.size, 0, none⟩ = some (.pointer (some ⟨g, 0, none⟩)) := by rw [eW2]; exact pb
  rw [← eW2]
  have HBL2 := Lib.hid hbl2
  have HS2 := Lib.hid hs2
  clear p3 eW2 hd hbl2 hs2 HBX HU HBL1 HS1
  refine wp_region_still_tail 14 (by kernel_rfl) (by kernel_rfl) ?_
  simp only [List.take_succ_cons, List.take_zero, List.drop_succ_cons, List.drop_zero]
  repeat still_step
  refine wpStill_nil ?_
  change wpList _ _ _ _ _ W2.drew
  go_wp2_with (go_at_call 66; refine KPA.mono ?_; rintro e w3 ⟨pv, rfl, k1, k2, k3⟩; have K3 := Lib.hid (And.intro k1 (And.intro k2 k3)); clear k1 k2 k3)
  obtain ⟨k1, k2, k3⟩ := K3.out
  have h3s := k3.size
  have hs2d : W2.drew.heap.size = W.heap.size + 1 := HS2.out
  obtain ⟨X, eX⟩ : ∃ x, x = w3.alloc (.cells #[.int .i64 0] 3) := ⟨_, rfl⟩
  have hWX : Below W.heap.size W X := by
    rw [eX]
    exact ((HBL2.out.drew).trans (k3.mono (by omega))).alloc (by omega) _
  have h3X : Below w3.heap.size w3 X := by rw [eX]; exact (Below.refl _ _).alloc (Nat.le_refl _) _
  have hXs : X.heap.size = w3.heap.size + 1 := by rw [eX]; show (w3.heap.push _).size = _; simp
  have hXq : X.heap[w3.heap.size]? = some (.cells #[.int .i64 ((([] : List Bool).length : Nat) : Int)] 3 (0, 0)) := by rw [eX]; exact heap_alloc_new w3 _
  have hXb : X.heap[W.heap.size]? = some (.cells #[.pointer (some ⟨g, 0, none⟩)] 96 (0, 0)) := (h3X.block W.heap.size (by omega)).trans ((k3.block W.heap.size (by omega)).trans HBX2.out)
  have hub : ∀ b, inBlock u b → b < W.heap.size ∧ ¬ OB b := fun b hb => by
    have h1 := HUB.out b hb
    obtain ⟨off, n', cap', e, hn'⟩ := h1
    simp only [Value.slice.injEq] at e
    obtain ⟨rfl, rfl, rfl⟩ := e
    have h2 := (HKE.out.own1.lt b rfl).2
    refine ⟨h2, fun hOB => HAP.out b hOB ?_⟩
    rw [EOK.out]
    exact .inr (.inl rfl)
  have hpub : ∀ b, inBlock pv b → W.heap.size < b ∧ b < w3.heap.size := fun b hb => ⟨by have := k2 b hb; omega, partsIn_lt k1 hb⟩
  obtain ⟨B, eB⟩ : ∃ B, zs.drop (zs.length - opn) = B := ⟨_, rfl⟩
  have HBs : Hid (B = zs.drop a) := by
    show _ = _
    rw [← eB, EL.out, EA.out]
  have hBl : B.length = opn := by rw [← eB, List.length_drop]; have := EL.out; omega
  have hBX : bytesIn X u B := by
    rw [← eB]
    exact listed_kept HU2.out (by rw [HS2.out]; omega) (fun b hb => by
      have := (hub b hb).1
      exact (h3X.block b (by omega)).trans (k3.block b (by omega)))
  have hB8 : ∀ x ∈ B, x < 256 := fun x hx => H8.out x (List.mem_of_mem_drop (by rw [← eB] at hx; exact hx))
  obtain ⟨P, eP⟩ : ∃ P, (tokens zs a len).map partOf = P := ⟨_, rfl⟩
  rw [eP] at k1
  have hPX : partsIn X pv P := partsIn_keep k1 (by omega) (fun b hb => h3X.block b (hpub b hb).2)
  have hPl : P.length ≤ 4096 := by
    rw [← eP, List.length_map]
    have := toks_count zs len (len - a) a
    have := EA.out
    unfold tokens
    omega
  have hfit : fits B.length P := by
    rw [hBl, ← eP, show opn = len - a by have := EA.out; omega]
    exact fits_toks zs len (len - a) a (by rw [EL.out]; exact Nat.le_refl _)
  have hsp : spelt B P = (tokens zs a len).flatMap tokBits ++ fixedSym 256 := by
    rw [HBs.out, ← eP]
    exact spelt_toks zs len (len - a) a (by rw [EL.out]; exact Nat.le_refl _)
  have hspl : (spelt B P).length ≤ 60 * 4096 + 60 := by
    rw [hsp]
    have := fixed_most zs len (len - a) a
    have := EA.out
    unfold tokens
    omega
  have KC := spell_code (count_sink w3.heap.size) u pv B P X [] (fun k => k = w3.heap.size) ⟨hXq, rfl⟩ hBX hB8 hPX (fun b hb e => by have := (hub b hb).1; omega) (fun b hb e => by have := (hpub b hb).2; omega) hfit (by omega) (by omega) (by rw [List.nil_append]; omega)
  rw [List.nil_append] at KC
  have hWX' := Lib.hid hWX
  have HXB := Lib.hid hXb
  have HBX' := Lib.hid hBX
  have HPX := Lib.hid hPX
  have HBB := Lib.hid (And.intro hub (And.intro hpub (And.intro hB8 (And.intro hBl (And.intro hPl (And.intro hfit (And.intro hsp hspl)))))))
  have HXS := Lib.hid hXs
  have HX3 := Lib.hid (show W.heap.size + 1 ≤ w3.heap.size by omega)
  have hgX : X.cell? ⟨g, 0, none⟩ = some (.pointer va) := (hWX.cell (p := ⟨g, 0, none⟩) HLT.out).trans (HKE.out.cells).1
  have HGX := Lib.hid hgX
  obtain ⟨Q, eQ⟩ : ∃ Q, w3.heap.size = Q := ⟨_, rfl⟩
  have EQ := Lib.hid eQ
  rw [← eX]
  clear eX k1 k2 k3 h3s hs2d hWX h3X hXs hXq hXb hub hpub eB hBl hBX hB8 eP hPX hPl hfit hsp hspl hgX eQ p0 p1 p5 pb hsl hsub wsub
  refine KC.mono ?_
  rintro e w5 ⟨rfl, O5, ⟨j1, rfl⟩, j2, j3⟩
  obtain ⟨hub, hpub, hB8, hBl, hPl, hfit, hsp, hspl⟩ := HBB.out
  have hq1 := HX3.out
  have hxs := HXS.out
  have hY : Past (fun _ => False) W w5 := ⟨j3.os.trans hWX'.out.os, j3.tape.trans hWX'.out.tape, j3.output.trans hWX'.out.output, Nat.le_trans hWX'.out.size j3.size, fun k hk _ => (j3.block k (Nat.lt_of_lt_of_le hk hWX'.out.size) (by omega)).trans (hWX'.out.block k hk)⟩
  have hW5 : isW w5 (.pointer va) l t OB := isW_keep _ _ _ _ _ _ HW.out hY.size (fun k hk => hY.block k (isW_lt _ _ _ _ _ HW.out k hk) (fun h => h))
  have hK5 : isK w5 g (.pointer va) zs first opn OK := isK_keep HK.out (fun k hk => hY.block k (isK_lt HK.out k hk) (fun h => h))
  have hb5 : w5.heap[W.heap.size]? = some (.cells #[.pointer (some ⟨g, 0, none⟩)] 96 (0, 0)) := (j3.block W.heap.size (by omega) (by omega)).trans HXB.out
  have hBy : bytesIn w5 u B := listed_past HBX'.out j3 (fun b hb e => by have := (hub b hb).1; omega)
  have hPy : partsIn w5 pv P := partsIn_keep HPX.out j3.size (fun b hb => j3.block b (by have := (hpub b hb).2; omega) (by have := (hpub b hb).2; omega))
  have g0 : w5.cell? ⟨g, 0, none⟩ = some (.pointer va) := (World.cell?_of_block (w := W) (a := ⟨g, 0, none⟩) (hY.block g HLT.out (fun h => h))).trans (HKE.out.cells).1
  have b0 := cell_of_block hb5 0
  obtain ⟨F, eF⟩ : ∃ F, (spelt B P).length = F := ⟨_, rfl⟩
  rw [eF] at j1 hspl
  have n0 := cell_of_block j1 0
  have hys := j3.size
  have hgOB : ¬ OB g := fun h => HAP.out g h (isK_g HK.out)
  have hqOB : ∀ k, W.heap.size ≤ k → ¬ OB k := fun k hk h => by have := isW_lt _ _ _ _ _ HW.out k h; omega
  have hYs : W.heap.size < w5.heap.size ∧ w3.heap.size < w5.heap.size ∧ W.heap.size < w3.heap.size := by omega
  have KP := (Went.start hW5).put last 1 (by omega) (by omega) (by omega)
  have HFEW : Hid ((padOf (l.length + 1 + 2) + 32 + 8 * opn < F) ↔ (storedBlock l B last).length < (fixedBlock l (tokens zs a len) last).length) := by
    rw [← hBl]
    exact fewer l B (tokens zs a len) last F (by rw [← hsp]; exact eF)
  have HBO : Hid (blockOf l zs a len last = if (storedBlock l B last).length < (fixedBlock l (tokens zs a len) last).length then storedBlock l B last else fixedBlock l (tokens zs a len) last) := by
    show _ = _
    unfold blockOf
    have e : (zs.take len).drop a = B := by rw [HBs.out, ← EL.out, List.take_length]
    rw [e]
  have HY := Lib.hid (And.intro hY (And.intro hW5 (And.intro hK5 (And.intro hb5 (And.intro hBy (And.intro hPy (And.intro g0 (And.intro j1 (And.intro hgOB (And.intro hqOB hYs))))))))))
  have HF := Lib.hid (And.intro hspl hsp)
  have EF := Lib.hid eF
  obtain ⟨Q, eQ⟩ : ∃ Q, w3.heap.size = Q := ⟨_, rfl⟩
  clear hub hpub hB8 hfit hsp hspl hq1 hxs hY hW5 hK5 hb5 hBy hPy hys hgOB hqOB j1 j2 j3 eF eQ HX3 HXS HXB HBX' HPX hWX' HGX K3 hBl hPl hYs KC
  go_wp2_with fail
  go_at_call 69
  refine KP.mono ?_
  rintro e w6 ⟨rfl, H6⟩
  obtain ⟨hY, hW5, hK5, hb5, hBy, hPy, g5, j1, hgOB, hqOB, hYs⟩ := HY.out
  have g6 := H6.cell g5 hgOB
  have b6 := H6.cell (cell_of_block hb5 0) (hqOB _ (Nat.le_refl _))
  have n6 := H6.cell (cell_of_block j1 0) (hqOB _ (by omega))
  obtain ⟨hub, hpub, hB8, hBl, hPl, hfit, hsp, hspl⟩ := HBB.out
  have hLl : (l ++ bitsOf last 1).length = l.length + 1 := by rw [List.length_append, bitsOf_length]
  have KSB : ∀ n, Calls Try.prog 70 #[.pointer (some ⟨g, 0, none⟩), .int .i64 (opn : Int)] (w6.drewN n) fun e w' => e = .returned (.int .i64 ((padOf (l.length + 1 + 2) + 32 + 8 * opn : Nat) : Int)) ∧ w' = w6.drewN n := fun n => by
    obtain ⟨O6, o1, _, _⟩ := H6
    have := storedBits_same g opn (.pointer va) _ t O6 (w6.drewN n) g6 (isW_keep _ _ _ _ _ _ o1 (Nat.le_refl _) (fun _ _ => rfl)) (by rw [hLl]; omega) (by omega)
    rwa [hLl] at this
  obtain ⟨S, eS⟩ : ∃ S, padOf (l.length + 1 + 2) + 32 + 8 * opn = S := ⟨_, rfl⟩
  rw [eS] at HFEW KSB
  have hul := listed_length hBy
  obtain ⟨uo, uc, eu⟩ := hul
  rw [hBl] at eu
  subst eu
  have H6' := Lib.hid H6
  have HLL := Lib.hid hLl
  clear KP H6 hY hW5 hK5 hb5 hBy hPy g5 j1 hgOB hqOB hYs hub hpub hB8 hBl hPl hfit hsp hspl eS g0 b0 n0 hLl
  by_cases hSF : S < F
  · have d1 : decide ((S : Int) < (F : Int)) = true := decide_eq_true (by omega)
    have d1n : decide (S < F) = true := decide_eq_true hSF
    go_wp2_with fail
    go_quiet ((go_at_call 70; exact Calls.quiet_of_same (KSB _)))
    go_wp2_with fail
    obtain ⟨hY, hW5, hK5, hb5, hBy, hPy, g5, j1, hgOB, hqOB, hYs⟩ := HY.out
    obtain ⟨hub, hpub, hB8, hBl, hPl, hfit, hsp, hspl⟩ := HBB.out
    have H7 : Went w5 OB (.pointer va) t (l ++ bitsOf last 1) (w6.drewN nq) := by
      obtain ⟨O6, o1, o2, o3⟩ := H6'.out
      exact ⟨O6, isW_keep _ _ _ _ _ _ o1 (Nat.le_refl _) (fun _ _ => rfl), o2, ⟨o3.os, o3.tape, o3.output, o3.size, o3.block⟩⟩
    have hB7 : bytesIn (w6.drewN nq) (.slice uo opn uc) B := listed_past hBy H7.past (fun b hb h => (hub b hb).2 h)
    have KST := H7.store g (.slice uo opn uc) B g6 ⟨by have := HLT.out; omega, hgOB⟩ hB7 hB8 (fun b hb => ⟨by have := (hub b hb).1; omega, (hub b hb).2⟩) (by rw [HLL.out]; omega) (by rw [hBl]; omega)
    clear hY hW5 hK5 hb5 hBy hPy j1 hgOB hqOB hYs hub hpub hB8 hBl hPl hfit hsp hspl g5 H7 hB7
    refine KST.mono ?_
    rintro e w8 ⟨rfl, R8⟩
    have hst : storedOf (l ++ bitsOf last 1) B = storedBlock l B last := rfl
    rw [hst] at R8
    obtain ⟨hY, hW5, hK5, hb5, hBy, hPy, g5, j1, hgOB, hqOB, hYs⟩ := HY.out
    have hK8 : isK w8 g (.pointer va) zs first opn OK := isK_keep hK5 (fun k hk => R8.past.block k (isK_lt hK5 k hk) (fun h => HAP.out k h hk))
    have hb8 := R8.cell (cell_of_block hb5 0) (hqOB _ (Nat.le_refl _))
    have KF := forget_code g (.pointer va) zs first 0 _ OK (isK_open hK8 0) H8.out (by rw [EL.out]; exact hz) (by omega)
    have HEND := Lib.hid (block_end (g := g) (va := va) hY R8 hK8 HAP.out (fun k h => isW_lt _ _ _ _ _ HW.out k h) (fun k h => isK_lt HK.out k h) (isK_g HK.out))
    obtain ⟨s8, t8, mb8, st8, D8, hk8, _⟩ := hK8
    have c5 := cell_of_block hk8.blk 5
    have f5 := unfrozen_of_block hk8.blk 5
    rw [EL.out] at KF
    clear hY hW5 hK5 hb5 hBy hPy g5 j1 hgOB hqOB hYs hk8 R8
    go_wp2_with fail
    go_at_call 73
    refine KF.mono ?_
    rintro e w9 ⟨rfl, O9, j1, j2, j3⟩
    have hfin := HEND.out w9 O9 _ _ j1 j2 j3
    go_wp2_with fail
    refine bodyPost_end (v := .tuple #[]) (by simp [results, Try.results55, go_sem]) rfl ⟨rfl, ?_⟩
    rw [HBO.out, if_pos (HFEW.out.1 hSF)]
    exact hfin
  · have d1 : decide ((S : Int) < (F : Int)) = false := decide_eq_false (by omega)
    have d1n : decide (S < F) = false := decide_eq_false hSF
    go_wp2_with fail
    go_quiet ((go_at_call 70; exact Calls.quiet_of_same (KSB _)))
    go_wp2_with fail
    obtain ⟨hY, hW5, hK5, hb5, hBy, hPy, g5, j1, hgOB, hqOB, hYs⟩ := HY.out
    have H7 : Went w5 OB (.pointer va) t (l ++ bitsOf last 1) (w6.drewN nq) := by
      obtain ⟨O6, o1, o2, o3⟩ := H6'.out
      exact ⟨O6, isW_keep _ _ _ _ _ _ o1 (Nat.le_refl _) (fun _ _ => rfl), o2, ⟨o3.os, o3.tape, o3.output, o3.size, o3.block⟩⟩
    have KP7 := H7.put 1 2 (by rw [HLL.out]; omega) (by omega) (by decide)
    clear hY hW5 hK5 hb5 hBy hPy j1 hgOB hqOB hYs g5 H7
    go_at_call 69
    refine KP7.mono ?_
    rintro e w7 ⟨rfl, H7⟩
    obtain ⟨hY, hW5, hK5, hb5, hBy, hPy, g5, j1, hgOB, hqOB, hYs⟩ := HY.out
    obtain ⟨hub, hpub, hB8, hBl, hPl, hfit, hsp, hspl⟩ := HBB.out
    have g7 := H7.cell g5 hgOB
    have b7 := H7.cell (cell_of_block hb5 0) (hqOB _ (Nat.le_refl _))
    have hB7 : bytesIn w7 (.slice uo opn uc) B := listed_past hBy H7.past (fun b hb h => (hub b hb).2 h)
    have hpO : ∀ b, inBlock pv b → b < w5.heap.size ∧ ¬ OB b := fun b hb => ⟨by have := (hpub b hb).2; omega, hqOB b (by have := (hpub b hb).1; omega)⟩
    have hP7 : partsIn w7 pv P := partsIn_keep hPy H7.past.size (fun b hb => H7.past.block b (hpO b hb).1 (hpO b hb).2)
    have KSP := H7.spell W.heap.size g (.slice uo opn uc) pv B P b7 g7 ⟨by omega, hqOB _ (Nat.le_refl _)⟩ ⟨by have := HLT.out; omega, hgOB⟩ hB7 hB8 (fun b hb => ⟨by have := (hub b hb).1; omega, (hub b hb).2⟩) hP7 hpO hfit (by omega) (by omega) (by rw [List.length_append, List.length_append, HLL.out, bitsOf_length]; omega)
    have hfx : l ++ bitsOf last 1 ++ bitsOf 1 2 ++ spelt B P = fixedBlock l (tokens zs a len) last := by
      rw [hsp]
      unfold fixedBlock
      simp only [List.append_assoc]
    rw [hfx] at KSP
    clear hY hW5 hK5 hb5 hBy hPy j1 hgOB hqOB hYs hub hpub hB8 hBl hPl hfit hsp hspl g5 H7 hB7 hpO hP7 hfx g6 b6 n6
    go_wp2_with fail
    go_at_call 67
    refine KSP.mono ?_
    rintro e w8 ⟨rfl, R8⟩
    obtain ⟨hY, hW5, hK5, hb5, hBy, hPy, g5, j1, hgOB, hqOB, hYs⟩ := HY.out
    have hK8 : isK w8 g (.pointer va) zs first opn OK := isK_keep hK5 (fun k hk => R8.past.block k (isK_lt hK5 k hk) (fun h => HAP.out k h hk))
    have hb8 := R8.cell (cell_of_block hb5 0) (hqOB _ (Nat.le_refl _))
    have KF := forget_code g (.pointer va) zs first 0 _ OK (isK_open hK8 0) H8.out (by rw [EL.out]; exact hz) (by omega)
    have HEND := Lib.hid (block_end (g := g) (va := va) hY R8 hK8 HAP.out (fun k h => isW_lt _ _ _ _ _ HW.out k h) (fun k h => isK_lt HK.out k h) (isK_g HK.out))
    obtain ⟨s8, t8, mb8, st8, D8, hk8, _⟩ := hK8
    have c5 := cell_of_block hk8.blk 5
    have f5 := unfrozen_of_block hk8.blk 5
    rw [EL.out] at KF
    clear hY hW5 hK5 hb5 hBy hPy g5 j1 hgOB hqOB hYs hk8 R8
    go_wp2_with fail
    go_at_call 73
    refine KF.mono ?_
    rintro e w9 ⟨rfl, O9, j1, j2, j3⟩
    have hfin := HEND.out w9 O9 _ _ j1 j2 j3
    go_wp2_with fail
    refine bodyPost_end (v := .tuple #[]) (by simp [results, Try.results55, go_sem]) rfl ⟨rfl, ?_⟩
    rw [HBO.out, if_neg (fun h => hSF (HFEW.out.2 h))]
    exact hfin
end Go.Proofs.Ytefdlidjdmlnaaa.Fx
namespace Go.Proofs.Ytefdlidjdmlnaaa.Fx
open Go Go.RowKit Go.Joins Go.Maps
set_option linter.unusedVariables false
/-! ### Blocks of a window are blocks of all bytes -/
theorem blockOf_drop (l : List Bool) (b : List Nat) (x a up last : Nat) (hx : x = 0 ∨ 32768 ≤ a) : blockOf l (b.drop x) a up last = blockOf l b (x + a) (x + up) last := by
  unfold blockOf
  have e : ((b.drop x).take up).drop a = (b.take (x + up)).drop (x + a) := by
    apply List.ext_getElem?
    intro i
    simp only [List.getElem?_drop, List.getElem?_take]
    by_cases h : a + i < up
    · rw [if_pos h, if_pos (by omega), Nat.add_assoc]
    · rw [if_neg h, if_neg (by omega)]
  rw [e, tokens_drop b x a up hx]
/-- From which place on the window has the bytes, when J blocks are done. -/
def firstOf (J : Nat) : Nat := 4096 * J - 32768
theorem block_next (all : List Nat) (J : Nat) (h : all.length = 4096 * (J + 1)) : blockOf (blocksOf all J) (all.drop (firstOf J)) ((all.drop (firstOf J)).length - (all.length - 4096 * J)) (all.drop (firstOf J)).length 0 = blocksOf all (J + 1) := by
  have hl : (all.drop (firstOf J)).length = all.length - firstOf J := List.length_drop ..
  have hf : firstOf J ≤ 4096 * J := by unfold firstOf; omega
  rw [hl, blockOf_drop _ _ _ _ _ _ (by unfold firstOf; omega), show firstOf J + (all.length - firstOf J - (all.length - 4096 * J)) = 4096 * J by omega, show firstOf J + (all.length - firstOf J) = 4096 * (J + 1) by omega]
  rfl
theorem block_last (all : List Nat) (J : Nat) (h : 4096 * J ≤ all.length) (l : List Bool) (last : Nat) : blockOf l (all.drop (firstOf J)) ((all.drop (firstOf J)).length - (all.length - 4096 * J)) (all.drop (firstOf J)).length last = blockOf l all (4096 * J) all.length last := by
  have hl : (all.drop (firstOf J)).length = all.length - firstOf J := List.length_drop ..
  have hf : firstOf J ≤ 4096 * J := by unfold firstOf; omega
  rw [hl, blockOf_drop _ _ _ _ _ _ (by unfold firstOf; omega), show firstOf J + (all.length - firstOf J - (all.length - 4096 * J)) = 4096 * J by omega, show firstOf J + (all.length - firstOf J) = all.length by omega]
theorem first_next (all : List Nat) (J : Nat) (h : all.length = 4096 * (J + 1)) : (all.drop (firstOf J)).drop ((all.drop (firstOf J)).length - 32768) = all.drop (firstOf (J + 1)) ∧ firstOf J + ((all.drop (firstOf J)).length - 32768) = firstOf (J + 1) := by
  have e : firstOf J + ((all.drop (firstOf J)).length - 32768) = firstOf (J + 1) := by
    rw [List.length_drop]
    unfold firstOf
    omega
  refine ⟨?_, e⟩
  rw [List.drop_drop, e]
/-! ### A packer since a world -/
def RunP (W : World) (O : Nat → Prop) (g : Nat) (v : Value) (t : Nat) (l : List Bool) (zs : List Nat) (first opn : Nat) (w : World) : Prop :=
  ∃ O', Pack w g v l t zs first opn O' ∧ (∀ b, O' b → O b ∨ W.heap.size ≤ b) ∧ Past O W w
theorem RunP.past {W w : World} {O : Nat → Prop} {g : Nat} {v : Value} {t : Nat} {l : List Bool} {zs : List Nat} {first opn : Nat} (h : RunP W O g v t l zs first opn w) : Past O W w := by
  obtain ⟨_, _, _, h⟩ := h
  exact h
theorem Pack.cells {w : World} {g : Nat} {v : Value} {l : List Bool} {t : Nat} {zs : List Nat} {first opn : Nat} {O : Nat → Prop} (h : Pack w g v l t zs first opn O) : w.cell? ⟨g, 0, none⟩ = some v ∧ w.cell? ⟨g, 5, none⟩ = some (.int .i64 (opn : Int)) ∧ w.cell? ⟨g, 6, none⟩ = some (.bool false) ∧ (∀ j, w.frozen? ⟨g, j, none⟩ = false) ∧ g < w.heap.size := by
  obtain ⟨OB, OK, h1, ⟨s, tv, mb, st, D, hk, _⟩, _⟩ := h
  obtain ⟨q0, q1, q2, q3, q4, q5, q6⟩ := hk.cells
  exact ⟨q0, q5, q6, fun j => unfrozen_of_block hk.blk j, hk.glt⟩
theorem RunP.cells {W w : World} {O : Nat → Prop} {g : Nat} {v : Value} {t : Nat} {l : List Bool} {zs : List Nat} {first opn : Nat} (h : RunP W O g v t l zs first opn w) : w.cell? ⟨g, 0, none⟩ = some v ∧ w.cell? ⟨g, 5, none⟩ = some (.int .i64 (opn : Int)) ∧ w.cell? ⟨g, 6, none⟩ = some (.bool false) ∧ (∀ j, w.frozen? ⟨g, j, none⟩ = false) ∧ g < w.heap.size := by
  obtain ⟨_, h, _⟩ := h
  exact h.cells
theorem RunP.on {W w w' : World} {O : Nat → Prop} {g : Nat} {v : Value} {t : Nat} {l : List Bool} {zs : List Nat} {first opn : Nat} {O1 O2 : Nat → Prop} (h1 : ∀ b, O1 b → O b ∨ W.heap.size ≤ b) (h2 : Past O W w) (k1 : Pack w' g v l t zs first opn O2) (k2 : ∀ b, O2 b → O1 b ∨ w.heap.size ≤ b) (k3 : Past O1 w w') : RunP W O g v t l zs first opn w' :=
  ⟨O2, k1, fun b hb => (k2 b hb).elim (fun h => h1 b h) (fun h => .inr (Nat.le_trans h2.size h)), h2.trans k3 h1⟩
theorem RunP.drew {W w : World} {O : Nat → Prop} {g : Nat} {v : Value} {t : Nat} {l : List Bool} {zs : List Nat} {first opn : Nat} (h : RunP W O g v t l zs first opn w) : RunP W O g v t l zs first opn w.drew := by
  obtain ⟨O1, ⟨OB, OK, h1, h2, h3, h4⟩, k2, k3⟩ := h
  exact ⟨O1, ⟨OB, OK, isW_keep _ _ _ _ _ _ h1 (Nat.le_refl _) (fun _ _ => rfl), isK_keep h2 (fun _ _ => rfl), h3, h4⟩, k2, ⟨k3.os, k3.tape, k3.output, k3.size, k3.block⟩⟩
theorem RunP.block {W w : World} {O : Nat → Prop} {g : Nat} {v : Value} {t : Nat} {l : List Bool} {zs : List Nat} {first opn : Nat} (h : RunP W O g v t l zs first opn w) (last : Nat) (h8 : ∀ x ∈ zs, x < 256) (ho : opn ≤ zs.length) (ho2 : opn ≤ 4096) (hz : zs.length ≤ 65536) (hl : l.length ≤ 1000000000000) (hf : first ≤ 1000000000000) (hlast : last < 2) :
    Calls Try.prog 55 #[.pointer (some ⟨g, 0, none⟩), .int .u32 (last : Int)] w fun e w' => e = .returned (.tuple #[]) ∧ RunP W O g v t (blockOf l zs (zs.length - opn) zs.length last) (zs.drop (zs.length - 32768)) (first + (zs.length - 32768)) 0 w' := by
  obtain ⟨O1, k1, k2, k3⟩ := h
  refine (block_code g v l t zs first opn last O1 w k1 h8 ho ho2 hz hl hf hlast).mono ?_
  rintro e w' ⟨rfl, O2, j1, j2, j3⟩
  exact ⟨rfl, RunP.on (l := blockOf l zs (zs.length - opn) zs.length last) k2 k3 j1 j2 j3⟩
theorem RunP.add {W w : World} {O : Nat → Prop} {g : Nat} {v : Value} {t : Nat} {l : List Bool} {zs : List Nat} {first opn : Nat} (h : RunP W O g v t l zs first opn w) (bv : Value) (xs : List Nat) (hb : bytesIn w bv xs) (h8 : ∀ x ∈ zs ++ xs, x < 256) (hbO : ∀ b, inBlock bv b → b < W.heap.size ∧ ¬ O b) (hl : (zs ++ xs).length ≤ 65536) (hf : first ≤ 1099511627776) :
    Calls Try.prog 56 #[.pointer (some ⟨g, 1, none⟩), bv] w fun e w' => e = .returned (.tuple #[]) ∧ RunP W O g v t l (zs ++ xs) first opn w' := by
  obtain ⟨O1, ⟨OB, OK, h1, h2, h3, rfl⟩, k2, k3⟩ := h
  refine (add_code g v bv zs xs first opn w OK h2 hb h8 (fun b hb h => (k2 b (.inr h)).elim (hbO b hb).2 (fun h => by have := (hbO b hb).1; omega)) hl hf).mono ?_
  rintro e w' ⟨rfl, O2, j1, j2, j3⟩
  have hlt := isW_lt _ _ _ _ _ h1
  refine ⟨rfl, _, ⟨OB, O2, isW_keep _ _ _ _ _ _ h1 j3.size (fun k hk => j3.block k (hlt k hk) (h3 k hk)), j1, fun k hk hk2 => (j2 k hk2).elim (h3 k hk) (fun h => by have := hlt k hk; omega), rfl⟩, fun b hb => ?_, k3.trans j3 (fun b hb => k2 b (.inr hb))⟩
  rcases hb with hb | hb
  · exact k2 b (.inl hb)
  · rcases j2 b hb with h | h
    · exact k2 b (.inr h)
    · exact .inr (Nat.le_trans k3.size h)
theorem RunP.open_ {W w : World} {O : Nat → Prop} {g : Nat} {v : Value} {t : Nat} {l : List Bool} {zs : List Nat} {first opn : Nat} (h : RunP W O g v t l zs first opn w) (n : Nat) : RunP W O g v t l zs first n (w.setCell ⟨g, 5, none⟩ (.int .i64 (n : Int))) := by
  obtain ⟨O1, ⟨OB, OK, h1, h2, h3, rfl⟩, k2, k3⟩ := h
  have hg := isK_g h2
  have hset : Past OK w (w.setCell ⟨g, 5, none⟩ (.int .i64 (n : Int))) := ⟨rfl, rfl, rfl, by simp, fun k hk hn => Below.heap_setCell _ _ _ k (fun e => hn (by have e : k = g := e; rw [e]; exact hg))⟩
  exact ⟨_, ⟨OB, OK, isW_keep _ _ _ _ _ _ h1 hset.size (fun k hk => hset.block k (isW_lt _ _ _ _ _ h1 k hk) (h3 k hk)), isK_open h2 n, h3, rfl⟩, k2, k3.trans hset (fun b hb => k2 b (.inr hb))⟩
/-! ### A writer's state -/
/-- A packer that has J blocks of all bytes out. -/
def Mid (W : World) (O : Nat → Prop) (g : Nat) (v : Value) (t : Nat) (all : List Nat) (J : Nat) (w : World) : Prop :=
  RunP W O g v t (blocksOf all J) (all.drop (firstOf J)) (firstOf J) (all.length - 4096 * J) w
theorem Mid.block {W w : World} {O : Nat → Prop} {g : Nat} {v : Value} {t : Nat} {all : List Nat} {J : Nat} (h : Mid W O g v t all J w) (h8 : ∀ x ∈ all, x < 256) (hJ : all.length = 4096 * (J + 1)) (hl : all.length ≤ 1000000000) :
    Calls Try.prog 55 #[.pointer (some ⟨g, 0, none⟩), .int .u32 0] w fun e w' => e = .returned (.tuple #[]) ∧ Mid W O g v t all (J + 1) w' := by
  have hb := blocksOf_length all J (by omega)
  have hdl : (all.drop (firstOf J)).length = all.length - firstOf J := List.length_drop ..
  have hf : firstOf J = 4096 * J - 32768 := rfl
  refine (RunP.block h 0 (fun x hx => h8 x (List.mem_of_mem_drop hx)) (by rw [hdl]; omega) (by omega) (by rw [hdl]; omega) (by omega) (by omega) (by decide)).mono ?_
  rintro e w' ⟨rfl, k⟩
  obtain ⟨n1, n2⟩ := first_next all J hJ
  rw [block_next all J hJ, n1, n2] at k
  refine ⟨rfl, ?_⟩
  unfold Mid
  rw [show all.length - 4096 * (J + 1) = 0 by omega]
  exact k
theorem Mid.last {W w : World} {O : Nat → Prop} {g : Nat} {v : Value} {t : Nat} {all : List Nat} {J : Nat} (h : Mid W O g v t all J w) (h8 : ∀ x ∈ all, x < 256) (hJ : 4096 * J ≤ all.length) (hJ2 : all.length ≤ 4096 * (J + 1)) (hl : all.length ≤ 1000000000) :
    Calls Try.prog 55 #[.pointer (some ⟨g, 0, none⟩), .int .u32 1] w fun e w' => e = .returned (.tuple #[]) ∧ ∃ zs f, RunP W O g v t (blockOf (blocksOf all J) all (4096 * J) all.length 1) zs f 0 w' := by
  have hb := blocksOf_length all J (by omega)
  have hdl : (all.drop (firstOf J)).length = all.length - firstOf J := List.length_drop ..
  have hf : firstOf J = 4096 * J - 32768 := rfl
  refine (RunP.block h 1 (fun x hx => h8 x (List.mem_of_mem_drop hx)) (by rw [hdl]; omega) (by omega) (by rw [hdl]; omega) (by omega) (by omega) (by decide)).mono ?_
  rintro e w' ⟨rfl, k⟩
  rw [block_last all J hJ] at k
  exact ⟨rfl, _, _, k⟩
theorem Mid.add {W w : World} {O : Nat → Prop} {g : Nat} {v : Value} {t : Nat} {all : List Nat} {J : Nat} (h : Mid W O g v t all J w) (bv : Value) (xs : List Nat) (hb : bytesIn w bv xs) (h8 : ∀ x ∈ all ++ xs, x < 256) (hbO : ∀ b, inBlock bv b → b < W.heap.size ∧ ¬ O b) (hJ : 4096 * J ≤ all.length) (hJ2 : all.length + xs.length ≤ 4096 * (J + 1)) (hl : all.length ≤ 1000000000) :
    Calls Try.prog 56 #[.pointer (some ⟨g, 1, none⟩), bv] w fun e w' => e = .returned (.tuple #[]) ∧ (w'.cell? ⟨g, 5, none⟩ = some (.int .i64 ((all.length - 4096 * J : Nat) : Int)) ∧ w'.frozen? ⟨g, 5, none⟩ = false) ∧ Past O W w' ∧ Mid W O g v t (all ++ xs) J (w'.setCell ⟨g, 5, none⟩ (.int .i64 (((all ++ xs).length - 4096 * J : Nat) : Int))) := by
  have hf : firstOf J = 4096 * J - 32768 := rfl
  have hd : (all ++ xs).drop (firstOf J) = all.drop (firstOf J) ++ xs := by rw [List.drop_append_of_le_length (by omega)]
  refine (RunP.add h bv xs hb (fun x hx => ?_) hbO ?_ (by omega)).mono ?_
  · rw [← hd] at hx
    exact h8 x (List.mem_of_mem_drop hx)
  · rw [← hd, List.length_drop, List.length_append]
    omega
  · rintro e w' ⟨rfl, k⟩
    obtain ⟨q0, q5, q6, fr, _⟩ := k.cells
    refine ⟨rfl, ⟨q5, fr 5⟩, k.past, ?_⟩
    have := k.open_ ((all ++ xs).length - 4096 * J)
    rw [← hd, ← blocksOf_local all xs J hJ] at this
    exact this
/-- A writer: all bytes that were written to it, in which blocks of memory it lies. -/
def isDW (w : World) (v : Value) (all : List Nat) (O : Nat → Prop) : Prop :=
  ∃ h g ov OP, v = .pointer (some ⟨h, 0, none⟩) ∧ w.heap[h]? = some (.cells #[.pointer (some ⟨g, 0, none⟩)] 107 (0, 0)) ∧ Mid w OP g ov ((outOf all).length / 8) all (fullOf all.length) w ∧ Pack w g ov (outOf all) ((outOf all).length / 8) (all.drop (firstOf (fullOf all.length))) (firstOf (fullOf all.length)) (all.length - 4096 * fullOf all.length) OP ∧ ¬ OP h ∧ O = fun k => k = h ∨ OP k
/-- A writer that has ended. -/
def isDE (w : World) (v : Value) (O : Nat → Prop) : Prop :=
  ∃ h g, v = .pointer (some ⟨h, 0, none⟩) ∧ w.heap[h]? = some (.cells #[.pointer (some ⟨g, 0, none⟩)] 107 (0, 0)) ∧ (∃ cs ty, w.heap[g]? = some (.cells cs ty (0, 0)) ∧ cs[6]? = some (.bool true)) ∧ O = fun k => k = h ∨ k = g
theorem Pack.lt {w : World} {g : Nat} {v : Value} {l : List Bool} {t : Nat} {zs : List Nat} {first opn : Nat} {O : Nat → Prop} (h : Pack w g v l t zs first opn O) : ∀ k, O k → k < w.heap.size := by
  obtain ⟨OB, OK, h1, h2, h3, rfl⟩ := h
  rintro k (hk | hk)
  · exact isW_lt _ _ _ _ _ h1 k hk
  · exact isK_lt h2 k hk
theorem Pack.keep {w w' : World} {g : Nat} {v : Value} {l : List Bool} {t : Nat} {zs : List Nat} {first opn : Nat} {O : Nat → Prop} (h : Pack w g v l t zs first opn O) (hs : w.heap.size ≤ w'.heap.size) (hk : ∀ k, O k → w'.heap[k]? = w.heap[k]?) : Pack w' g v l t zs first opn O := by
  obtain ⟨OB, OK, h1, h2, h3, rfl⟩ := h
  exact ⟨OB, OK, isW_keep _ _ _ _ _ _ h1 hs (fun k h => hk k (.inl h)), isK_keep h2 (fun k h => hk k (.inr h)), h3, rfl⟩
theorem Pack.run {w : World} {g : Nat} {v : Value} {l : List Bool} {t : Nat} {zs : List Nat} {first opn : Nat} {O : Nat → Prop} (h : Pack w g v l t zs first opn O) : RunP w O g v t l zs first opn w := ⟨O, h, fun b hb => .inl hb, Past.refl _ _⟩
theorem isDW_mk {w : World} {h g : Nat} {ov : Value} {all : List Nat} {OP : Nat → Prop} (h1 : w.heap[h]? = some (.cells #[.pointer (some ⟨g, 0, none⟩)] 107 (0, 0))) (h2 : Pack w g ov (outOf all) ((outOf all).length / 8) (all.drop (firstOf (fullOf all.length))) (firstOf (fullOf all.length)) (all.length - 4096 * fullOf all.length) OP) (h3 : ¬ OP h) : isDW w (.pointer (some ⟨h, 0, none⟩)) all (fun k => k = h ∨ OP k) :=
  ⟨h, g, ov, OP, rfl, h1, h2.run, h2, h3, rfl⟩
theorem isDW_lt (w : World) (v : Value) (all : List Nat) (O : Nat → Prop) (h : isDW w v all O) : ∀ k, O k → k < w.heap.size := by
  obtain ⟨h, g, ov, OP, _, h1, _, h2, _, rfl⟩ := h
  rintro k (rfl | hk)
  · exact (Array.getElem?_eq_some_iff.1 h1).1
  · exact h2.lt k hk
theorem isDW_keep (w w' : World) (v : Value) (all : List Nat) (O : Nat → Prop) (h : isDW w v all O) (hs : w.heap.size ≤ w'.heap.size) (hk : ∀ k, O k → w'.heap[k]? = w.heap[k]?) : isDW w' v all O := by
  obtain ⟨h, g, ov, OP, rfl, h1, _, h2, h3, rfl⟩ := h
  exact isDW_mk ((hk h (.inl rfl)).trans h1) (h2.keep hs (fun k hk' => hk k (.inr hk'))) h3
theorem isDE_lt (w : World) (v : Value) (O : Nat → Prop) (h : isDE w v O) : ∀ k, O k → k < w.heap.size := by
  obtain ⟨h, g, _, h1, ⟨cs, ty, h2, _⟩, rfl⟩ := h
  rintro k (rfl | rfl)
  · exact (Array.getElem?_eq_some_iff.1 h1).1
  · exact (Array.getElem?_eq_some_iff.1 h2).1
theorem isDE_keep (w w' : World) (v : Value) (O : Nat → Prop) (h : isDE w v O) (hk : ∀ k, O k → w'.heap[k]? = w.heap[k]?) : isDE w' v O := by
  obtain ⟨h, g, hv, h1, ⟨cs, ty, h2, h3⟩, rfl⟩ := h
  exact ⟨h, g, hv, (hk h (.inl rfl)).trans h1, ⟨cs, ty, (hk g (.inr rfl)).trans h2, h3⟩, rfl⟩
end Go.Proofs.Ytefdlidjdmlnaaa.Fx
