/-
  Write, as landed. The conditions stand in it.
  End, New, writers that no call made or that have ended, as landed. The conditions stand in each.
  slices.Grow of nothing, slices.Concat of two lists of bytes, Whole, as landed. The conditions stand in each.
-/
import Derived.Test.YtefdlidjdmlnaaaWinN
import Derived.Lib.AppendZerosOnto
namespace Go.Proofs.Ytefdlidjdmlnaaa.Fx
open Go Go.RowKit Go.Joins Go.Maps
set_option linter.unusedVariables false
/-- A writer whose packer is there: whether it has ended. -/
theorem state_code (h g : Nat) (b : Bool) (w : World) (hh : w.cell? ⟨h, 0, none⟩ = some (.pointer (some ⟨g, 0, none⟩))) (hg : w.cell? ⟨g, 6, none⟩ = some (.bool b)) :
    Calls Try.prog 54 #[.pointer (some ⟨h, 0, none⟩)] w fun e w' => e = .returned (.int .i64 (if b then 23 else 0)) ∧ w = w' := by
  cases b with
  | true =>
    go_enter Try.func54, Try.ntmps54
    go_wp2_with fail
    go_ret
    first | exact ⟨rfl, rfl⟩ | simp
  | false =>
    go_enter Try.func54, Try.ntmps54
    go_wp2_with fail
    go_ret
    first | exact ⟨rfl, rfl⟩ | simp
/-- No writer, or one without a packer. -/
theorem stateNone_code (w : World) : Calls Try.prog 54 #[.pointer none] w fun e w' => e = .returned (.int .i64 1) ∧ w = w' := by
  go_enter Try.func54, Try.ntmps54
  go_wp2_with fail
  go_ret
  first | exact ⟨rfl, rfl⟩ | simp
theorem stateBare_code (h : Nat) (w : World) (hh : w.cell? ⟨h, 0, none⟩ = some (.pointer none)) : Calls Try.prog 54 #[.pointer (some ⟨h, 0, none⟩)] w fun e w' => e = .returned (.int .i64 1) ∧ w = w' := by
  go_enter Try.func54, Try.ntmps54
  go_wp2_with fail
  go_ret
  first | exact ⟨rfl, rfl⟩ | simp
def lenV : Value → Nat
  | .slice _ n _ => n
  | _ => 0
theorem fullOf_is {n J : Nat} (h1 : 4096 * J < n) (h2 : n ≤ 4096 * (J + 1)) : fullOf n = J := by
  unfold fullOf
  omega
theorem RunP.take {W w : World} {O : Nat → Prop} {g : Nat} {v : Value} {t : Nat} {l : List Bool} {zs : List Nat} {first opn : Nat} (h : RunP W O g v t l zs first opn w) (hl : l.length ≤ 1099511627776) (ht : 8 * t ≤ l.length) :
    Calls Try.prog 57 #[v] w fun e w' => ∃ u O', e = .returned u ∧ bytesIn w' u (bytesAt l t (l.length / 8 - t)) ∧ Pack w' g v l (l.length / 8) zs first opn O' ∧ (∀ b, inBlock u b → (O b ∨ W.heap.size ≤ b) ∧ ¬ O' b) ∧ (∀ b, O' b → O b ∨ W.heap.size ≤ b) ∧ Past O W w' := by
  obtain ⟨O1, ⟨OB, OK, h1, h2, h3, rfl⟩, k2, k3⟩ := h
  refine (take_code w v l t OB h1 hl ht).mono ?_
  rintro e w' ⟨u, OB', rfl, j1, j2, j3, j4, j5⟩
  have hltK := isK_lt h2
  refine ⟨u, _, rfl, j1, ⟨OB', OK, j3, isK_keep h2 (fun k hk => j5.block k (hltK k hk) (fun h => h3 k h hk)), fun k hk hk2 => (j4 k hk).elim (fun h => h3 k h hk2) (fun h => by have := hltK k hk2; omega), rfl⟩, fun b hb => ?_, fun b hb => ?_, k3.trans j5 (fun b hb => k2 b (.inl hb))⟩
  · obtain ⟨a1, a2⟩ := j2 b hb
    refine ⟨a1.elim (fun h => k2 b (.inl h)) (fun h => .inr (Nat.le_trans k3.size h)), fun h => h.elim a2 (fun h => ?_)⟩
    rcases a1 with a1 | a1
    · exact h3 b a1 h
    · have := hltK b h
      omega
  · rcases hb with hb | hb
    · exact (j4 b hb).elim (fun h => k2 b (.inl h)) (fun h => .inr (Nat.le_trans k3.size h))
    · exact k2 b (.inr hb)
/-- A writer's bytes once a call has been made. -/
def Wrote (W : World) (O : Nat → Prop) (v : Value) (all zs : List Nat) (e : Ending) (w' : World) : Prop :=
  ∃ u O', e = .returned (.tuple #[u, .int .i64 0]) ∧ bytesIn w' u (bytesAt (outOf (all ++ zs)) ((outOf all).length / 8) ((outOf (all ++ zs)).length / 8 - (outOf all).length / 8)) ∧ (∀ b, inBlock u b → (O b ∨ W.heap.size ≤ b) ∧ ¬ O' b) ∧ isDW w' v (all ++ zs) O' ∧ (∀ b, O' b → O b ∨ W.heap.size ≤ b) ∧ Past O W w'
theorem outOf_len (all : List Nat) : (outOf all).length ≤ 8 * (all.length + 5 * (all.length / 4096 + 1)) := by
  have := blocksOf_length all (fullOf all.length) (fullOf_le _)
  unfold outOf
  have h2 : fullOf all.length ≤ all.length / 4096 := by unfold fullOf; omega
  have h3 := fullOf_le all.length
  omega
set_option maxHeartbeats 4000000 in
set_option maxRecDepth 100000 in
theorem write_code (W : World) (v bv : Value) (all zs : List Nat) (O : Nat → Prop) (hd : isDW W v all O) (hb : bytesIn W bv zs) (h8 : ∀ x ∈ all ++ zs, x < 256) (hbO : ∀ b, inBlock bv b → ¬ O b) (hl : (all ++ zs).length ≤ 100000000) :
    Calls Try.prog 36 #[v, bv] W (Wrote W O v all zs) := by
  obtain ⟨h, g, ov, OP, rfl, hh, hmid, hpack, hne, rfl⟩ := hd
  obtain ⟨q0, q5, q6, _, hglt⟩ := hpack.cells
  have hh0 := cell_of_block hh 0
  obtain ⟨OB, OK, hw, _⟩ := id hpack
  obtain ⟨va, rfl⟩ := isW_ptr hw
  have KS := fun (w : World) a b => state_code h g false w a b
  have hst := KS W hh0 q6
  have HH := Lib.hid hh
  have HNE := Lib.hid hne
  have H8 := Lib.hid h8
  have HPK := Lib.hid hpack
  have hblt : ∀ b, inBlock bv b → b < W.heap.size ∧ ¬ OP b := fun b hb' => ⟨inBlock_lt hb hb', fun h => hbO b hb' (.inr h)⟩
  have HBL := Lib.hid hblt
  have HM0 : Hid (Mid W OP g (.pointer va) ((outOf all).length / 8) (all ++ zs.take 0) (fullOf (all ++ zs.take 0).length) W) := by
    show Mid _ _ _ _ _ _ _ _
    rw [List.take_zero, List.append_nil]
    exact hmid
  have HB0 : Hid (bytesIn W bv (zs.drop 0)) := hb
  obtain ⟨bo, bc, rfl⟩ := listed_length hb
  have HL := Lib.hid hl
  obtain ⟨T, eT⟩ : ∃ T, (outOf all).length / 8 = T := ⟨_, rfl⟩
  have ET := Lib.hid eT
  rw [eT] at HM0
  clear hh hmid hpack hne hb h8 hbO hl hw hblt eT KS
  go_enter Try.func36, Try.ntmps36
  go_wp2_with fail
  go_at_call 54
  refine hst.mono ?_
  rintro e w' ⟨rfl, rfl⟩
  clear hst
  go_wp2_with fail
  have HH0 := Lib.hid (cell_of_block HH.out 0 : W.cell? ⟨h, 0, none⟩ = some (.pointer (some ⟨g, 0, none⟩)))
  have HHL := Lib.hid (Array.getElem?_eq_some_iff.1 HH.out).1
  clear q0 q5 q6 hh0
  go_loopw [1] (fun s1 wr => ∃ k : Nat, k ≤ zs.length ∧ Hid (bytesIn W s1 (zs.drop k)) ∧ Hid (∀ b, inBlock s1 b → b < W.heap.size ∧ ¬ OP b) ∧ Hid (Mid W OP g (.pointer va) T (all ++ zs.take k) (fullOf (all ++ zs.take k).length) wr)) (fun s1 _ => lenV s1)
  case atStart => exact ⟨0, Nat.zero_le _, HB0, HBL, HM0⟩
  case round =>
    obtain ⟨k, hk, hr, hbk, hM⟩ := hrel
    obtain ⟨c0, c5, c6, cf, cg⟩ := hM.out.cells
    have hh1 := (World.cell?_of_block (w := W) (a := ⟨h, 0, none⟩) (hM.out.past.block h HHL.out HNE.out)).trans HH0.out
    obtain ⟨so, sc, es⟩ := listed_length hr.out
    obtain ⟨zl, ezl⟩ : ∃ x, zs.length = x := ⟨_, rfl⟩
    obtain ⟨m, em⟩ : ∃ m, zl - k = m := ⟨_, rfl⟩
    have EM : Hid (zs.length - k = m) := by rw [ezl]; exact em
    have hlt : (all ++ zs.take k).length ≤ 100000000 := by
      have := HL.out
      rw [List.length_append] at this ⊢
      rw [List.length_take]
      omega
    have hfle := fullOf_le (all ++ zs.take k).length
    have hful : fullOf (all ++ zs.take k).length = ((all ++ zs.take k).length - 1) / 4096 := rfl
    rw [List.length_drop, EM.out] at es
    subst es
    rw [ezl] at hk
    by_cases hm : m = 0
    · subst hm
      have hkz : zs.take k = zs := List.take_of_length_le (by omega)
      rw [hkz] at hM hlt
      have KT := RunP.take hM.out (by have := outOf_len (all ++ zs); unfold outOf at this; omega) (by
        obtain ⟨y, hy⟩ := outOf_more all zs
        have : (outOf all).length ≤ (outOf (all ++ zs)).length := by rw [hy, List.length_append]; omega
        unfold outOf at this
        have := ET.out
        unfold outOf at this
        omega)
      clear c5 c6 cf
      go_wp2_with fail
      go_at_call 57
      refine KT.mono ?_
      rintro e w7 ⟨u, O7, rfl, j1, j2, j3, j4, j5⟩
      obtain ⟨uo, ul, uc, eu⟩ : ∃ o n c, u = .slice o n c := by
        obtain ⟨o, c, h⟩ := listed_length j1
        exact ⟨o, _, c, h⟩
      have HFIN : Hid (Wrote W (fun k => k = h ∨ OP k) (.pointer (some ⟨h, 0, none⟩)) all zs (.returned (.tuple #[u, .int .i64 0])) w7) := by
        refine ⟨u, _, rfl, ?_, fun b hb => ?_, isDW_mk ((j5.block h HHL.out HNE.out).trans HH.out) j2 (fun ho => (j4 h ho).elim HNE.out (fun h2 => by have := HHL.out; omega)), fun b hb => ?_, ⟨j5.os, j5.tape, j5.output, j5.size, fun k hk hn => j5.block k hk (fun h2 => hn (.inr h2))⟩⟩
        · rw [ET.out]
          exact j1
        · obtain ⟨a1, a2⟩ := j3 b hb
          refine ⟨a1.elim (fun h2 => .inl (.inr h2)) .inr, fun h2 => h2.elim (fun h3 => ?_) a2⟩
          subst h3
          rcases a1 with a1 | a1
          · exact HNE.out a1
          · have := HHL.out
            omega
        · rcases hb with rfl | hb
          · exact .inl (.inl rfl)
          · exact (j4 b hb).elim (fun h2 => .inl (.inr h2)) .inr
      subst eu
      clear j1 j2 j3 j4 j5
      go_wp2_with fail
      exact bodyPost_ret (v := .tuple #[.slice uo ul uc, .int .i64 0]) (by simp [results, Try.results36, asAddr, go_sem]) rfl HFIN.out
    · have d0 : decide ((0 : Int) < (m : Int)) = true := decide_eq_true (by omega)
      have d0n : decide (0 < m) = true := decide_eq_true (by omega)
      obtain ⟨c, ec⟩ : ∃ c, (all ++ zs.take k).length = c := ⟨_, rfl⟩
      have EC := Lib.hid ec
      rw [ec] at hlt hfle hful hM c5
      obtain ⟨J, eJ⟩ : ∃ J, fullOf c = J := ⟨_, rfl⟩
      rw [eJ] at hfle hful hM c5
      have hc1 : c ≤ 4096 * (J + 1) := by omega
      have EZ := Lib.hid ezl
      obtain ⟨n5, en5⟩ : ∃ n, c - 4096 * J = n := ⟨_, rfl⟩
      rw [en5] at c5
      by_cases hop : n5 = 4096
      · have e1 : ((n5 : Int) == 4096) = true := by simp; omega
        have e2 : decide ((n5 : Int) = 4096) = true := decide_eq_true (by omega)
        have KB := hM.out.block (fun x hx => H8.out x ((List.mem_append.1 hx).elim (fun h => List.mem_append.2 (.inl h)) (fun h => List.mem_append.2 (.inr (List.mem_of_mem_take h))))) (by rw [EC.out]; omega) (by omega)
        clear cf c6 ec
        go_wp2_with fail
        go_at_call 55
        refine KB.mono ?_
        rintro e w5 ⟨rfl, hM5⟩
        have HM5 := Lib.hid hM5
        have HR5 := hr
        obtain ⟨nn, enn⟩ : ∃ n : Nat, n = 0 := ⟨_, rfl⟩
        clear KB hM5 c0 c5 hh1
        obtain ⟨r, er⟩ : ∃ r, 4096 - nn = r := ⟨_, rfl⟩
        have hrr : (4096 : Int) - (nn : Int) = (r : Int) := by omega
        have hnr : nn + r = 4096 := by omega
        clear er
        obtain ⟨N, eN⟩ : ∃ N, min m r = N := ⟨_, rfl⟩
        obtain ⟨ut, hslt, hut, hubt⟩ := listed_take bytes_type bytes_one HR5.out N (by rw [List.length_drop, ezl]; omega)
        obtain ⟨ud, hsld, hud, hubd⟩ := listed_drop bytes_type bytes_one HR5.out N (by rw [List.length_drop, ezl]; omega)
        have hlN : ((zs.drop k).take N).length = N := by rw [List.length_take, List.length_drop, ezl]; omega
        have hcat : all ++ zs.take k ++ (zs.drop k).take N = all ++ zs.take (k + N) := by rw [List.append_assoc, ← List.take_add]
        have hNm : N ≤ m := by omega
        have hN1 : 1 ≤ N := by omega
        have hNr : N ≤ r := by omega
        have hmin := fun w => min_small (m : Int) (r : Int) w
        have hif : (if (r : Int) < (m : Int) then (r : Int) else (m : Int)) = (N : Int) := by split <;> omega
        rw [hif] at hmin
        have HMD : Mid W OP g (.pointer va) T (all ++ zs.take k) (J + 1) w5.drew := RunP.drew HM5.out
        have KA := HMD.add ut ((zs.drop k).take N) (listed_past hut HMD.past (fun b hb => (hbk.out b (hubt b hb)).2)) (fun x hx => H8.out x (by rw [hcat] at hx; exact (List.mem_append.1 hx).elim (fun h => List.mem_append.2 (.inl h)) (fun h => List.mem_append.2 (.inr (List.mem_of_mem_take h))))) (fun b hb => hbk.out b (hubt b hb)) (by rw [EC.out]; omega) (by rw [hlN, EC.out]; omega) (by rw [EC.out]; omega)
        have hnn : (all ++ zs.take k ++ (zs.drop k).take N).length - 4096 * (J + 1) = nn + N := by rw [List.length_append, hlN, EC.out]; omega
        rw [hnn, hcat, EC.out, show c - 4096 * (J + 1) = nn by omega] at KA
        have hsum : (nn : Int) + (N : Int) = ((nn + N : Nat) : Int) := by omega
        obtain ⟨oN, eoN⟩ : ∃ x, nn + N = x := ⟨_, rfl⟩
        rw [eoN] at KA hsum
        have hoN : oN ≤ 4096 := by omega
        have hnn2 : nn ≤ 4096 := by omega
        have HFUL : Hid (fullOf (all ++ zs.take (k + N)).length = (J + 1)) := by
          refine fullOf_is ?_ ?_
          · rw [← hcat, List.length_append, hlN, EC.out]; omega
          · rw [← hcat, List.length_append, hlN, EC.out]; omega
        have HUD := Lib.hid hud
        have HUBD : Hid (∀ b, inBlock ud b → b < W.heap.size ∧ ¬ OP b) := fun b hb => hbk.out b (hubd b hb)
        have HDN : Hid ((zs.drop k).drop N = zs.drop (k + N)) := List.drop_drop ..
        have HP5 := Lib.hid HM5.out.past
        have HS5 : Hid (W.heap.size ≤ w5.heap.size) := HM5.out.past.size
        obtain ⟨g0, g5, g6, gf, gg⟩ := HM5.out.cells
        rw [EC.out, show c - 4096 * (J + 1) = nn by omega] at g5
        have hh5 := (World.cell?_of_block (w := W) (a := ⟨h, 0, none⟩) (HP5.out.block h HHL.out HNE.out)).trans HH0.out
        have hlen : N ≤ 4096 := by omega
        obtain ⟨uto, utc, eut⟩ := listed_length hut
        obtain ⟨udo, udc, eud⟩ := listed_length hud
        rw [hlN] at eut
        have hldr : ((zs.drop k).drop N).length = m - N := by rw [List.length_drop, List.length_drop, ezl]; omega
        rw [hldr] at eud
        subst eut
        subst eud
        clear hut hubt hud hubd hlN hcat hnn eoN hif eN gf hldr enn
        go_wp2_with fail
        refine wp_region_still_tail 9 (by kernel_rfl) (by kernel_rfl) ?_
        simp only [List.take_succ_cons, List.take_zero, List.drop_succ_cons, List.drop_zero]
        repeat still_step
        refine wpStill_nil ?_
        change wpList _ _ _ _ _ w5.drew
        go_wp2_with (go_at_call 56; refine KA.mono ?_; rintro e w6 ⟨rfl, ⟨c5, f5⟩, hp6, hM6⟩; have hh6 := (World.cell?_of_block (w := W) (a := ⟨h, 0, none⟩) (hp6.block h HHL.out HNE.out)).trans HH0.out; have HM6 := Lib.hid hM6; clear hp6 hM6 g0 g5 g6 gg hh5)
        go_roundw
        case rel => exact ⟨k + N, by omega, by rw [← HDN.out]; exact HUD, HUBD, by rw [HFUL.out]; exact HM6.out⟩
        case measure => simp [lenV]; omega
      · have e1 : ((n5 : Int) == 4096) = false := by simp; omega
        have e2 : decide ((n5 : Int) = 4096) = false := decide_eq_false (by omega)
        have HR5 := hr
        have HM5 := hM
        obtain ⟨w5, ew5⟩ : ∃ x, x = wr := ⟨_, rfl⟩
        subst ew5
        obtain ⟨nn, enn⟩ : ∃ n : Nat, n = c - 4096 * J := ⟨_, rfl⟩
        obtain ⟨r, er⟩ : ∃ r, 4096 - nn = r := ⟨_, rfl⟩
        have hrr : (4096 : Int) - (nn : Int) = (r : Int) := by omega
        have hnr : nn + r = 4096 := by omega
        rw [← en5, ← enn] at c5 e1 e2
        clear cf c6 ec c0 hh1 c5 er
        obtain ⟨N, eN⟩ : ∃ N, min m r = N := ⟨_, rfl⟩
        obtain ⟨ut, hslt, hut, hubt⟩ := listed_take bytes_type bytes_one HR5.out N (by rw [List.length_drop, ezl]; omega)
        obtain ⟨ud, hsld, hud, hubd⟩ := listed_drop bytes_type bytes_one HR5.out N (by rw [List.length_drop, ezl]; omega)
        have hlN : ((zs.drop k).take N).length = N := by rw [List.length_take, List.length_drop, ezl]; omega
        have hcat : all ++ zs.take k ++ (zs.drop k).take N = all ++ zs.take (k + N) := by rw [List.append_assoc, ← List.take_add]
        have hNm : N ≤ m := by omega
        have hN1 : 1 ≤ N := by omega
        have hNr : N ≤ r := by omega
        have hmin := fun w => min_small (m : Int) (r : Int) w
        have hif : (if (r : Int) < (m : Int) then (r : Int) else (m : Int)) = (N : Int) := by split <;> omega
        rw [hif] at hmin
        have HMD : Mid W OP g (.pointer va) T (all ++ zs.take k) (J) w5.drew := RunP.drew HM5.out
        have KA := HMD.add ut ((zs.drop k).take N) (listed_past hut HMD.past (fun b hb => (hbk.out b (hubt b hb)).2)) (fun x hx => H8.out x (by rw [hcat] at hx; exact (List.mem_append.1 hx).elim (fun h => List.mem_append.2 (.inl h)) (fun h => List.mem_append.2 (.inr (List.mem_of_mem_take h))))) (fun b hb => hbk.out b (hubt b hb)) (by rw [EC.out]; omega) (by rw [hlN, EC.out]; omega) (by rw [EC.out]; omega)
        have hnn : (all ++ zs.take k ++ (zs.drop k).take N).length - 4096 * J = nn + N := by rw [List.length_append, hlN, EC.out]; omega
        rw [hnn, hcat, EC.out, show c - 4096 * J = nn by omega] at KA
        have hsum : (nn : Int) + (N : Int) = ((nn + N : Nat) : Int) := by omega
        obtain ⟨oN, eoN⟩ : ∃ x, nn + N = x := ⟨_, rfl⟩
        rw [eoN] at KA hsum
        have hoN : oN ≤ 4096 := by omega
        have hnn2 : nn ≤ 4096 := by omega
        have HFUL : Hid (fullOf (all ++ zs.take (k + N)).length = J) := by
          refine fullOf_is ?_ ?_
          · rw [← hcat, List.length_append, hlN, EC.out]; omega
          · rw [← hcat, List.length_append, hlN, EC.out]; omega
        have HUD := Lib.hid hud
        have HUBD : Hid (∀ b, inBlock ud b → b < W.heap.size ∧ ¬ OP b) := fun b hb => hbk.out b (hubd b hb)
        have HDN : Hid ((zs.drop k).drop N = zs.drop (k + N)) := List.drop_drop ..
        have HP5 := Lib.hid HM5.out.past
        have HS5 : Hid (W.heap.size ≤ w5.heap.size) := HM5.out.past.size
        obtain ⟨g0, g5, g6, gf, gg⟩ := HM5.out.cells
        rw [EC.out, show c - 4096 * J = nn by omega] at g5
        have hh5 := (World.cell?_of_block (w := W) (a := ⟨h, 0, none⟩) (HP5.out.block h HHL.out HNE.out)).trans HH0.out
        have hlen : N ≤ 4096 := by omega
        obtain ⟨uto, utc, eut⟩ := listed_length hut
        obtain ⟨udo, udc, eud⟩ := listed_length hud
        rw [hlN] at eut
        have hldr : ((zs.drop k).drop N).length = m - N := by rw [List.length_drop, List.length_drop, ezl]; omega
        rw [hldr] at eud
        subst eut
        subst eud
        clear hut hubt hud hubd hlN hcat hnn eoN hif eN gf hldr enn
        go_wp2_with fail
        refine wp_region_still_tail 9 (by kernel_rfl) (by kernel_rfl) ?_
        simp only [List.take_succ_cons, List.take_zero, List.drop_succ_cons, List.drop_zero]
        repeat still_step
        refine wpStill_nil ?_
        change wpList _ _ _ _ _ w5.drew
        go_wp2_with (go_at_call 56; refine KA.mono ?_; rintro e w6 ⟨rfl, ⟨c5, f5⟩, hp6, hM6⟩; have hh6 := (World.cell?_of_block (w := W) (a := ⟨h, 0, none⟩) (hp6.block h HHL.out HNE.out)).trans HH0.out; have HM6 := Lib.hid hM6; clear hp6 hM6 g0 g5 g6 gg hh5)
        go_roundw
        case rel => exact ⟨k + N, by omega, by rw [← HDN.out]; exact HUD, HUBD, by rw [HFUL.out]; exact HM6.out⟩
        case measure => simp [lenV]; omega
end Go.Proofs.Ytefdlidjdmlnaaa.Fx
namespace Go.Proofs.Ytefdlidjdmlnaaa.Fx
open Go Go.RowKit Go.Joins Go.Maps
set_option linter.unusedVariables false
theorem RunP.align {W w : World} {O : Nat → Prop} {g : Nat} {v : Value} {t : Nat} {l : List Bool} {zs : List Nat} {first opn : Nat} (h : RunP W O g v t l zs first opn w) (hl : l.length ≤ 1099511627776) :
    Calls Try.prog 58 #[v] w fun e w' => e = .returned (.int .i64 0) ∧ RunP W O g v t (aligned l) zs first opn w' := by
  obtain ⟨O1, ⟨OB, OK, h1, h2, h3, rfl⟩, k2, k3⟩ := h
  refine (align_code w v l t OB h1 hl).mono ?_
  rintro e w' ⟨OB', rfl, j1, j2, j3⟩
  have hltK := isK_lt h2
  refine ⟨rfl, _, ⟨OB', OK, j1, isK_keep h2 (fun k hk => j3.block k (hltK k hk) (fun h => h3 k h hk)), fun k hk hk2 => (j2 k hk).elim (fun h => h3 k h hk2) (fun h => by have := hltK k hk2; omega), rfl⟩, fun b hb => ?_, k3.trans j3 (fun b hb => k2 b (.inl hb))⟩
  rcases hb with hb | hb
  · exact (j2 b hb).elim (fun h => k2 b (.inl h)) (fun h => .inr (Nat.le_trans k3.size h))
  · exact k2 b (.inr hb)
theorem Pack.blk {w : World} {g : Nat} {v : Value} {l : List Bool} {t : Nat} {zs : List Nat} {first opn : Nat} {O : Nat → Prop} (h : Pack w g v l t zs first opn O) : O g ∧ ∃ x1 x2 x3 x4 x5, w.heap[g]? = some (.cells #[v, x1, x2, x3, x4, x5, .bool false] 105 (0, 0)) := by
  obtain ⟨OB, OK, h1, h2, h3, rfl⟩ := h
  refine ⟨.inr (isK_g h2), ?_⟩
  obtain ⟨s, tv, mb, st, D, hk, _⟩ := h2
  exact ⟨_, _, _, _, _, hk.blk⟩
/-- A writer's last bytes. -/
def Ended (W : World) (O : Nat → Prop) (v : Value) (all : List Nat) (e : Ending) (w' : World) : Prop :=
  ∃ u O', e = .returned (.tuple #[u, .int .i64 0]) ∧ bytesIn w' u (bytesAt (endOf all) ((outOf all).length / 8) ((endOf all).length / 8 - (outOf all).length / 8)) ∧ (∀ b, inBlock u b → (O b ∨ W.heap.size ≤ b) ∧ ¬ O' b) ∧ isDE w' v O' ∧ (∀ b, O' b → O b) ∧ Past O W w'
theorem end_len (all : List Nat) : (endOf all).length ≤ 8 * (all.length + 5 * (all.length / 4096 + 1)) ∧ (outOf all).length ≤ (endOf all).length := by
  obtain ⟨h1, h2⟩ := endOf_length all
  have h3 : fullOf all.length ≤ all.length / 4096 := by unfold fullOf; omega
  obtain ⟨y, hy⟩ := endOf_more all
  refine ⟨by omega, ?_⟩
  rw [hy, List.length_append]
  omega
theorem seven_past (w : World) (g : Nat) (x0 x1 x2 x3 x4 x5 x6 : Value) : Past (fun k => k = g) w (((((((w.setCell ⟨g, 0, none⟩ x0).setCell ⟨g, 1, none⟩ x1).setCell ⟨g, 2, none⟩ x2).setCell ⟨g, 3, none⟩ x3).setCell ⟨g, 4, none⟩ x4).setCell ⟨g, 5, none⟩ x5).setCell ⟨g, 6, none⟩ x6) :=
  (((((((past_setCell w g 0 x0).trans (past_setCell _ g 1 x1) (fun _ h => .inl h)).trans (past_setCell _ g 2 x2) (fun _ h => .inl h)).trans (past_setCell _ g 3 x3) (fun _ h => .inl h)).trans (past_setCell _ g 4 x4) (fun _ h => .inl h)).trans (past_setCell _ g 5 x5) (fun _ h => .inl h)).trans (past_setCell _ g 6 x6) (fun _ h => .inl h))
set_option maxHeartbeats 4000000 in
set_option maxRecDepth 100000 in
theorem end_code (W : World) (v : Value) (all : List Nat) (O : Nat → Prop) (hd : isDW W v all O) (h8 : ∀ x ∈ all, x < 256) (hl : all.length ≤ 100000000) :
    Calls Try.prog 37 #[v] W (Ended W O v all) := by
  obtain ⟨h, g, ov, OP, rfl, hh, hmid, hpack, hne, rfl⟩ := hd
  obtain ⟨q0, q5, q6, _, hglt⟩ := hpack.cells
  have hh0 := cell_of_block hh 0
  obtain ⟨OB, OK, hw, _⟩ := id hpack
  obtain ⟨va, rfl⟩ := isW_ptr hw
  have hst := state_code h g false W hh0 q6
  have HH := Lib.hid hh
  have HNE := Lib.hid hne
  have HHL := Lib.hid (Array.getElem?_eq_some_iff.1 hh).1
  have HPG := Lib.hid hpack.blk.1
  have HH0 : Hid (W.cell? ⟨h, 0, none⟩ = some (.pointer (some ⟨g, 0, none⟩))) := hh0
  have KB := hmid.last h8 (fullOf_le _) (by unfold fullOf; omega) (by omega)
  have hel := end_len all
  have HEA : Hid (aligned (blockOf (blocksOf all (fullOf all.length)) all (4096 * fullOf all.length) all.length 1) = endOf all) := rfl
  have hbl : (blockOf (blocksOf all (fullOf all.length)) all (4096 * fullOf all.length) all.length 1).length ≤ (endOf all).length := by
    rw [← HEA.out, aligned_length]
    omega
  obtain ⟨T, eT⟩ : ∃ T, (outOf all).length / 8 = T := ⟨_, rfl⟩
  have ET := Lib.hid eT
  rw [eT] at KB
  generalize blockOf (blocksOf all (fullOf all.length)) all (4096 * fullOf all.length) all.length 1 = L at *
  have HEL := Lib.hid hel
  have HBL := Lib.hid hbl
  clear hh hmid hpack hne h8 hw eT hel hbl q0 q5 q6
  go_enter Try.func37, Try.ntmps37
  go_wp2_with fail
  go_at_call 54
  refine hst.mono ?_
  rintro e w' ⟨rfl, rfl⟩
  clear hst
  go_wp2_with fail
  go_at_call 55
  refine KB.mono ?_
  rintro e w5 ⟨rfl, zs, f, hR⟩
  have KA := hR.align (by have := HEL.out; have := HBL.out; omega)
  rw [HEA.out] at KA
  obtain ⟨c0, _, _, _, _⟩ := hR.cells
  have hh5 := (World.cell?_of_block (w := W) (a := ⟨h, 0, none⟩) (hR.past.block h HHL.out HNE.out)).trans HH0.out
  clear KB hR hh0
  go_wp2_with fail
  go_at_call 58
  refine KA.mono ?_
  rintro e w6 ⟨rfl, hR⟩
  have KT := hR.take (by have := HEL.out; omega) (by have := HEL.out; have := ET.out; omega)
  obtain ⟨c0, _, _, _, _⟩ := hR.cells
  have hh6 := (World.cell?_of_block (w := W) (a := ⟨h, 0, none⟩) (hR.past.block h HHL.out HNE.out)).trans HH0.out
  clear KA hR hh5
  go_wp2_with fail
  go_at_call 57
  refine KT.mono ?_
  rintro e w7 ⟨u, O7, rfl, j1, j2, j3, j4, j5⟩
  obtain ⟨uo, ul, uc, eu⟩ : ∃ o n c, u = .slice o n c := by
    obtain ⟨o, c, h⟩ := listed_length j1
    exact ⟨o, _, c, h⟩
  have hh7 := (World.cell?_of_block (w := W) (a := ⟨h, 0, none⟩) (j5.block h HHL.out HNE.out)).trans HH0.out
  obtain ⟨hg7, x1, x2, x3, x4, x5, hb7⟩ := j2.blk
  have hgh : g ≠ h := by
    rintro rfl
    exact HNE.out HPG.out
  have b0 := cell_of_block hb7 0
  have b1 := cell_of_block hb7 1
  have b2 := cell_of_block hb7 2
  have b3 := cell_of_block hb7 3
  have b4 := cell_of_block hb7 4
  have b5 := cell_of_block hb7 5
  have b6 := cell_of_block hb7 6
  have f0 := unfrozen_of_block hb7 0
  have f1 := unfrozen_of_block hb7 1
  have f2 := unfrozen_of_block hb7 2
  have f3 := unfrozen_of_block hb7 3
  have f4 := unfrozen_of_block hb7 4
  have f5 := unfrozen_of_block hb7 5
  have f6 := unfrozen_of_block hb7 6
  have J := Lib.hid (And.intro j1 (And.intro j3 (And.intro j5 (And.intro hg7 (And.intro hb7 hgh)))))
  subst eu
  clear KT j1 j2 j3 j4 j5 hg7 hb7 hh6
  go_wp2_with fail
  obtain ⟨j1, j3, j5, hg7, hb7, _⟩ := J.out
  refine bodyPost_ret (v := .tuple #[.slice uo ul uc, .int .i64 0]) (by simp [results, Try.results37, asAddr, go_sem]) rfl ?_
  have hb8 := block_setCell (i := 6) (block_setCell (i := 5) (block_setCell (i := 4) (block_setCell (i := 3) (block_setCell (i := 2) (block_setCell (i := 1) (block_setCell (i := 0) hb7 (.pointer none)) (.slice none 0 0)) (.int .i64 0)) (.slice none 0 0)) (.map none)) (.int .i64 0)) (.bool true)
  have hp8 := seven_past w7 g (.pointer none) (.slice none 0 0) (.int .i64 0) (.slice none 0 0) (.map none) (.int .i64 0) (.bool true)
  refine ⟨.slice uo ul uc, _, rfl, ?_, fun b hb => ?_, ⟨h, g, rfl, ?_, ⟨_, _, hb8, by simp⟩, rfl⟩, ?_, ?_⟩
  · rw [ET.out]
    exact listed_past j1 hp8 (fun b hb e => (j3 b hb).2 (by rw [e]; exact hg7))
  · obtain ⟨a1, a2⟩ := j3 b hb
    refine ⟨a1.elim (fun h2 => .inl (.inr h2)) .inr, fun h2 => h2.elim (fun h3 => ?_) (fun h3 => a2 (by rw [h3]; exact hg7))⟩
    subst h3
    rcases a1 with a1 | a1
    · exact HNE.out a1
    · have := HHL.out
      omega
  · exact (hp8.block h (by have := j5.size; have := HHL.out; omega) (fun e => hgh e.symm)).trans ((j5.block h HHL.out HNE.out).trans HH.out)
  · rintro b (rfl | rfl)
    · exact .inl rfl
    · exact .inr HPG.out
  · refine Past.trans (O := fun k => k = h ∨ OP k) ⟨j5.os, j5.tape, j5.output, j5.size, fun k hk hn => j5.block k hk (fun h2 => hn (.inr h2))⟩ hp8 (fun b hb => .inl (.inr (by rw [hb]; exact HPG.out)))
theorem alloc_second (w : World) (o1 o2 : Obj) : ((w.alloc o1).alloc o2).heap[w.heap.size + 1]? = some o2 := by
  have hs1 : (w.alloc o1).heap.size = w.heap.size + 1 := by
    show (w.heap.push _).size = _
    simp
  rw [← hs1]
  exact heap_alloc_new _ _
theorem newWindow_code (w : World) : Calls Try.prog 53 #[] w fun e w' => e = .returned (.agg #[.slice none 0 0, .int .i64 0, .slice none 0 0, .map (some (w.heap.size + 1))]) ∧ w'.heap[w.heap.size + 1]? = some (.map #[] 0) ∧ Below w.heap.size w w' := by
  have hmm := @run_makeMap Try.prog
  go_enter Try.func53, Try.ntmps53
  go_wp2_with fail
  have hb0 : ((w.alloc (.cells #[.slice none 0 0, .int .i64 0, .slice none 0 0, .map (some (w.heap.size + 1))] 102)).alloc (.map #[] 0)).heap[w.heap.size]? = some (.cells #[.slice none 0 0, .int .i64 0, .slice none 0 0, .map (some (w.heap.size + 1))] 102 (0, 0)) := alloc_old (heap_alloc_new w _)
  have hs1 : (w.alloc (.cells #[.slice none 0 0, .int .i64 0, .slice none 0 0, .map (some (w.heap.size + 1))] 102)).heap.size = w.heap.size + 1 := by
    show (w.heap.push _).size = _
    simp
  have hm1 : ((w.alloc (.cells #[.slice none 0 0, .int .i64 0, .slice none 0 0, .map (some (w.heap.size + 1))] 102)).alloc (.map #[] 0)).heap[w.heap.size + 1]? = some (.map #[] 0) := alloc_second w _ _
  have p0 := cell_of_block hb0 0
  have p1 := cell_of_block hb0 1
  have p2 := cell_of_block hb0 2
  have p3 := cell_of_block hb0 3
  exact bodyPost_ret (v := .agg #[.slice none 0 0, .int .i64 0, .slice none 0 0, .map (some (w.heap.size + 1))]) (by simp [results, Try.results53, asAddr, Result.andThen, go_sem, p0, p1, p2, p3]) rfl ⟨rfl, hm1, ((Below.refl _ _).alloc (Nat.le_refl _) _).alloc (by rw [hs1]; omega) _⟩
theorem owns_empty {w : World} {m : Nat} (hb : w.heap[m]? = some (.map #[] 0)) (k : TypeId) (R : Value → Option (Book × List MemPlace)) : w.ownsMap Try.prog k R m 0 (.map []) :=
  ⟨#[], 0, hb, ⟨by simp, MapKept.stamped_empty 0, by simp⟩, Nat.le_refl _, rfl⟩
theorem outOf_nil : outOf [] = [] := rfl
/-- A new writer. -/
theorem new_code (W : World) : Calls Try.prog 35 #[] W fun e w' => ∃ v O, e = .returned v ∧ isDW w' v [] O ∧ (∀ k, O k → W.heap.size ≤ k) ∧ Below W.heap.size W w' := by
  go_enter Try.func35, Try.ntmps35
  go_wp2_with (go_at_call 52; refine (wnew_any W).mono ?_; rintro e w1 ⟨v, O, rfl, k1, k2, k3⟩)
  refine (newWindow_code w1).mono ?_
  rintro e w2 ⟨rfl, m1, m2⟩
  obtain ⟨va, rfl⟩ := isW_ptr k1
  have K := Lib.hid (And.intro k1 (And.intro k2 (And.intro k3 (And.intro m1 m2))))
  clear k1 k2 k3 m1 m2
  go_wp2_with fail
  obtain ⟨k1, k2, k3, m1, m2⟩ := K.out
  have hs2 := m2.size
  have hs3 := k3.size
  have hmlt := (Array.getElem?_eq_some_iff.1 m1).1
  have hOlt := isW_lt _ _ _ _ _ k1
  obtain ⟨C, eC⟩ : ∃ C, C = #[Value.pointer va, .slice none 0 0, .int .i64 0, .slice none 0 0, .map (some (w1.heap.size + 1)), .int .i64 0, .bool false] := ⟨_, rfl⟩
  rw [← eC]
  have hsa : (w2.alloc (.cells C 105)).heap.size = w2.heap.size + 1 := by
    show (w2.heap.push _).size = _
    simp
  have hba : Below w2.heap.size w2 ((w2.alloc (.cells C 105)).alloc (.cells #[.pointer (some ⟨w2.heap.size, 0, none⟩)] 107)) := ((Below.refl _ _).alloc (Nat.le_refl _) _).alloc (by rw [hsa]; omega) _
  have hg : ((w2.alloc (.cells C 105)).alloc (.cells #[.pointer (some ⟨w2.heap.size, 0, none⟩)] 107)).heap[w2.heap.size]? = some (.cells C 105 (0, 0)) := alloc_old (heap_alloc_new w2 _)
  have hh : ((w2.alloc (.cells C 105)).alloc (.cells #[.pointer (some ⟨w2.heap.size, 0, none⟩)] 107)).heap[w2.heap.size + 1]? = some (.cells #[.pointer (some ⟨w2.heap.size, 0, none⟩)] 107 (0, 0)) := by
    rw [← hsa]
    exact heap_alloc_new _ _
  have hm : ((w2.alloc (.cells C 105)).alloc (.cells #[.pointer (some ⟨w2.heap.size, 0, none⟩)] 107)).heap[w1.heap.size + 1]? = some (.map #[] 0) := (hba.block _ (by omega)).trans m1
  generalize ((w2.alloc (.cells C 105)).alloc (.cells #[.pointer (some ⟨w2.heap.size, 0, none⟩)] 107)) = Z at *
  have hW : isW Z (.pointer va) [] 0 O := isW_keep _ _ _ _ _ _ k1 (by have := hba.size; omega) (fun k hk => (hba.block k (by have := hOlt k hk; omega)).trans (m2.block k (hOlt k hk)))
  subst eC
  have hK : isK Z w2.heap.size (.pointer va) [] 0 0 (blocksK w2.heap.size (.slice none 0 0) (.slice none 0 0) (w1.heap.size + 1)) :=
    ⟨.slice none 0 0, .slice none 0 0, w1.heap.size + 1, [], .map [], ⟨hg, World.ownsRow_nil _ _ _ _, World.ownsRow_nil _ _ _ _, owns_empty hm _ _, Lasts.start 0, by simp [Value.ownBlock], by simp [Value.ownBlock], by simp [Value.ownBlock]⟩, Steps.start, rfl, rfl⟩
  have hKO : ∀ k, blocksK w2.heap.size (.slice none 0 0) (.slice none 0 0) (w1.heap.size + 1) k → k = w2.heap.size ∨ k = w1.heap.size + 1 := fun k hk => by
    rcases hk with h | h | h | h
    · exact .inl h
    · simp [Value.ownBlock] at h
    · simp [Value.ownBlock] at h
    · exact .inr h
  have hP : Pack Z w2.heap.size (.pointer va) (outOf []) ((outOf []).length / 8) (([] : List Nat).drop (firstOf (fullOf ([] : List Nat).length))) (firstOf (fullOf ([] : List Nat).length)) (([] : List Nat).length - 4096 * fullOf ([] : List Nat).length) _ := ⟨O, _, hW, hK, fun k hk hk2 => by have := hOlt k hk; have := hKO k hk2; omega, rfl⟩
  refine bodyPost_ret (v := .pointer (some ⟨w2.heap.size + 1, 0, none⟩)) (by simp [results, Try.results35, asAddr, go_sem]) rfl ⟨_, _, rfl, isDW_mk hh hP (fun hk => ?_), fun k hk => ?_, (k3.trans (m2.mono hs3)).trans (hba.mono (by omega))⟩
  · rcases hk with hk | hk
    · have := hOlt _ hk
      omega
    · have := hKO _ hk
      omega
  · rcases hk with rfl | hk | hk
    · omega
    · exact k2 k hk
    · have := hKO _ hk
      omega
/-- Write behind End. -/
theorem writeOver_code (W : World) (v bv : Value) (O : Nat → Prop) (hd : isDE W v O) : Calls Try.prog 36 #[v, bv] W fun e w' => e = .returned (.tuple #[.slice none 0 0, .int .i64 23]) ∧ W = w' := by
  obtain ⟨h, g, rfl, hh, ⟨cs, ty, hg, h6⟩, rfl⟩ := hd
  have K := state_code h g true W (cell_of_block hh 0) ((cell_of_block hg 6).trans h6)
  clear hh hg h6
  go_enter Try.func36, Try.ntmps36
  go_wp2_with fail
  go_at_call 54
  refine K.mono ?_
  rintro e w' ⟨rfl, rfl⟩
  go_wp2_with fail
  exact bodyPost_ret (v := .tuple #[.slice none 0 0, .int .i64 23]) (by simp [results, Try.results36, asAddr, go_sem]) rfl ⟨rfl, rfl⟩
/-- End behind End. -/
theorem endOver_code (W : World) (v : Value) (O : Nat → Prop) (hd : isDE W v O) : Calls Try.prog 37 #[v] W fun e w' => e = .returned (.tuple #[.slice none 0 0, .int .i64 23]) ∧ W = w' := by
  obtain ⟨h, g, rfl, hh, ⟨cs, ty, hg, h6⟩, rfl⟩ := hd
  have K := state_code h g true W (cell_of_block hh 0) ((cell_of_block hg 6).trans h6)
  clear hh hg h6
  go_enter Try.func37, Try.ntmps37
  go_wp2_with fail
  go_at_call 54
  refine K.mono ?_
  rintro e w' ⟨rfl, rfl⟩
  go_wp2_with fail
  exact bodyPost_ret (v := .tuple #[.slice none 0 0, .int .i64 23]) (by simp [results, Try.results37, asAddr, go_sem]) rfl ⟨rfl, rfl⟩
/-- A writer that New did not make: none, or one without a packer. -/
def noDW (w : World) (v : Value) : Prop := v = .pointer none ∨ ∃ h, v = .pointer (some ⟨h, 0, none⟩) ∧ w.cell? ⟨h, 0, none⟩ = some (.pointer none)
theorem stateNo_code (w : World) (v : Value) (hv : noDW w v) : Calls Try.prog 54 #[v] w fun e w' => e = .returned (.int .i64 1) ∧ w = w' := by
  rcases hv with rfl | ⟨h, rfl, hh⟩
  · exact stateNone_code w
  · exact stateBare_code h w hh
theorem writeNone_code (W : World) (v bv : Value) (hv : noDW W v) : Calls Try.prog 36 #[v, bv] W fun e w' => e = .returned (.tuple #[.slice none 0 0, .int .i64 1]) ∧ W = w' := by
  have K := stateNo_code W v hv
  obtain ⟨va, rfl⟩ : ∃ a, v = .pointer a := by rcases hv with rfl | ⟨h, rfl, _⟩ <;> exact ⟨_, rfl⟩
  clear hv
  go_enter Try.func36, Try.ntmps36
  go_wp2_with fail
  go_at_call 54
  refine K.mono ?_
  rintro e w' ⟨rfl, rfl⟩
  go_wp2_with fail
  exact bodyPost_ret (v := .tuple #[.slice none 0 0, .int .i64 1]) (by simp [results, Try.results36, asAddr, go_sem]) rfl ⟨rfl, rfl⟩
theorem endNone_code (W : World) (v : Value) (hv : noDW W v) : Calls Try.prog 37 #[v] W fun e w' => e = .returned (.tuple #[.slice none 0 0, .int .i64 1]) ∧ W = w' := by
  have K := stateNo_code W v hv
  obtain ⟨va, rfl⟩ : ∃ a, v = .pointer a := by rcases hv with rfl | ⟨h, rfl, _⟩ <;> exact ⟨_, rfl⟩
  clear hv
  go_enter Try.func37, Try.ntmps37
  go_wp2_with fail
  go_at_call 54
  refine K.mono ?_
  rintro e w' ⟨rfl, rfl⟩
  go_wp2_with fail
  exact bodyPost_ret (v := .tuple #[.slice none 0 0, .int .i64 1]) (by simp [results, Try.results37, asAddr, go_sem]) rfl ⟨rfl, rfl⟩
end Go.Proofs.Ytefdlidjdmlnaaa.Fx
namespace Go.Proofs.Ytefdlidjdmlnaaa.Fx
open Go Go.RowKit Go.Joins
set_option linter.unusedVariables false
/-- 'append', at the operation, where its run is known. -/
theorem wpList_append_eq {P : Program} {w : World} {ops : Array Oper} {rest : List Oper} {o : Oper} {a : Act} {Q : Exit → Act → World → Prop} (hgd : o.guard = none) (s x : Operand) (t t2 : TypeId)
    (ho : o.op = .call { callee := .builtin .append, args := #[s, x], argTypes := #[t, t2] }) (v u v' : Value) (w' : World) (hs : a.eval s = v) (hx : a.eval x = u) (hrun : (Builtin.append_ #[t, t2] o.type #[v, u]).run P w = .ok v' w')
    (h : wpList P ops Q rest (a.put o.dst v') w') : wpList P ops Q (o :: rest) a w := by
  refine wpList_plain hgd fun K' hK' => ?_
  unfold Oper.wp
  simp [execOp, ho, resolve, invoke, builtin, hs, hx, hrun, Result.andThen]
  exact hK' _ _ h
set_option maxHeartbeats 1000000 in
set_option maxRecDepth 100000 in
theorem grow_code (n : Nat) (W : World) (hn : n ≤ 4294967296) : Calls Try.prog 51 #[.slice none 0 0, .int .i64 (n : Int)] W fun e w' => ∃ u, e = .returned u ∧ w'.ownsRow W.heap.size 5 1 u 0 [] ∧ Below W.heap.size W w' := by
  by_cases h0 : n = 0
  · subst h0
    have d1 : decide (((0 : Nat) : Int) < 0) = false := rfl
    go_enter Try.func51, Try.ntmps51
    go_wp2_with fail
    go_ret
    exact ⟨_, rfl, World.ownsRow_nil _ _ _ _, Below.refl _ _⟩
  · obtain ⟨i0, hi, hz0, hz1, hz2⟩ := info_parts infoU8
    have d1 : decide ((n : Int) < 0) = false := decide_eq_false (by omega)
    have d2 : decide ((0 : Int) < (n : Int)) = true := decide_eq_true (by omega)
    have h := fun ty => Lib.run_append_grow_zeros W 36 3 ty 5 i0 (.int .u8 0) .i64 .i64 Try.underlying36 Try.underlying3 hi hz0 none 0 0 [] (run_firstCells_none W.drew i0.size 0 0 0) n (by omega) (by omega) (by omega) (by omega) (by rw [hz2]; omega) (growslice_fits (by omega) (by rw [hz2]; omega))
    have hge := grownCap_ge W (0 + n) 0 5
    have hle := grownCap_le_maxLen W (0 + n) 0 5 (by unfold maxLen; omega)
    rw [Nat.zero_add] at h hge hle
    obtain ⟨G, hG⟩ : ∃ G, grownCap W n 0 5 = G := ⟨_, rfl⟩
    rw [hG] at h hge hle
    obtain ⟨C, hC⟩ : ∃ C, (#[] ++ Builtin.zeroCells (Value.int IntKind.u8 0).cells n ++ Builtin.zeroCells (Value.int IntKind.u8 0).cells (G - n)) = C := ⟨_, rfl⟩
    have hCs : C.size = G := by
      rw [← hC]
      simp [Builtin.zeroCells, Value.cells]
      omega
    rw [show ([] : List Value).toArray = #[] from rfl, hC] at h
    have HCS := Lib.hid hCs
    have HH := Lib.hid h
    have HGE := Lib.hid (And.intro hge hle)
    unfold maxLen at hle
    have hgm : G ≤ 9223372036854775807 := by omega
    clear hC hCs hG hi hz0 hz1 hz2 hle h
    go_enter Try.func51, Try.ntmps51
    go_wp2_with (at_builtin; refine wpList_append_eq rfl _ _ 36 3 rfl (.slice none 0 0) (.int .i64 (n : Int)) _ _ rfl rfl (HH.out _) ?_)
    go_ret
    refine ⟨_, rfl, ⟨rfl, .inr ⟨W.heap.size, G, C, rfl, Nat.le_refl _, heap_alloc_new W.drew _, Nat.zero_le _, HGE.out.2, by rw [HCS.out, Nat.mul_one], by simp⟩⟩, (Below.refl _ _).drew.alloc (Nat.le_refl _) _⟩
set_option maxHeartbeats 2000000 in
set_option maxRecDepth 100000 in
theorem concat_code (q : Nat) (f l : Value) (xs ys : List Nat) (W : World) (h0 : W.cell? ⟨q, 0, none⟩ = some f) (h1 : W.cell? ⟨q, 1, none⟩ = some l) (hf : bytesIn W f xs) (hl : bytesIn W l ys) (hn : xs.length + ys.length ≤ 4294967296) :
    Calls Try.prog 33 #[.slice (some ⟨q, 0, none⟩) 2 2] W fun e w' => ∃ u, e = .returned u ∧ bytesIn w' u (xs ++ ys) ∧ (∀ b, inBlock u b → W.heap.size ≤ b) ∧ Below W.heap.size W w' := by
  have hql := World.block_lt_of_cell? W _ h0
  obtain ⟨fo, fc, rfl⟩ := listed_length hf
  obtain ⟨lo, lc, rfl⟩ := listed_length hl
  have HF := Lib.hid hf
  have HL := Lib.hid hl
  have H0 := Lib.hid h0
  have H1 := Lib.hid h1
  obtain ⟨n, en⟩ : ∃ n, xs.length = n := ⟨_, rfl⟩
  obtain ⟨m, em⟩ : ∃ n, ys.length = n := ⟨_, rfl⟩
  have EN := Lib.hid en
  have EM := Lib.hid em
  rw [en] at HF H0 hn h0
  rw [em] at HL H1 hn h1
  clear hf hl en em
  go_enter Try.func33, Try.ntmps33
  go_wp2_with fail
  go_loopw [3, 11] (fun s3 s11 wr => wr = W ∧ ((s3 = .int .i64 0 ∧ s11 = .int .i64 0) ∨ (s3 = .int .i64 (n : Int) ∧ s11 = .int .i64 1) ∨ (s3 = .int .i64 ((n + m : Nat) : Int) ∧ s11 = .int .i64 2))) (fun _ s11 _ => 2 - (intOf s11).toNat)
  case atStart => exact ⟨rfl, .inl ⟨rfl, rfl⟩⟩
  case round =>
    obtain ⟨hwr, hc⟩ := hrel
    obtain rfl : W = wr := hwr.symm
    rcases hc with ⟨rfl, rfl⟩ | ⟨rfl, rfl⟩ | ⟨rfl, rfl⟩
    · have d1 : decide ((n : Int) < 0) = false := decide_eq_false (by omega)
      go_wp2_with fail
      go_roundw
      case rel => exact ⟨by first | rfl | trivial, .inr (.inl ⟨by go_num, by go_num⟩)⟩
      case measure => simp [intOf]
    · have hsum : (n : Int) + (m : Int) = ((n + m : Nat) : Int) := by omega
      obtain ⟨N, eN⟩ : ∃ N, n + m = N := ⟨_, rfl⟩
      rw [eN] at hsum ⊢
      have d1 : decide ((N : Int) < 0) = false := decide_eq_false (by omega)
      go_wp2_with fail
      go_roundw
      case rel => exact ⟨by first | rfl | trivial, .inr (.inr ⟨by go_num, by go_num⟩)⟩
      case measure => simp [intOf]
    · have KG := grow_code (n + m) W hn
      obtain ⟨N, eN⟩ : ∃ N, n + m = N := ⟨_, rfl⟩
      rw [eN] at KG ⊢
      clear eN
      go_wp2_with fail
      go_at_call 51
      refine KG.mono ?_
      rintro e w1 ⟨u, rfl, k1, k2⟩
      have K1 := Lib.hid k1
      have K2 := Lib.hid k2
      obtain ⟨uo, uc, eu⟩ := row_shape k1
      subst eu
      clear k1 k2 h0 h1
      go_wp2_with fail
      have HLT := Lib.hid hql
      go_loopw [6, 27] (fun s6 s27 wx => ∃ (zs : List Nat) (c : Nat), s27 = .int .i64 (c : Int) ∧ c ≤ 2 ∧ Hid (wx.ownsRow W.heap.size 5 1 s6 zs.length (zs.map byteVal)) ∧ Hid (zs = if c = 0 then [] else if c = 1 then xs else xs ++ ys) ∧ Hid (Below W.heap.size W wx)) (fun _ s27 _ => 2 - (intOf s27).toNat)
      case atStart => exact ⟨[], 0, rfl, by omega, K1.out, rfl, K2.out⟩
      case round =>
        obtain ⟨zs, c, rfl, hc, hown, hzs, hbl⟩ := hrel
        have c0 := (hbl.out.cell (p := ⟨q, 0, none⟩) HLT.out).trans H0.out
        have c1 := (hbl.out.cell (p := ⟨q, 1, none⟩) HLT.out).trans H1.out
        obtain ⟨so, sc, es⟩ := row_shape hown.out
        obtain ⟨k, ek⟩ : ∃ k, zs.length = k := ⟨_, rfl⟩
        have EK := Lib.hid ek
        rw [ek] at es hown
        subst es
        clear ek
        obtain h | h | h : c = 0 ∨ c = 1 ∨ c = 2 := by omega
        · subst h
          have hz : zs = [] := hzs.out
          have HK0 : Hid (k = 0) := by have := EK.out; rw [hz] at this; exact this.symm
          have HZ := Lib.hid hz
          clear hz
          have hb2 := Lib.hid (listed_on HF.out hbl.out)
          have hs2 := hbl.out.size
          go_wp2_with (at_builtin; refine wpList_append_listed (c := byteVal) rfl _ _ 36 rfl W.heap.size 5 (.int .u8 0) Try.underlying36 infoU8 rfl (fun _ => rfl) (.slice so k sc) k zs rfl hown.out (.slice fo n fc) xs rfl hb2.out (by have := HK0.out; rw [EN.out]; omega) hs2 ?_)
          intro v' w5 hown5 hgrow5
          have hb5 : Below W.heap.size W w5 := hbl.out.grown hgrow5 hs2 (fun q hq => (hown.out.lt q hq).1)
          obtain ⟨v5o, v5c, ev5⟩ := row_shape hown5
          subst ev5
          have HO5 : Hid (w5.ownsRow W.heap.size 5 1 (.slice v5o (k + xs.length) v5c) (zs ++ xs).length ((zs ++ xs).map byteVal)) := by
            show World.ownsRow _ _ _ _ _ _ _
            rw [List.length_append, EK.out]
            simpa using hown5
          have HB5 := Lib.hid hb5
          have HZ5 : Hid (zs ++ xs = xs) := by
            show _ = _
            rw [HZ.out]
            exact List.nil_append _
          clear hown5 hgrow5 hb5
          go_wp2_with fail
          go_roundw
          case rel => exact ⟨zs ++ xs, 1, by go_num, by omega, HO5.out, HZ5.out, HB5.out⟩
          case measure => simp [intOf]
        · subst h
          have hz : zs = xs := hzs.out
          have HK0 : Hid (k = n) := by have := EK.out; rw [hz, EN.out] at this; exact this.symm
          have HZ := Lib.hid hz
          clear hz
          have hb2 := Lib.hid (listed_on HL.out hbl.out)
          have hs2 := hbl.out.size
          go_wp2_with (at_builtin; refine wpList_append_listed (c := byteVal) rfl _ _ 36 rfl W.heap.size 5 (.int .u8 0) Try.underlying36 infoU8 rfl (fun _ => rfl) (.slice so k sc) k zs rfl hown.out (.slice lo m lc) ys rfl hb2.out (by have := HK0.out; rw [EM.out]; omega) hs2 ?_)
          intro v' w5 hown5 hgrow5
          have hb5 : Below W.heap.size W w5 := hbl.out.grown hgrow5 hs2 (fun q hq => (hown.out.lt q hq).1)
          obtain ⟨v5o, v5c, ev5⟩ := row_shape hown5
          subst ev5
          have HO5 : Hid (w5.ownsRow W.heap.size 5 1 (.slice v5o (k + ys.length) v5c) (zs ++ ys).length ((zs ++ ys).map byteVal)) := by
            show World.ownsRow _ _ _ _ _ _ _
            rw [List.length_append, EK.out]
            simpa using hown5
          have HB5 := Lib.hid hb5
          have HZ5 : Hid (zs ++ ys = xs ++ ys) := by
            show _ = _
            rw [HZ.out]
          clear hown5 hgrow5 hb5
          go_wp2_with fail
          go_roundw
          case rel => exact ⟨zs ++ ys, 2, by go_num, by omega, HO5.out, HZ5.out, HB5.out⟩
          case measure => simp [intOf]
        · subst h
          have hz : zs = xs ++ ys := hzs.out
          go_wp2_with fail
          go_ret
          exact ⟨_, rfl, by rw [← hz]; have h1 := own_listed hown.out; exact h1, fun b hb => own_fresh hown.out b hb, hbl.out⟩
theorem past_below {O : Nat → Prop} {W w w' : World} (h : Below W.heap.size W w) (k : Past O w w') (hO : ∀ b, O b → W.heap.size ≤ b) : Below W.heap.size W w' := h.trans (k.below hO h.size)
end Go.Proofs.Ytefdlidjdmlnaaa.Fx
