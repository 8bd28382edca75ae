/-
  Write, as landed. The conditions stand in it.
-/
import Derived.Test.YtbhmjppnhlmefaaDoorWinN
namespace Go.Proofs.YtbhmjppnhlmefaaDoor.Fx
open Go Go.RowKit Go.Joins Go.Maps
set_option linter.unusedVariables false
/-- A writer whose packer is there: whether it has ended. -/
theorem state_code (h g : Nat) (b : Bool) (w : World) (hh : w.cell? ⟨h, 0, none⟩ = some (.pointer (some ⟨g, 0, none⟩))) (hg : w.cell? ⟨g, 6, none⟩ = some (.bool b)) :
    Calls Tryd.prog 22 #[.pointer (some ⟨h, 0, none⟩)] w fun e w' => e = .returned (.int .i64 (if b then 23 else 0)) ∧ w = w' := by
  cases b with
  | true =>
    go_enter Tryd.func22, Tryd.ntmps22
    go_wp2_with fail
    go_ret
    first | exact ⟨rfl, rfl⟩ | simp
  | false =>
    go_enter Tryd.func22, Tryd.ntmps22
    go_wp2_with fail
    go_ret
    first | exact ⟨rfl, rfl⟩ | simp
/-- No writer, or one without a packer. -/
theorem stateNone_code (w : World) : Calls Tryd.prog 22 #[.pointer none] w fun e w' => e = .returned (.int .i64 1) ∧ w = w' := by
  go_enter Tryd.func22, Tryd.ntmps22
  go_wp2_with fail
  go_ret
  first | exact ⟨rfl, rfl⟩ | simp
theorem stateBare_code (h : Nat) (w : World) (hh : w.cell? ⟨h, 0, none⟩ = some (.pointer none)) : Calls Tryd.prog 22 #[.pointer (some ⟨h, 0, none⟩)] w fun e w' => e = .returned (.int .i64 1) ∧ w = w' := by
  go_enter Tryd.func22, Tryd.ntmps22
  go_wp2_with fail
  go_ret
  first | exact ⟨rfl, rfl⟩ | simp
def lenV : Value → Nat
  | .slice _ n _ => n
  | _ => 0
theorem fullOf_is {n J : Nat} (h1 : 4096 * J < n) (h2 : n ≤ 4096 * (J + 1)) : fullOf n = J := by
  unfold fullOf
  omega
theorem RunP.take {W w : World} {O : Nat → Prop} {g : Nat} {v : Value} {t : Nat} {l : List Bool} {zs : List Nat} {first opn : Nat} (h : RunP W O g v t l zs first opn w) (hl : l.length ≤ 1099511627776) (ht : 8 * t ≤ l.length) :
    Calls Tryd.prog 18 #[v] w fun e w' => ∃ u O', e = .returned u ∧ bytesIn w' u (bytesAt l t (l.length / 8 - t)) ∧ Pack w' g v l (l.length / 8) zs first opn O' ∧ (∀ b, inBlock u b → (O b ∨ W.heap.size ≤ b) ∧ ¬ O' b) ∧ (∀ b, O' b → O b ∨ W.heap.size ≤ b) ∧ Past O W w' := by
  obtain ⟨O1, ⟨OB, OK, h1, h2, h3, rfl⟩, k2, k3⟩ := h
  refine (take_code w v l t OB h1 hl ht).mono ?_
  rintro e w' ⟨u, OB', rfl, j1, j2, j3, j4, j5⟩
  have hltK := isK_lt h2
  refine ⟨u, _, rfl, j1, ⟨OB', OK, j3, isK_keep h2 (fun k hk => j5.block k (hltK k hk) (fun h => h3 k h hk)), fun k hk hk2 => (j4 k hk).elim (fun h => h3 k h hk2) (fun h => by have := hltK k hk2; omega), rfl⟩, fun b hb => ?_, fun b hb => ?_, k3.trans j5 (fun b hb => k2 b (.inl hb))⟩
  · obtain ⟨a1, a2⟩ := j2 b hb
    refine ⟨a1.elim (fun h => k2 b (.inl h)) (fun h => .inr (Nat.le_trans k3.size h)), fun h => h.elim a2 (fun h => ?_)⟩
    rcases a1 with a1 | a1
    · exact h3 b a1 h
    · have := hltK b h
      omega
  · rcases hb with hb | hb
    · exact (j4 b hb).elim (fun h => k2 b (.inl h)) (fun h => .inr (Nat.le_trans k3.size h))
    · exact k2 b (.inr hb)
/-- A writer's bytes once a call has been made. -/
def Wrote (W : World) (O : Nat → Prop) (v : Value) (all zs : List Nat) (e : Ending) (w' : World) : Prop :=
  ∃ u O', e = .returned (.tuple #[u, .int .i64 0]) ∧ bytesIn w' u (bytesAt (outOf (all ++ zs)) ((outOf all).length / 8) ((outOf (all ++ zs)).length / 8 - (outOf all).length / 8)) ∧ (∀ b, inBlock u b → (O b ∨ W.heap.size ≤ b) ∧ ¬ O' b) ∧ isDW w' v (all ++ zs) O' ∧ (∀ b, O' b → O b ∨ W.heap.size ≤ b) ∧ Past O W w'
theorem outOf_len (all : List Nat) : (outOf all).length ≤ 8 * (all.length + 5 * (all.length / 4096 + 1)) := by
  have := blocksOf_length all (fullOf all.length) (fullOf_le _)
  unfold outOf
  have h2 : fullOf all.length ≤ all.length / 4096 := by unfold fullOf; omega
  have h3 := fullOf_le all.length
  omega
set_option maxHeartbeats 4000000 in
set_option maxRecDepth 100000 in
theorem write_code (W : World) (v bv : Value) (all zs : List Nat) (O : Nat → Prop) (hd : isDW W v all O) (hb : bytesIn W bv zs) (h8 : ∀ x ∈ all ++ zs, x < 256) (hbO : ∀ b, inBlock bv b → ¬ O b) (hl : (all ++ zs).length ≤ 100000000) :
    Calls Tryd.prog 10 #[v, bv] W (Wrote W O v all zs) := by
  obtain ⟨h, g, ov, OP, rfl, hh, hmid, hpack, hne, rfl⟩ := hd
  obtain ⟨q0, q5, q6, _, hglt⟩ := hpack.cells
  have hh0 := cell_of_block hh 0
  obtain ⟨OB, OK, hw, _⟩ := id hpack
  obtain ⟨va, rfl⟩ := isW_ptr hw
  have KS := fun (w : World) a b => state_code h g false w a b
  have hst := KS W hh0 q6
  have HH := Lib.hid hh
  have HNE := Lib.hid hne
  have H8 := Lib.hid h8
  have HPK := Lib.hid hpack
  have hblt : ∀ b, inBlock bv b → b < W.heap.size ∧ ¬ OP b := fun b hb' => ⟨inBlock_lt hb hb', fun h => hbO b hb' (.inr h)⟩
  have HBL := Lib.hid hblt
  have HM0 : Hid (Mid W OP g (.pointer va) ((outOf all).length / 8) (all ++ zs.take 0) (fullOf (all ++ zs.take 0).length) W) := by
    show Mid _ _ _ _ _ _ _ _
    rw [List.take_zero, List.append_nil]
    exact hmid
  have HB0 : Hid (bytesIn W bv (zs.drop 0)) := hb
  obtain ⟨bo, bc, rfl⟩ := listed_length hb
  have HL := Lib.hid hl
  obtain ⟨T, eT⟩ : ∃ T, (outOf all).length / 8 = T := ⟨_, rfl⟩
  have ET := Lib.hid eT
  rw [eT] at HM0
  clear hh hmid hpack hne hb h8 hbO hl hw hblt eT KS
  go_enter Tryd.func10, Tryd.ntmps10
  go_wp2_with fail
  go_at_call 22
  refine hst.mono ?_
  rintro e w' ⟨rfl, rfl⟩
  clear hst
  go_wp2_with fail
  have HH0 := Lib.hid (cell_of_block HH.out 0 : W.cell? ⟨h, 0, none⟩ = some (.pointer (some ⟨g, 0, none⟩)))
  have HHL := Lib.hid (Array.getElem?_eq_some_iff.1 HH.out).1
  clear q0 q5 q6 hh0
  go_loopw [1] (fun s1 wr => ∃ k : Nat, k ≤ zs.length ∧ Hid (bytesIn W s1 (zs.drop k)) ∧ Hid (∀ b, inBlock s1 b → b < W.heap.size ∧ ¬ OP b) ∧ Hid (Mid W OP g (.pointer va) T (all ++ zs.take k) (fullOf (all ++ zs.take k).length) wr)) (fun s1 _ => lenV s1)
  case atStart => exact ⟨0, Nat.zero_le _, HB0, HBL, HM0⟩
  case round =>
    obtain ⟨k, hk, hr, hbk, hM⟩ := hrel
    obtain ⟨c0, c5, c6, cf, cg⟩ := hM.out.cells
    have hh1 := (World.cell?_of_block (w := W) (a := ⟨h, 0, none⟩) (hM.out.past.block h HHL.out HNE.out)).trans HH0.out
    obtain ⟨so, sc, es⟩ := listed_length hr.out
    obtain ⟨zl, ezl⟩ : ∃ x, zs.length = x := ⟨_, rfl⟩
    obtain ⟨m, em⟩ : ∃ m, zl - k = m := ⟨_, rfl⟩
    have EM : Hid (zs.length - k = m) := by rw [ezl]; exact em
    have hlt : (all ++ zs.take k).length ≤ 100000000 := by
      have := HL.out
      rw [List.length_append] at this ⊢
      rw [List.length_take]
      omega
    have hfle := fullOf_le (all ++ zs.take k).length
    have hful : fullOf (all ++ zs.take k).length = ((all ++ zs.take k).length - 1) / 4096 := rfl
    rw [List.length_drop, EM.out] at es
    subst es
    rw [ezl] at hk
    by_cases hm : m = 0
    · subst hm
      have hkz : zs.take k = zs := List.take_of_length_le (by omega)
      rw [hkz] at hM hlt
      have KT := RunP.take hM.out (by have := outOf_len (all ++ zs); unfold outOf at this; omega) (by
        obtain ⟨y, hy⟩ := outOf_more all zs
        have : (outOf all).length ≤ (outOf (all ++ zs)).length := by rw [hy, List.length_append]; omega
        unfold outOf at this
        have := ET.out
        unfold outOf at this
        omega)
      clear c5 c6 cf
      go_wp2_with fail
      go_at_call 18
      refine KT.mono ?_
      rintro e w7 ⟨u, O7, rfl, j1, j2, j3, j4, j5⟩
      obtain ⟨uo, ul, uc, eu⟩ : ∃ o n c, u = .slice o n c := by
        obtain ⟨o, c, h⟩ := listed_length j1
        exact ⟨o, _, c, h⟩
      have HFIN : Hid (Wrote W (fun k => k = h ∨ OP k) (.pointer (some ⟨h, 0, none⟩)) all zs (.returned (.tuple #[u, .int .i64 0])) w7) := by
        refine ⟨u, _, rfl, ?_, fun b hb => ?_, isDW_mk ((j5.block h HHL.out HNE.out).trans HH.out) j2 (fun ho => (j4 h ho).elim HNE.out (fun h2 => by have := HHL.out; omega)), fun b hb => ?_, ⟨j5.os, j5.tape, j5.output, j5.size, fun k hk hn => j5.block k hk (fun h2 => hn (.inr h2))⟩⟩
        · rw [ET.out]
          exact j1
        · obtain ⟨a1, a2⟩ := j3 b hb
          refine ⟨a1.elim (fun h2 => .inl (.inr h2)) .inr, fun h2 => h2.elim (fun h3 => ?_) a2⟩
          subst h3
          rcases a1 with a1 | a1
          · exact HNE.out a1
          · have := HHL.out
            omega
        · rcases hb with rfl | hb
          · exact .inl (.inl rfl)
          · exact (j4 b hb).elim (fun h2 => .inl (.inr h2)) .inr
      subst eu
      clear j1 j2 j3 j4 j5
      go_wp2_with fail
      exact bodyPost_ret (v := .tuple #[.slice uo ul uc, .int .i64 0]) (by simp [results, Tryd.results10, asAddr, go_sem]) rfl HFIN.out
    · have d0 : decide ((0 : Int) < (m : Int)) = true := decide_eq_true (by omega)
      have d0n : decide (0 < m) = true := decide_eq_true (by omega)
      obtain ⟨c, ec⟩ : ∃ c, (all ++ zs.take k).length = c := ⟨_, rfl⟩
      have EC := Lib.hid ec
      rw [ec] at hlt hfle hful hM c5
      obtain ⟨J, eJ⟩ : ∃ J, fullOf c = J := ⟨_, rfl⟩
      rw [eJ] at hfle hful hM c5
      have hc1 : c ≤ 4096 * (J + 1) := by omega
      have EZ := Lib.hid ezl
      obtain ⟨n5, en5⟩ : ∃ n, c - 4096 * J = n := ⟨_, rfl⟩
      rw [en5] at c5
      by_cases hop : n5 = 4096
      · have e1 : ((n5 : Int) == 4096) = true := by simp; omega
        have e2 : decide ((n5 : Int) = 4096) = true := decide_eq_true (by omega)
        have KB := hM.out.block (fun x hx => H8.out x ((List.mem_append.1 hx).elim (fun h => List.mem_append.2 (.inl h)) (fun h => List.mem_append.2 (.inr (List.mem_of_mem_take h))))) (by rw [EC.out]; omega) (by omega)
        clear cf c6 ec
        go_wp2_with fail
        go_at_call 23
        refine KB.mono ?_
        rintro e w5 ⟨rfl, hM5⟩
        have HM5 := Lib.hid hM5
        have HR5 := hr
        obtain ⟨nn, enn⟩ : ∃ n : Nat, n = 0 := ⟨_, rfl⟩
        clear KB hM5 c0 c5 hh1
        obtain ⟨r, er⟩ : ∃ r, 4096 - nn = r := ⟨_, rfl⟩
        have hrr : (4096 : Int) - (nn : Int) = (r : Int) := by omega
        have hnr : nn + r = 4096 := by omega
        clear er
        obtain ⟨N, eN⟩ : ∃ N, min m r = N := ⟨_, rfl⟩
        obtain ⟨ut, hslt, hut, hubt⟩ := listed_take bytes_type bytes_one HR5.out N (by rw [List.length_drop, ezl]; omega)
        obtain ⟨ud, hsld, hud, hubd⟩ := listed_drop bytes_type bytes_one HR5.out N (by rw [List.length_drop, ezl]; omega)
        have hlN : ((zs.drop k).take N).length = N := by rw [List.length_take, List.length_drop, ezl]; omega
        have hcat : all ++ zs.take k ++ (zs.drop k).take N = all ++ zs.take (k + N) := by rw [List.append_assoc, ← List.take_add]
        have hNm : N ≤ m := by omega
        have hN1 : 1 ≤ N := by omega
        have hNr : N ≤ r := by omega
        have hmin := fun w => min_small (m : Int) (r : Int) w
        have hif : (if (r : Int) < (m : Int) then (r : Int) else (m : Int)) = (N : Int) := by split <;> omega
        rw [hif] at hmin
        have HMD : Mid W OP g (.pointer va) T (all ++ zs.take k) (J + 1) w5.drew := RunP.drew HM5.out
        have KA := HMD.add ut ((zs.drop k).take N) (listed_past hut HMD.past (fun b hb => (hbk.out b (hubt b hb)).2)) (fun x hx => H8.out x (by rw [hcat] at hx; exact (List.mem_append.1 hx).elim (fun h => List.mem_append.2 (.inl h)) (fun h => List.mem_append.2 (.inr (List.mem_of_mem_take h))))) (fun b hb => hbk.out b (hubt b hb)) (by rw [EC.out]; omega) (by rw [hlN, EC.out]; omega) (by rw [EC.out]; omega)
        have hnn : (all ++ zs.take k ++ (zs.drop k).take N).length - 4096 * (J + 1) = nn + N := by rw [List.length_append, hlN, EC.out]; omega
        rw [hnn, hcat, EC.out, show c - 4096 * (J + 1) = nn by omega] at KA
        have hsum : (nn : Int) + (N : Int) = ((nn + N : Nat) : Int) := by omega
        obtain ⟨oN, eoN⟩ : ∃ x, nn + N = x := ⟨_, rfl⟩
        rw [eoN] at KA hsum
        have hoN : oN ≤ 4096 := by omega
        have hnn2 : nn ≤ 4096 := by omega
        have HFUL : Hid (fullOf (all ++ zs.take (k + N)).length = (J + 1)) := by
          refine fullOf_is ?_ ?_
          · rw [← hcat, List.length_append, hlN, EC.out]; omega
          · rw [← hcat, List.length_append, hlN, EC.out]; omega
        have HUD := Lib.hid hud
        have HUBD : Hid (∀ b, inBlock ud b → b < W.heap.size ∧ ¬ OP b) := fun b hb => hbk.out b (hubd b hb)
        have HDN : Hid ((zs.drop k).drop N = zs.drop (k + N)) := List.drop_drop ..
        have HP5 := Lib.hid HM5.out.past
        have HS5 : Hid (W.heap.size ≤ w5.heap.size) := HM5.out.past.size
        obtain ⟨g0, g5, g6, gf, gg⟩ := HM5.out.cells
        rw [EC.out, show c - 4096 * (J + 1) = nn by omega] at g5
        have hh5 := (World.cell?_of_block (w := W) (a := ⟨h, 0, none⟩) (HP5.out.block h HHL.out HNE.out)).trans HH0.out
        have hlen : N ≤ 4096 := by omega
        obtain ⟨uto, utc, eut⟩ := listed_length hut
        obtain ⟨udo, udc, eud⟩ := listed_length hud
        rw [hlN] at eut
        have hldr : ((zs.drop k).drop N).length = m - N := by rw [List.length_drop, List.length_drop, ezl]; omega
        rw [hldr] at eud
        subst eut
        subst eud
        clear hut hubt hud hubd hlN hcat hnn eoN hif eN gf hldr enn
        go_wp2_with fail
        refine wp_region_still_tail 9 (by kernel_rfl) (by kernel_rfl) ?_
        simp only [List.take_succ_cons, List.take_zero, List.drop_succ_cons, List.drop_zero]
        repeat still_step
        refine wpStill_nil ?_
        change wpList _ _ _ _ _ w5.drew
        go_wp2_with (go_at_call 24; refine KA.mono ?_; rintro e w6 ⟨rfl, ⟨c5, f5⟩, hp6, hM6⟩; have hh6 := (World.cell?_of_block (w := W) (a := ⟨h, 0, none⟩) (hp6.block h HHL.out HNE.out)).trans HH0.out; have HM6 := Lib.hid hM6; clear hp6 hM6 g0 g5 g6 gg hh5)
        go_roundw
        case rel => exact ⟨k + N, by omega, by rw [← HDN.out]; exact HUD, HUBD, by rw [HFUL.out]; exact HM6.out⟩
        case measure => simp [lenV]; omega
      · have e1 : ((n5 : Int) == 4096) = false := by simp; omega
        have e2 : decide ((n5 : Int) = 4096) = false := decide_eq_false (by omega)
        have HR5 := hr
        have HM5 := hM
        obtain ⟨w5, ew5⟩ : ∃ x, x = wr := ⟨_, rfl⟩
        subst ew5
        obtain ⟨nn, enn⟩ : ∃ n : Nat, n = c - 4096 * J := ⟨_, rfl⟩
        obtain ⟨r, er⟩ : ∃ r, 4096 - nn = r := ⟨_, rfl⟩
        have hrr : (4096 : Int) - (nn : Int) = (r : Int) := by omega
        have hnr : nn + r = 4096 := by omega
        rw [← en5, ← enn] at c5 e1 e2
        clear cf c6 ec c0 hh1 c5 er
        obtain ⟨N, eN⟩ : ∃ N, min m r = N := ⟨_, rfl⟩
        obtain ⟨ut, hslt, hut, hubt⟩ := listed_take bytes_type bytes_one HR5.out N (by rw [List.length_drop, ezl]; omega)
        obtain ⟨ud, hsld, hud, hubd⟩ := listed_drop bytes_type bytes_one HR5.out N (by rw [List.length_drop, ezl]; omega)
        have hlN : ((zs.drop k).take N).length = N := by rw [List.length_take, List.length_drop, ezl]; omega
        have hcat : all ++ zs.take k ++ (zs.drop k).take N = all ++ zs.take (k + N) := by rw [List.append_assoc, ← List.take_add]
        have hNm : N ≤ m := by omega
        have hN1 : 1 ≤ N := by omega
        have hNr : N ≤ r := by omega
        have hmin := fun w => min_small (m : Int) (r : Int) w
        have hif : (if (r : Int) < (m : Int) then (r : Int) else (m : Int)) = (N : Int) := by split <;> omega
        rw [hif] at hmin
        have HMD : Mid W OP g (.pointer va) T (all ++ zs.take k) (J) w5.drew := RunP.drew HM5.out
        have KA := HMD.add ut ((zs.drop k).take N) (listed_past hut HMD.past (fun b hb => (hbk.out b (hubt b hb)).2)) (fun x hx => H8.out x (by rw [hcat] at hx; exact (List.mem_append.1 hx).elim (fun h => List.mem_append.2 (.inl h)) (fun h => List.mem_append.2 (.inr (List.mem_of_mem_take h))))) (fun b hb => hbk.out b (hubt b hb)) (by rw [EC.out]; omega) (by rw [hlN, EC.out]; omega) (by rw [EC.out]; omega)
        have hnn : (all ++ zs.take k ++ (zs.drop k).take N).length - 4096 * J = nn + N := by rw [List.length_append, hlN, EC.out]; omega
        rw [hnn, hcat, EC.out, show c - 4096 * J = nn by omega] at KA
        have hsum : (nn : Int) + (N : Int) = ((nn + N : Nat) : Int) := by omega
        obtain ⟨oN, eoN⟩ : ∃ x, nn + N = x := ⟨_, rfl⟩
        rw [eoN] at KA hsum
        have hoN : oN ≤ 4096 := by omega
        have hnn2 : nn ≤ 4096 := by omega
        have HFUL : Hid (fullOf (all ++ zs.take (k + N)).length = J) := by
          refine fullOf_is ?_ ?_
          · rw [← hcat, List.length_append, hlN, EC.out]; omega
          · rw [← hcat, List.length_append, hlN, EC.out]; omega
        have HUD := Lib.hid hud
        have HUBD : Hid (∀ b, inBlock ud b → b < W.heap.size ∧ ¬ OP b) := fun b hb => hbk.out b (hubd b hb)
        have HDN : Hid ((zs.drop k).drop N = zs.drop (k + N)) := List.drop_drop ..
        have HP5 := Lib.hid HM5.out.past
        have HS5 : Hid (W.heap.size ≤ w5.heap.size) := HM5.out.past.size
        obtain ⟨g0, g5, g6, gf, gg⟩ := HM5.out.cells
        rw [EC.out, show c - 4096 * J = nn by omega] at g5
        have hh5 := (World.cell?_of_block (w := W) (a := ⟨h, 0, none⟩) (HP5.out.block h HHL.out HNE.out)).trans HH0.out
        have hlen : N ≤ 4096 := by omega
        obtain ⟨uto, utc, eut⟩ := listed_length hut
        obtain ⟨udo, udc, eud⟩ := listed_length hud
        rw [hlN] at eut
        have hldr : ((zs.drop k).drop N).length = m - N := by rw [List.length_drop, List.length_drop, ezl]; omega
        rw [hldr] at eud
        subst eut
        subst eud
        clear hut hubt hud hubd hlN hcat hnn eoN hif eN gf hldr enn
        go_wp2_with fail
        refine wp_region_still_tail 9 (by kernel_rfl) (by kernel_rfl) ?_
        simp only [List.take_succ_cons, List.take_zero, List.drop_succ_cons, List.drop_zero]
        repeat still_step
        refine wpStill_nil ?_
        change wpList _ _ _ _ _ w5.drew
        go_wp2_with (go_at_call 24; refine KA.mono ?_; rintro e w6 ⟨rfl, ⟨c5, f5⟩, hp6, hM6⟩; have hh6 := (World.cell?_of_block (w := W) (a := ⟨h, 0, none⟩) (hp6.block h HHL.out HNE.out)).trans HH0.out; have HM6 := Lib.hid hM6; clear hp6 hM6 g0 g5 g6 gg hh5)
        go_roundw
        case rel => exact ⟨k + N, by omega, by rw [← HDN.out]; exact HUD, HUBD, by rw [HFUL.out]; exact HM6.out⟩
        case measure => simp [lenV]; omega
end Go.Proofs.YtbhmjppnhlmefaaDoor.Fx
