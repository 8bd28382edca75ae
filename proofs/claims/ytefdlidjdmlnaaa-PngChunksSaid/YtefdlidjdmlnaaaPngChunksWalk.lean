/-
  A file is its sign and whole chunks. The conditions stand in each.
-/
import Derived.Test.YtefdlidjdmlnaaaPngA
import Derived.Test.YtefdlidjdmlnaaaPngK
namespace Go.Proofs.Ytefdlidjdmlnaaa.Fx
open Go Go.RowKit Go.Joins
set_option linter.unusedVariables false
/-- An encoder beside the row of what it told. -/
structure CAt (w0 wk : World) (va : Value) (w h : Nat) (px : Nat → Px) (k : Nat) (O : Nat → Prop) (v : Value) (T : List Nat) : Prop where
  enc : encAt wk va w h px k O
  old : ∀ q, O q → w0.heap.size ≤ q
  row : wk.ownsRow 0 5 1 v T.length (T.map byteVal)
  new : ∀ q, v.ownBlock = some q → w0.heap.size ≤ q ∧ ¬ O q
  below : Below w0.heap.size w0 wk
theorem CAt.put {w0 wk w5 : World} {va : Value} {w h : Nat} {px : Nat → Px} {k : Nat} {O O5 : Nat → Prop} {v : Value} {T : List Nat} (m : CAt w0 wk va w h px k O v T) (he : encAt w5 va w h px (k + 1) O5) (ho : ∀ q, O5 q → O q ∨ wk.heap.size ≤ q) (hp : Past O wk w5) : CAt w0 w5 va w h px (k + 1) O5 v T := {
  enc := he
  old := fun q hq => (ho q hq).elim (m.old q) (fun h' => Nat.le_trans m.below.size h')
  row := owns_kept m.row (fun q hq => hp.block q (m.row.lt q hq).2 (m.new q hq).2)
  new := fun q hq => ⟨(m.new q hq).1, fun hO => (ho q hO).elim (m.new q hq).2 (fun h' => by have := (m.row.lt q hq).2; omega)⟩
  below := m.below.trans (hp.below m.old m.below.size) }
theorem CAt.more {w0 wk w' : World} {va : Value} {w h : Nat} {px : Nat → Px} {k : Nat} {O : Nat → Prop} {v v' : Value} {T zs : List Nat} (m : CAt w0 wk va w h px k O v T) (n : Nat) (hn : (T ++ zs).length = n) (h1 : w'.ownsRow 0 5 1 v' n ((T ++ zs).map byteVal)) (h2 : wk.grownBy w' v.ownBlock) (h3 : ∀ q, v'.ownBlock = some q → v.ownBlock = some q ∨ wk.heap.size ≤ q) : CAt w0 w' va w h px k O v' (T ++ zs) := by
  subst hn
  have hlt := encAt_lt m.enc
  have hp : Past (fun q => v.ownBlock = some q) wk w' := ⟨h2.os, h2.tape, h2.output, h2.size, fun q hq hn => h2.block q hq (fun e => hn e.symm)⟩
  exact {
    enc := encAt_keep m.enc h2.size (fun q hq => hp.block q (hlt q hq) (fun e => (m.new q e).2 hq))
    old := m.old
    row := h1
    new := fun q hq => (h3 q hq).elim (m.new q) (fun h' => ⟨Nat.le_trans m.below.size h', fun hO => by have := hlt q hO; omega⟩)
    below := m.below.trans (hp.below (fun q hq => (m.new q hq).1) m.below.size) }
theorem piece_short (w h : Nat) (px : Nat → Px) (k : Nat) (hk : k ≤ 1000000) : (pieceAt w h px k).length ≤ 400000100 := by
  have hal := all_length w h px (k + 1)
  rw [allAt] at hal
  have h1 := packed_length (decide (0 < k)) (allAt w h px k) (wroteOf (flagAt w h k) (px k).list) (decide (k + 1 = w * h)) (by omega)
  have h2 := headAt_length w h k
  unfold pieceAt pieceOf
  simp only [List.length_append]
  have h3 : (if packedOf (decide (0 < k)) (allAt w h px k) (wroteOf (flagAt w h k) (px k).list) (decide (k + 1 = w * h)) = [] then [] else chunkOf kindData (packedOf (decide (0 < k)) (allAt w h px k) (wroteOf (flagAt w h k) (px k).list) (decide (k + 1 = w * h)))).length ≤ 400000022 := by
    split
    · exact Nat.zero_le _
    · rw [chunk_length _ _ rfl]
      omega
  have h4 : (if decide (k + 1 = w * h) = true then chunkOf kindEnd [] else []).length ≤ 12 := by
    split
    · rw [chunk_length _ _ rfl]
      exact Nat.le_refl _
    · exact Nat.zero_le _
  omega
theorem head_word : textOf kindHead = ⟨#[73, 72, 68, 82]⟩ := by decide +kernel
theorem end_word : textOf kindEnd = ⟨#[73, 69, 78, 68]⟩ := by decide +kernel
set_option maxHeartbeats 4000000 in
set_option maxRecDepth 100000 in
theorem pchunks_law (D : PDoes) (W : World) (wa ha : Int) (a b c d : Nat) (a1 : -9223372036854775808 ≤ wa) (a2 : wa ≤ 9223372036854775807) (b1 : -9223372036854775808 ≤ ha) (b2 : ha ≤ 9223372036854775807) (pa : a ≤ 255) (pb : b ≤ 255) (pc : c ≤ 255) (pd : d ≤ 255) :
    Calls Try.prog 7 #[.int .i64 wa, .int .i64 ha, .agg (px4 a b c d)] W fun e w' => e = .returned (.bool true) ∧ Below W.heap.size W w' := by
  obtain ⟨px, epx⟩ : ∃ px : Nat → Px, px = fun _ => ⟨a, b, c, d⟩ := ⟨_, rfl⟩
  have HOK : Hid (∀ k, (px k).ok) := by
    intro k
    rw [epx]
    exact ⟨by show a < 256; omega, by show b < 256; omega, by show c < 256; omega, by show d < 256; omega⟩
  have HCL : Hid (∀ k, (px k).cells = px4 a b c d) := by
    intro k
    rw [epx]
  obtain ⟨w0, ew0⟩ : ∃ v, v = W.alloc (.cells (px4 a b c d) 39) := ⟨_, rfl⟩
  have HB0 : Hid (Below W.heap.size W w0) := by
    show Below _ _ _
    rw [ew0]
    exact below_alloc1 _ _
  have hx0 : w0.heap[W.heap.size]? = some (.cells (px4 a b c d) 39 (0, 0)) := by rw [ew0]; exact heap_alloc_new _ _
  have hs0 : W.heap.size < w0.heap.size := (Array.getElem?_eq_some_iff.1 hx0).1
  have HX : Hid (∀ w', Below w0.heap.size w0 w' → w'.heap[W.heap.size]? = some (.cells (px4 a b c d) 39 (0, 0))) := fun w' h => (h.block _ hs0).trans hx0
  have K1 : Hid (∀ w', Calls Try.prog 19 #[.int .i64 wa, .int .i64 16] w' fun e w'' => (∃ p : Nat, e = .returned (.int .i64 (p : Int)) ∧ ((1 : Int) ≤ 16 → (p : Int) < 16)) ∧ w' = w'') := fun w' => pick_any wa 16 ⟨a1, a2⟩ (by decide) (by decide) w'
  have K2 : Hid (∀ w', Calls Try.prog 19 #[.int .i64 ha, .int .i64 16] w' fun e w'' => (∃ p : Nat, e = .returned (.int .i64 (p : Int)) ∧ ((1 : Int) ≤ 16 → (p : Int) < 16)) ∧ w' = w'') := fun w' => pick_any ha 16 ⟨b1, b2⟩ (by decide) (by decide) w'
  clear a1 a2 b1 b2 pa pb pc pd epx hx0 hs0
  go_enter Try.func7, Try.ntmps7
  go_upto_region 1 with fail
  rw [← ew0]
  clear ew0
  go_wp2_with fail
  go_at_call 19
  refine (K1.out _).mono ?_
  rintro e w' ⟨⟨p, rfl, hp⟩, rfl⟩
  have hp := hp (by decide)
  clear K1
  obtain ⟨w, ew⟩ : ∃ w, p + 1 = w := ⟨_, rfl⟩
  have hw : 1 + (p : Int) = (w : Int) := by omega
  have hw1 : 1 ≤ w := by omega
  have hw2 : w ≤ 16 := by omega
  clear ew
  go_wp2_with fail
  go_at_call 19
  refine (K2.out _).mono ?_
  rintro e w' ⟨⟨q, rfl, hq⟩, rfl⟩
  have hq := hq (by decide)
  clear K2
  obtain ⟨h, eh⟩ : ∃ h, q + 1 = h := ⟨_, rfl⟩
  have hh : 1 + (q : Int) = (h : Int) := by omega
  have hh1 : 1 ≤ h := by omega
  have hh2 : h ≤ 16 := by omega
  obtain ⟨M, eM⟩ : ∃ M, w * h = M := ⟨_, rfl⟩
  have hM : M ≤ 256 := by
    have : w * h ≤ 16 * 16 := Nat.mul_le_mul hw2 hh2
    omega
  have hM1 : 1 ≤ M := by rw [← eM]; exact Nat.mul_pos hw1 hh1
  have hmul : (w : Int) * (h : Int) = (M : Int) := by rw [← eM]; exact (Int.natCast_mul w h).symm
  have HM := Lib.hid eM
  clear eh eM
  have KP : Hid (∀ (v : Value) (k : Nat) (O : Nat → Prop) (w' : World), encAt w' v w h px k O → k < M → Calls Try.prog 17 #[v, .agg (px4 a b c d)] w' fun e w'' => ∃ o n c O', e = .returned (.tuple #[.slice o n c, .int .i64 0]) ∧ Hid ((pieceAt w h px k).length = n) ∧ Hid (bytesIn w'' (.slice o n c) (pieceAt w h px k)) ∧ Hid (encAt w'' v w h px (k + 1) O') ∧ Hid (∀ q, O' q → O q ∨ w'.heap.size ≤ q) ∧ Hid (Past O w' w'')) := fun v k O w' hE hk => by
    have h1 := put_at w' v w h px k O HOK.out hE (by rw [HM.out]; exact hk) (by rw [HM.out]; omega)
    rw [HCL.out] at h1
    exact h1
  go_wp2_with fail
  go_at_call 10
  refine (new_at w h px w0 hw1 (by omega) hh1 (by omega)).mono ?_
  rintro e w1 ⟨va, O1, rfl, HE1, HO1, HB1⟩
  clear hp hq hw hh
  have HC1 : Hid (CAt w0 w1 (.pointer va) w h px 0 O1 (.slice none 0 0) []) := {
    enc := HE1.out
    old := HO1.out
    row := World.ownsRow_nil _ _ _ _
    new := fun q hq => by simp [Value.ownBlock] at hq
    below := HB1.out }
  clear HE1 HO1 HB1
  go_wp2_with fail
  go_loopw [9, 10] (fun s9 s10 wk => ∃ (k : Nat) (O : Nat → Prop) (o : Option Addr) (n c : Nat), k ≤ M ∧ s10 = .int .i64 (k : Int) ∧ s9 = .slice o n c ∧ n ≤ 400000100 * k ∧ Hid ((wholeTo w h px k).length = n) ∧ Hid (CAt w0 wk (.pointer va) w h px k O (.slice o n c) (wholeTo w h px k))) (fun _ s10 _ => M - (intOf s10).toNat)
  case atStart => exact ⟨0, O1, none, 0, 0, Nat.zero_le _, rfl, rfl, Nat.le_refl _, rfl, HC1.out⟩
  case round =>
    clear HC1
    obtain ⟨k, O, uo, tn, tc, hk, rfl, rfl, htn, HTN, HC⟩ := hrel
    by_cases hkM : k < M
    · have d1 : decide ((k : Int) < (M : Int)) = true := decide_eq_true (by omega)
      have d1' : decide (k < M) = true := decide_eq_true hkM
      have hx1 := HX.out wr HC.out.below
      have x0 := cell_of_block hx1 0
      have x1 := cell_of_block hx1 1
      have x2 := cell_of_block hx1 2
      have x3 := cell_of_block hx1 3
      clear hx1
      go_wp2_with fail
      go_at_call 17
      refine (KP.out _ k O wr HC.out.enc hkM).mono ?_
      rintro e w5 ⟨o5, n5, c5, O5, rfl, HN5, HU5, HE5, HO5, HP5⟩
      have HC5 : Hid (CAt w0 w5 (.pointer va) w h px (k + 1) O5 (.slice uo tn tc) (wholeTo w h px k)) := HC.out.put HE5.out HO5.out HP5.out
      have hn5 : n5 ≤ 400000100 := by rw [← HN5.out]; exact piece_short w h px k (by omega)
      have hrow := HC5.out.row
      rw [HTN.out] at hrow
      have HROW := Lib.hid hrow
      clear x0 x1 x2 x3 HE5 HO5 HP5 HC hrow
      go_wp2_with (at_builtin; refine wpList_append_to (c := byteVal) rfl _ _ 36 rfl 5 (.int .u8 0) 1 Try.underlying36 infoU8 rfl (fun _ => rfl) (.slice uo tn tc) tn (wholeTo w h px k) rfl HROW.out (.slice o5 n5 c5) (pieceAt w h px k) rfl HU5.out (by rw [HN5.out]; unfold maxLen; omega) (by rw [HN5.out]; omega) ?_; intro v6 w6 g1 g2 g3; have HG1 := Lib.hid g1; have HG2 := Lib.hid g2; have HG3 := Lib.hid g3; obtain ⟨o6, c6, rfl⟩ := row_shape g1; clear g1 g2 g3)
      have HNN : Hid ((wholeTo w h px k ++ pieceAt w h px k).length = tn + (pieceAt w h px k).length) := by show _ = _; rw [List.length_append, HTN.out]
      have HC6 := Lib.hid (HC5.out.more _ HNN.out HG1.out HG2.out HG3.out)
      clear HG1 HG2 HG3 HC5 HROW
      rw [HN5.out] at HC6 HNN ⊢
      obtain ⟨n6, en6⟩ : ∃ v, tn + n5 = v := ⟨_, rfl⟩
      have hn6 : n6 ≤ 400000100 * (k + 1) := by omega
      rw [en6] at HC6 HNN ⊢
      clear en6 hn5 HN5 HU5
      go_roundw
      case rel => exact ⟨k + 1, O5, o6, n6, c6, by omega, by first | rfl | go_num, rfl, hn6, HNN.out, HC6.out⟩
      case measure => simp [intOf]; omega
    · obtain rfl : k = M := by omega
      have d1 : decide ((k : Int) < (k : Int)) = false := decide_eq_false (by omega)
      have htn2 : tn ≤ 102400025600 := by omega
      have HB8 : Hid (Below W.heap.size W wr) := HB0.out.trans (HC.out.below.mono HB0.out.size)
      obtain ⟨T, eT⟩ : ∃ T, wholeTo w h px k = T := ⟨_, rfl⟩
      obtain ⟨cs, ecs⟩ : ∃ cs, chsTo w h px k = cs := ⟨_, rfl⟩
      have hT : T = signOf ++ flatOf cs := by rw [← eT, ← ecs, whole_chs, if_neg (by omega)]
      have HOKC : Hid (∀ c ∈ cs, chOk c) := by
        show ∀ c ∈ cs, chOk c
        rw [← ecs]
        exact chs_ok w h px k (by omega)
      obtain ⟨ds, eds⟩ : ∃ ds, cs = (kindHead, saysOf w h) :: ds := by
        obtain ⟨ds, e⟩ := chs_head w h px k hM1
        exact ⟨ds, by rw [← ecs, e]⟩
      obtain ⟨fs, efs⟩ : ∃ fs, cs = fs ++ [(kindEnd, [])] := by
        obtain ⟨k1, rfl⟩ : ∃ k1, k = k1 + 1 := ⟨k - 1, by omega⟩
        obtain ⟨fs, e⟩ := chs_last w h px k1 HM.out.symm
        exact ⟨fs, by rw [← ecs, e]⟩
      have hu : bytesIn wr (.slice uo tn tc) T := by rw [← eT]; exact own_listed HC.out.row
      have hTl : T.length = tn := by rw [← eT, HTN.out]
      obtain ⟨K, eK⟩ : ∃ K, cs.length = K := ⟨_, rfl⟩
      have hK1 : 1 ≤ K := by rw [← eK, eds, List.length_cons]; omega
      have HFIRST : Hid (cs[0]? = some (kindHead, saysOf w h)) := by show _ = _; rw [eds]; rfl
      have HLAST : Hid (∀ j, j + 1 = K → cs[j]? = some (kindEnd, [])) := fun j hj => by
        rw [efs, List.length_append, List.length_singleton] at eK
        rw [efs, List.getElem?_append_right (by omega)]
        rw [show j - fs.length = 0 by omega]
        rfl
      have HEND : Hid (posOf cs K = tn) := by show _ = _; rw [← eK, pos_end, ← hT, hTl]
      have HAT : Hid (∀ (j : Nat) (c : List Nat × List Nat), cs[j]? = some c → posOf cs (j + 1) = posOf cs j + (c.2.length + 12) ∧ posOf cs (j + 1) ≤ tn ∧ T[posOf cs j]? = some (c.2.length / 16777216 % 256) ∧ T[posOf cs j + 1]? = some (c.2.length / 65536 % 256) ∧ T[posOf cs j + 2]? = some (c.2.length / 256 % 256) ∧ T[posOf cs j + 3]? = some (c.2.length % 256) ∧ (T.take (posOf cs j + 8)).drop (posOf cs j + 4) = c.1) := fun j c hj => by
        have h1 := at_chunk cs j c hj (HOKC.out c (List.mem_of_getElem? hj)) T hT
        rw [hTl] at h1
        exact h1
      have HLEN : Hid (cs.length = K) := eK
      have HTL := Lib.hid hTl
      have HMON : Hid (∀ j, 8 ≤ posOf cs j) := fun j => by unfold posOf; omega
      have HU := Lib.hid hu
      have hne : T ≠ [] := fun e => by rw [e] at hT; cases hT
      rcases hu with ⟨_, e⟩ | ⟨tb, tof, tcap, esl, tlt, tle, tcell⟩
      · exact absurd e hne
      simp only [Value.slice.injEq] at esl
      obtain ⟨rfl, h9, rfl⟩ := esl
      have HTC := Lib.hid tcell
      have HTLT := Lib.hid tlt
      clear h9 eT ecs hT eds efs hTl eK hne tlt tle tcell HC HTN htn
      go_wp2_with fail
      go_loopw [13, 14] (fun s13 s14 wk => ∃ (j p : Nat) (t : ByteArray), j ≤ K ∧ p ≤ tn ∧ s13 = .int .i64 (p : Int) ∧ s14 = .string t ∧ Hid (posOf cs j = p) ∧ Hid (j = K → t = ⟨#[73, 69, 78, 68]⟩) ∧ Hid (Below wr.heap.size wr wk)) (fun s13 _ _ => tn - (intOf s13).toNat)
      case atStart => exact ⟨0, 8, ⟨#[]⟩, Nat.zero_le _, by have := HMON.out K; rw [HEND.out] at this; exact this, rfl, rfl, pos_begin cs, fun e => by omega, Below.refl _ _⟩
      case round =>
        rename World => wq
        obtain ⟨j, p, t, hj, hpn, rfl, rfl, HPJ, HT, HBQ⟩ := hrel
        obtain ⟨p12, ep12⟩ : ∃ x, p + 12 = x := ⟨_, rfl⟩
        have a12 : (p : Int) + 12 = (p12 : Int) := by omega
        by_cases hjK : j < K
        · obtain ⟨c, hc⟩ : ∃ c, cs[j]? = some c := ⟨cs[j]'(by rw [HLEN.out]; exact hjK), List.getElem?_eq_getElem _⟩
          have hok := HOKC.out c (List.mem_of_getElem? hc)
          obtain ⟨g1, g2, g3, g4, g5, g6, g7⟩ := HAT.out j c hc
          obtain ⟨L, eL⟩ : ∃ L, c.2.length = L := ⟨_, rfl⟩
          have hL : L ≤ 400000010 := by rw [← eL]; exact hok.2
          rw [eL, HPJ.out] at g1
          rw [HPJ.out] at g3 g4 g5 g6 g7
          rw [eL] at g3 g4 g5 g6
          have hp8 : 8 ≤ p := by have := HMON.out j; rw [HPJ.out] at this; exact this
          obtain ⟨p', ep'⟩ : ∃ x, posOf cs (j + 1) = x := ⟨_, rfl⟩
          rw [ep'] at g1 g2
          have HPN : Hid (posOf cs (j + 1) = p') := ep'
          have m0 := (HBQ.out.cell (p := ⟨tb, tof + p, none⟩) HTLT.out).trans (HTC.out _ _ g3)
          have m1 := (HBQ.out.cell (p := ⟨tb, tof + (p + 1), none⟩) HTLT.out).trans (HTC.out _ _ g4)
          have m2 := (HBQ.out.cell (p := ⟨tb, tof + (p + 2), none⟩) HTLT.out).trans (HTC.out _ _ g5)
          have m3 := (HBQ.out.cell (p := ⟨tb, tof + (p + 3), none⟩) HTLT.out).trans (HTC.out _ _ g6)
          obtain ⟨x0, x1, x2, x3, X0, X1, X2, A1, A2, ex0, ex1, ex2, ex3, hff⟩ := four_facts L (by omega)
          have HFF := Lib.hid hff
          rw [ex0] at m0
          rw [ex1] at m1
          rw [ex2] at m2
          rw [ex3] at m3
          unfold byteVal at m0 m1 m2 m3
          clear hff ex0 ex1 ex2 ex3
          obtain ⟨p1, ep1⟩ : ∃ x, p + 1 = x := ⟨_, rfl⟩
          obtain ⟨p2, ep2⟩ : ∃ x, p + 2 = x := ⟨_, rfl⟩
          obtain ⟨p3, ep3⟩ : ∃ x, p + 3 = x := ⟨_, rfl⟩
          obtain ⟨p4, ep4⟩ : ∃ x, p + 4 = x := ⟨_, rfl⟩
          obtain ⟨p8, ep8⟩ : ∃ x, p + 8 = x := ⟨_, rfl⟩
          rw [ep1] at m1
          rw [ep2] at m2
          rw [ep3] at m3
          rw [ep4, ep8] at g7
          have hbig : p + 12 + L = p' := by omega
          have q1 : (p : Int) + 1 = (p1 : Int) := by omega
          have q2 : (p : Int) + 2 = (p2 : Int) := by omega
          have q3 : (p : Int) + 3 = (p3 : Int) := by omega
          have q4 : (p : Int) + 4 = (p4 : Int) := by omega
          have q8 : (p : Int) + 8 = (p8 : Int) := by omega
          have n0 : (p : Int) < (tn : Int) := by omega
          have n1 : (p1 : Int) < (tn : Int) := by omega
          have n2 : (p2 : Int) < (tn : Int) := by omega
          have n3 : (p3 : Int) < (tn : Int) := by omega
          have n0' : p < tn := by omega
          have n1' : p1 < tn := by omega
          have n2' : p2 < tn := by omega
          have n3' : p3 < tn := by omega
          have d2 : decide ((p12 : Int) ≤ (tn : Int)) = true := decide_eq_true (by omega)
          have d2' : decide (p12 ≤ tn) = true := decide_eq_true (by omega)
          obtain ⟨po, pq, hsl, hpl⟩ := listed_part bytes_type bytes_one HU.out p4 p8 (by omega) (by rw [HTL.out]; omega)
          rw [g7] at hpl
          have e84 : p8 - p4 = 4 := by omega
          rw [e84] at hsl hpl
          have HPL := Lib.hid hpl
          have HWP : Hid (IntKind.i64.wrap (p1 : Int) = (p1 : Int) ∧ IntKind.i64.wrap (p2 : Int) = (p2 : Int) ∧ IntKind.i64.wrap (p3 : Int) = (p3 : Int)) := ⟨small_wrap p1 (by omega), small_wrap p2 (by omega), small_wrap p3 (by omega)⟩
          have HCI := Lib.hid (And.intro hc hok)
          have HBIG := Lib.hid hbig
          have HEL := Lib.hid eL
          clear hc hok g1 g3 g4 g5 g6 g7 eL ep' hpl e84 hbig
          go_wp2_with fail
          obtain ⟨u0, u1, u2, u3, y0, y1, y2, v0, v1, v2, o1, o2, o3⟩ := HFF.out
          obtain ⟨w1', w2', w3'⟩ := HWP.out
          go_quiet (fail)
          clear u0 u1 u2 u3 y0 y1 y2 v0 v1 v2 o1 o2 o3 w1' w2' w3' HFF HWP m0 m1 m2 m3
          have HBN : Hid (Below wr.heap.size wr (wq.drewN nq)) := HBQ.out.trans ((⟨rfl, rfl, rfl, Nat.le_refl _, fun _ _ => rfl⟩ : Below wq.heap.size wq (wq.drewN nq)).mono HBQ.out.size)
          obtain ⟨wz, ewz⟩ : ∃ v, v = wq.drewN nq := ⟨_, rfl⟩
          rw [← ewz] at HBN ⊢
          clear ewz
          have hcv := convert_text (listed_on HPL.out HBN.out)
          obtain ⟨t2, et2⟩ : ∃ x, textOf c.1 = x := ⟨_, rfl⟩
          rw [et2] at hcv
          have HT2 : Hid (j + 1 = K → t2 = ⟨#[73, 69, 78, 68]⟩) := fun e => by
            have h1 := HLAST.out j e
            rw [HCI.out.1] at h1
            obtain rfl := Option.some.inj h1
            rw [← et2]
            exact end_word
          have HZ : Hid (j = 0 → p = 8 ∧ L = 13 ∧ t2 = ⟨#[73, 72, 68, 82]⟩) := fun e => by
            subst e
            have h1 := HFIRST.out
            rw [HCI.out.1] at h1
            obtain rfl := Option.some.inj h1
            refine ⟨by rw [← HPJ.out]; rfl, ?_, by rw [← et2]; exact head_word⟩
            rw [← HEL.out]
            exact says_length w h
          have HNZ : Hid (j ≠ 0 → 20 ≤ p) := fun e => by
            obtain ⟨i, rfl⟩ : ∃ i, j = i + 1 := ⟨j - 1, by omega⟩
            have hi : i < cs.length := by rw [HLEN.out]; omega
            have h1 := (HAT.out i _ (List.getElem?_eq_getElem hi)).1
            have h2 := HMON.out i
            rw [HPJ.out] at h1
            omega
          have hbig := HBIG.out
          obtain ⟨r1, er1⟩ : ∃ x, tn - p = x := ⟨_, rfl⟩
          have hr1 : (tn : Int) - (p : Int) = (r1 : Int) := by omega
          obtain ⟨r2, er2⟩ : ∃ x, r1 - 12 = x := ⟨_, rfl⟩
          have hr2 : (r1 : Int) - 12 = (r2 : Int) := by omega
          have dL : decide ((L : Int) < 0) = false := decide_eq_false (by omega)
          have dR : decide ((r2 : Int) < (L : Int)) = false := decide_eq_false (by omega)
          have dR' : decide (r2 < L) = false := decide_eq_false (by omega)
          have hsum : (p12 : Int) + (L : Int) = (p' : Int) := by omega
          clear hbig er1 er2 et2 HCI HEL HBQ HPL
          by_cases hj0 : j = 0
          · obtain ⟨hp, hL13, rfl⟩ := HZ.out hj0
            have f1 : ((p : Int) == 8) = true := by rw [hp]; rfl
            have f2 : decide ((p : Int) = 8) = true := decide_eq_true (by omega)
            have f3 : decide (p = 8) = true := decide_eq_true hp
            have f4 : ((L : Int) == 13) = true := by rw [hL13]; rfl
            have f5 : decide ((L : Int) = 13) = true := decide_eq_true (by omega)
            have f6 : decide (L = 13) = true := decide_eq_true hL13
            have hlt : p < tn := by omega
            have hlt2 : p < p' := by omega
            clear hp hL13 HZ HNZ hj0
            go_wp2_with fail
            go_roundw
            case rel => exact ⟨j + 1, p', _, by omega, g2, by first | rfl | go_num, rfl, HPN.out, HT2.out, HBN.out⟩
            case measure => simp [intOf]; omega
          · have h20 := HNZ.out hj0
            have f1 : ((p : Int) == 8) = false := by simp; omega
            have f2 : decide ((p : Int) = 8) = false := decide_eq_false (by omega)
            have f3 : decide (p = 8) = false := decide_eq_false (by omega)
            have hlt : p < tn := by omega
            have hlt2 : p < p' := by omega
            clear HZ HNZ
            go_wp2_with fail
            go_roundw
            case rel => exact ⟨j + 1, p', t2, by omega, g2, by first | rfl | go_num, rfl, HPN.out, HT2.out, HBN.out⟩
            case measure => simp [intOf]; omega
        · obtain rfl : j = K := by omega
          obtain rfl : p = tn := by rw [← HPJ.out, HEND.out]
          obtain rfl : t = ⟨#[73, 69, 78, 68]⟩ := HT.out rfl
          have d2 : decide ((p12 : Int) ≤ (p : Int)) = false := decide_eq_false (by omega)
          have d2' : decide (p12 ≤ p) = false := decide_eq_false (by omega)
          have f1 : ((p : Int) == (p : Int)) = true := by simp
          have f2 : decide ((p : Int) = (p : Int)) = true := decide_eq_true rfl
          have HBW : Hid (Below W.heap.size W wq) := HB8.out.trans (HBQ.out.mono HB8.out.size)
          go_wp2_with fail
          go_at_call 15
          refine (pawake_any D wq).mono ?_
          rintro e w10 ⟨rfl, HB10⟩
          go_wp2_with fail
          go_ret
          exact ⟨rfl, HBW.out.trans (HB10.out.mono HBW.out.size)⟩
end Go.Proofs.Ytefdlidjdmlnaaa.Fx
