/-
  zlib's Open, as landed. The conditions are that the list reads as bytes, and that the order lies as the text lays it.
  A writer at work; whole streams; the chapter's examples, as each statement asks them (awake). The conditions stand in each.
  Whole streams of a list; what is told of bytes as they lie; the chapter's examples, as each statement asks them (awake). The conditions stand in each.
-/
import Derived.Test.YtbfpbmnnlckldaaDoorZlF
import Derived.Test.YtbfpbmnnlckldaaDoorInfCutWalk
import Derived.Test.YtbfpbmnnlckldaaDoorZlP
import Derived.Test.YtbfpbmnnlckldaaDoorDeflY
namespace Go.Proofs.YtbfpbmnnlckldaaDoor.Fx
open Go Go.RowKit Go.Joins
set_option linter.unusedVariables false
def faultOf (rest : List Nat) (s : Nat) : Nat := if rest.length < 4 then 12 else if rest.take 4 = fourOf s then if 4 < rest.length then 10 else 0 else 11
theorem sumSays_fault (rest : List Nat) (s : Nat) (out : List Nat) : sumSays rest s out = if faultOf rest s = 0 then .bytes out else .fault (faultOf rest s) := by
  unfold sumSays faultOf
  split
  · rfl
  · split
    · split <;> rfl
    · rfl
theorem faultOf_most (rest : List Nat) (s : Nat) : faultOf rest s ≤ 12 := by
  unfold faultOf
  split
  · omega
  · split
    · split <;> omega
    · omega
set_option maxHeartbeats 2000000 in
set_option maxRecDepth 100000 in
theorem sumFault_code (v : Value) (zs : List Nat) (s : Nat) (W : World) (hr : bytesIn W v zs) (hs : s ≤ 4294967295) :
    Calls Tryd.prog 36 #[v, .int .u32 (s : Int)] W fun e w' => e = .returned (.int .i64 (faultOf zs s : Int)) ∧ Below W.heap.size W w' := by
  obtain ⟨vo, vc, rfl⟩ := listed_length hr
  by_cases h4 : zs.length < 4
  · have hf : faultOf zs s = 12 := by unfold faultOf; rw [if_pos h4]
    rw [hf]
    obtain ⟨n, en⟩ : ∃ n, zs.length = n := ⟨_, rfl⟩
    rw [en] at h4 ⊢
    have d1 : decide ((n : Int) < 4) = true := decide_eq_true (by omega)
    have d1' : decide (n < 4) = true := decide_eq_true h4
    clear hr en hf
    go_enter Tryd.func36, Tryd.ntmps36
    go_wp2_with fail
    go_ret
    exact ⟨rfl, Below.refl _ _⟩
  · obtain ⟨u, hsl, hu, _⟩ := listed_take bytes_type bytes_one hr 4 (by omega)
    have hsl4 : ∀ w, (Instr.slice 24 (.slice vo zs.length vc) none (some (.int .i64 4)) none).run Tryd.prog w = .ok u w := hsl
    have HU := Lib.hid hu
    have hF : faultOf zs s = if zs.take 4 = fourOf s then if 4 < zs.length then 10 else 0 else 11 := by unfold faultOf; rw [if_neg h4]
    have HF := Lib.hid hF
    have HT4 : Hid ((zs.take 4).length = 4) := by
      show _ = _
      rw [List.length_take]
      omega
    obtain ⟨n, en⟩ : ∃ n, zs.length = n := ⟨_, rfl⟩
    rw [en] at h4 hsl4 HF ⊢
    have d1 : decide ((n : Int) < 4) = false := decide_eq_false (by omega)
    have d1' : decide (n < 4) = false := decide_eq_false h4
    have KE : Hid (∀ w2 s2, Below W.heap.size W w2 → bytesIn w2 s2 (fourOf s) → Calls Tryd.prog 51 #[u, s2] w2 fun e w' => e = .returned (.bool (decide (zs.take 4 = fourOf s))) ∧ Below w2.heap.size w2 w') := fun w2 s2 hb h2 => equal_code u s2 _ _ w2 (listed_on HU.out hb) h2 (by rw [HT4.out]; omega)
    obtain ⟨F, eF⟩ : ∃ F, faultOf zs s = F := ⟨_, rfl⟩
    rw [eF] at HF ⊢
    clear hr hsl hu hF en eF
    by_cases hq : zs.take 4 = fourOf s
    · have hqd : decide (zs.take 4 = fourOf s) = true := decide_eq_true hq
      have HQ := Lib.hid hq
      rw [hqd] at KE
      clear hq hqd
      by_cases h5 : 4 < n
      · have HF2 : Hid (F = 10) := by show _ = _; rw [HF.out, if_pos HQ.out, if_pos h5]
        have d2 : decide ((4 : Int) < (n : Int)) = true := decide_eq_true (by omega)
        have d2' : decide (4 < n) = true := decide_eq_true h5
        go_enter Tryd.func36, Tryd.ntmps36
        go_upto_region 3 with fail
        go_region_held3 (fun w' => Below W.heap.size W w') (first | exact (Below.refl _ _).drew | exact HB2.out | exact HB3.out) (first | (go_at_call 28; refine (sumBytes_code s _ hs).mono ?_; rintro e w2 ⟨s2, rfl, s21, _, s23⟩; obtain ⟨s2o, s2c, es2⟩ := listed_length s21; rw [fourOf_length] at es2; subst es2; have HS2 := Lib.hid s21; have HB2 : Hid (Below W.heap.size W w2) := ((Below.refl W.heap.size W).drew).trans s23; clear s21 s23) | (go_at_call 51; refine (KE.out _ _ HB2.out HS2.out).mono ?_; rintro e w3 ⟨rfl, hb3⟩; have HB3 : Hid (Below W.heap.size W w3) := HB2.out.trans (hb3.mono HB2.out.size); clear hb3))
        all_goals go_wp2_with fail
        all_goals go_ret
        all_goals exact ⟨by rw [HF2.out]; first | done | rfl, HB3.out⟩
      · have HF2 : Hid (F = 0) := by show _ = _; rw [HF.out, if_pos HQ.out, if_neg h5]
        have d2 : decide ((4 : Int) < (n : Int)) = false := decide_eq_false (by omega)
        have d2' : decide (4 < n) = false := decide_eq_false h5
        go_enter Tryd.func36, Tryd.ntmps36
        go_upto_region 3 with fail
        go_region_held3 (fun w' => Below W.heap.size W w') (first | exact (Below.refl _ _).drew | exact HB2.out | exact HB3.out) (first | (go_at_call 28; refine (sumBytes_code s _ hs).mono ?_; rintro e w2 ⟨s2, rfl, s21, _, s23⟩; obtain ⟨s2o, s2c, es2⟩ := listed_length s21; rw [fourOf_length] at es2; subst es2; have HS2 := Lib.hid s21; have HB2 : Hid (Below W.heap.size W w2) := ((Below.refl W.heap.size W).drew).trans s23; clear s21 s23) | (go_at_call 51; refine (KE.out _ _ HB2.out HS2.out).mono ?_; rintro e w3 ⟨rfl, hb3⟩; have HB3 : Hid (Below W.heap.size W w3) := HB2.out.trans (hb3.mono HB2.out.size); clear hb3))
        all_goals go_wp2_with fail
        all_goals go_ret
        all_goals exact ⟨by rw [HF2.out]; first | done | rfl, HB3.out⟩
    · have hqd : decide (zs.take 4 = fourOf s) = false := decide_eq_false hq
      have HF2 : Hid (F = 11) := by show _ = _; rw [HF.out, if_neg hq]
      rw [hqd] at KE
      clear hq hqd
      go_enter Tryd.func36, Tryd.ntmps36
      go_upto_region 3 with fail
      go_region_held3 (fun w' => Below W.heap.size W w') (first | exact (Below.refl _ _).drew | exact HB2.out | exact HB3.out) (first | (go_at_call 28; refine (sumBytes_code s _ hs).mono ?_; rintro e w2 ⟨s2, rfl, s21, _, s23⟩; obtain ⟨s2o, s2c, es2⟩ := listed_length s21; rw [fourOf_length] at es2; subst es2; have HS2 := Lib.hid s21; have HB2 : Hid (Below W.heap.size W w2) := ((Below.refl W.heap.size W).drew).trans s23; clear s21 s23) | (go_at_call 51; refine (KE.out _ _ HB2.out HS2.out).mono ?_; rintro e w3 ⟨rfl, hb3⟩; have HB3 : Hid (Below W.heap.size W w3) := HB2.out.trans (hb3.mono HB2.out.size); clear hb3))
      all_goals go_wp2_with fail
      all_goals go_ret
      all_goals exact ⟨by rw [HF2.out]; first | done | rfl, HB3.out⟩
def openIs (r : Opened) (e : Ending) (w' : World) : Prop :=
  match r with
  | .bytes out => ∃ v, e = .returned (.tuple #[v, .int .i64 0]) ∧ bytesIn w' v out
  | .fault k => e = .returned (.tuple #[.slice none 0 0, .int .i64 (k : Int)])
theorem two_cells {W : World} {v : Value} {x y : Nat} {bs : List Nat} (h : bytesIn W v (x :: y :: bs)) : ∃ b off cap, v = .slice (some ⟨b, off, none⟩) (bs.length + 2) cap ∧ b < W.heap.size ∧ W.cell? ⟨b, off, none⟩ = some (.int .u8 (x : Int)) ∧ W.cell? ⟨b, off + 1, none⟩ = some (.int .u8 (y : Int)) := by
  rcases h with ⟨_, h⟩ | ⟨b, off, cap, rfl, hlt, hle, hc⟩
  · cases h
  · exact ⟨b, off, cap, rfl, hlt, hc 0 x rfl, hc 1 y rfl⟩
theorem open_few (W : World) (bv : Value) (zs : List Nat) (m : Nat) (hr : bytesIn W bv zs) (h2 : zs.length < 2) :
    Calls Tryd.prog 20 #[bv, .int .i64 (m : Int)] W fun e w' => (∃ r, OpenSays zs m r ∧ openIs r e w') ∧ Below W.heap.size W w' := by
  obtain ⟨o, c, rfl⟩ := listed_length hr
  have HS : Hid (OpenSays zs m (.fault 12)) := .inl ⟨h2, rfl⟩
  obtain ⟨n, en⟩ : ∃ n, zs.length = n := ⟨_, rfl⟩
  rw [en] at h2 ⊢
  have d1 : decide ((n : Int) < 2) = true := decide_eq_true (by omega)
  have d1' : decide (n < 2) = true := decide_eq_true h2
  clear hr en
  go_enter Tryd.func20, Tryd.ntmps20
  go_wp2_with fail
  refine bodyPost_ret (v := .tuple #[.slice none 0 0, .int .i64 12]) (by simp [results, Tryd.results20, asAddr, go_sem]) rfl ?_
  exact ⟨⟨.fault 12, HS.out, rfl⟩, Below.refl _ _⟩
set_option maxHeartbeats 4000000 in
set_option maxRecDepth 100000 in
theorem open_long (W : World) (bv : Value) (x y : Nat) (bs : List Nat) (m : Nat) (hr : bytesIn W bv (x :: y :: bs)) (h8 : ∀ z ∈ x :: y :: bs, z < 256) (hz : bs.length ≤ 30000000000) (hl : LaidOrder W) (hm : m ≤ 1099511627776) :
    Calls Tryd.prog 20 #[bv, .int .i64 (m : Int)] W fun e w' => (∃ r, OpenSays (x :: y :: bs) m r ∧ openIs r e w') ∧ Below W.heap.size W w' := by
  have hx8 : x < 256 := h8 x (by simp)
  have hy8 : y < 256 := h8 y (by simp)
  have hb8 : ∀ z ∈ bs, z < 256 := fun z hz => h8 z (by simp [hz])
  obtain ⟨ut, hst, hut, _⟩ := listed_drop bytes_type bytes_one hr 2 (by simp only [List.length_cons]; omega)
  have hut : bytesIn W ut bs := hut
  have HR := Lib.hid hr
  obtain ⟨b, off, cap, rfl, hlt, hc0, hc1⟩ := two_cells hr
  have hst2 : ∀ w, (Instr.slice 24 (.slice (some ⟨b, off, none⟩) (bs.length + 2) cap) (some (.int .i64 2)) none none).run Tryd.prog w = .ok ut w := hst
  have HUT := Lib.hid hut
  have HB8 := Lib.hid hb8
  have HLA := Lib.hid hl
  have KH : ∀ w', Calls Tryd.prog 34 #[.int .u8 (x : Int), .int .u8 (y : Int)] w' fun e w'' => e = .returned (.bool (headOk x y)) ∧ w'' = w' := fun w' => (headMayBe_code x y w' hx8 hy8).mono fun e w'' h => ⟨h.1, h.2.symm⟩
  obtain ⟨n, en⟩ : ∃ n, bs.length = n := ⟨_, rfl⟩
  have HN := Lib.hid en
  rw [en] at hst2 HR hz ⊢
  have d1 : decide (((n + 2 : Nat) : Int) < 2) = false := decide_eq_false (by omega)
  have d1' : decide ((n : Int) + 2 < 2) = false := decide_eq_false (by omega)
  have d1'' : decide (n + 2 < 2) = false := decide_eq_false (by omega)
  have i0 : (0 : Int) < (n : Int) + 2 := by omega
  have i1 : (1 : Int) < (n : Int) + 2 := by omega
  obtain ⟨H, eH⟩ : ∃ H, headOk x y = H := ⟨_, rfl⟩
  have HH := Lib.hid eH
  rw [eH] at KH
  clear hr h8 hb8 hl hst hut en eH hx8 hy8
  obtain ⟨N, eN⟩ : ∃ N, n + 2 = N := ⟨_, rfl⟩
  rw [eN] at hst2 HR d1 d1'' ⊢
  have hNn : (n : Int) + 2 = (N : Int) := by omega
  rw [hNn] at d1' i0 i1
  have HNN := Lib.hid eN
  clear eN hNn
  cases H with
  | false =>
    go_enter Tryd.func20, Tryd.ntmps20
    go_wp2_with fail
    go_quiet ((go_at_call 34; exact Calls.quiet_of_same (KH _)))
    go_wp2_with fail
    refine bodyPost_ret (v := .tuple #[.slice none 0 0, .int .i64 10]) (by simp [results, Tryd.results20, asAddr, go_sem]) rfl ?_
    exact ⟨⟨.fault 10, .inr ⟨x, y, bs, rfl, .inl ⟨HH.out, rfl⟩⟩, rfl⟩, (⟨rfl, rfl, rfl, Nat.le_refl _, fun _ _ => rfl⟩ : Below W.heap.size W (W.drewN nq))⟩
  | true =>
    go_enter Tryd.func20, Tryd.ntmps20
    go_wp2_with fail
    go_quiet ((go_at_call 34; exact Calls.quiet_of_same (KH _)))
    have HB1 : Hid (Below W.heap.size W (W.drewN nq)) := (⟨rfl, rfl, rfl, Nat.le_refl _, fun _ _ => rfl⟩ : Below W.heap.size W (W.drewN nq))
    obtain ⟨w1, ew1⟩ : ∃ w1, w1 = W.drewN nq := ⟨_, rfl⟩
    rw [← ew1] at HB1 ⊢
    have KI := infl_any w1 ut bs m (listed_on HUT.out HB1.out) HB8.out (by rw [HN.out]; omega) (HLA.out.below HB1.out) hm
    clear ew1 KH hc0 hc1
    go_wp2_with fail
    go_at_call 35
    refine KI.mono ?_
    clear KI
    rintro e w2 (⟨t, v, hs, rfl, hown, hb2⟩ | ⟨k, hs, hk1, hk2, rfl, hb2⟩)
    · have hsome := some_bytes hs
      rw [HN.out] at hsome
      have HB2 : Hid (Below W.heap.size W w2) := HB1.out.trans (hb2.mono HB1.out.size)
      have HS := Lib.hid hs
      obtain ⟨out, eo⟩ : ∃ o, t.out = o := ⟨_, rfl⟩
      have EO := Lib.hid eo
      rw [eo] at hown hsome
      have HV : Hid (bytesIn w2 v out) := own_listed hown
      have ho8 := told_bytes hs
      rw [eo] at ho8
      obtain ⟨vo, vc, rfl⟩ := row_shape hown
      obtain ⟨q, eq⟩ : ∃ q, (t.pos + 7) / 8 = q := ⟨_, rfl⟩
      have EQ := Lib.hid eq
      rw [eq] at hsome ⊢
      obtain ⟨ur, hsr, hur, _⟩ := listed_drop bytes_type bytes_one HR.out (q + 2) (by simp only [List.length_cons]; rw [HN.out]; omega)
      have hur : bytesIn W ur (bs.drop q) := hur
      have HUR := Lib.hid hur
      obtain ⟨Q2, eQ2⟩ : ∃ Q, q + 2 = Q := ⟨_, rfl⟩
      rw [eQ2] at hsr
      have hadd : 2 + (q : Int) = (Q2 : Int) := by omega
      have hwr : IntKind.i64.wrap (2 + (q : Int)) = (Q2 : Int) := by rw [IntKind.wrap_i64]; omega
      have hwr2 : IntKind.i64.wrap (Q2 : Int) = (Q2 : Int) := by rw [IntKind.wrap_i64]; omega
      obtain ⟨L, eL⟩ : ∃ L, out.length = L := ⟨_, rfl⟩
      have EL := Lib.hid eL
      rw [eL] at hsome HV ⊢
      have HML : Hid (L ≤ 1099511627776) := by have := hsome.2.2; show _ ≤ _; omega
      have KA : Hid (∀ w', Below W.heap.size W w' → bytesIn w' (.slice vo L vc) out → Calls Tryd.prog 25 #[.int .u32 1, .slice vo L vc] w' fun e w'' => e = .returned (.int .u32 (sumOf out : Int)) ∧ w' = w'') := fun w' hb hv => Ad.code 1 _ out w' (by omega) hv ho8 (by rw [EL.out]; have := HML.out; omega)
      have bS := sumOf_below out
      obtain ⟨S, eS⟩ : ∃ S, sumOf out = S := ⟨_, rfl⟩
      have ES := Lib.hid eS
      rw [eS] at KA bS
      have KF : Hid (∀ w', Below W.heap.size W w' → Calls Tryd.prog 36 #[ur, .int .u32 (S : Int)] w' fun e w'' => e = .returned (.int .i64 (faultOf (bs.drop q) S : Int)) ∧ Below w'.heap.size w' w'') := fun w' hb => sumFault_code ur _ S w' (listed_on HUR.out hb) bS
      have HSF : Hid (∀ r, r = (if faultOf (bs.drop q) S = 0 then Opened.bytes out else .fault (faultOf (bs.drop q) S)) → OpenSays (x :: y :: bs) m r) := by
        rintro r rfl
        refine .inr ⟨x, y, bs, rfl, .inr ⟨HH.out, .inr ⟨t, HS.out, ?_⟩⟩⟩
        rw [EQ.out, EO.out, ES.out, sumSays_fault]
      have bF := faultOf_most (bs.drop q) S
      obtain ⟨F, eF⟩ : ∃ F, faultOf (bs.drop q) S = F := ⟨_, rfl⟩
      rw [eF] at KF HSF bF
      have HBQ : Hid (Below W.heap.size W w2) := HB2
      clear hs hown hb2 hur eo eq eL eS eF ho8 hsome eQ2
      by_cases hF : F = 0
      · subst hF
        go_upto_region 8 with fail
        go_region_held3 (fun w' => Below W.heap.size W w') (first | exact HB2.out.drew | exact HB4.out) (first | (go_at_call 25; refine (KA.out _ HB2.out.drew (listed_kept HV.out (Nat.le_refl _) (fun _ _ => rfl))).mono ?_; rintro e w3 ⟨rfl, rfl⟩) | (go_at_call 36; refine (KF.out _ HB2.out.drew).mono ?_; rintro e w4 ⟨rfl, hb4⟩; have HB4 : Hid (Below W.heap.size W w4) := HB2.out.drew.trans (hb4.mono HB2.out.drew.size); have HV4 : Hid (bytesIn w4 (.slice vo L vc) out) := listed_on (listed_kept HV.out (Nat.le_refl _) (fun _ _ => rfl) : bytesIn w2.drew (.slice vo L vc) out) hb4; clear hb4))
        all_goals go_wp2_with fail
        all_goals refine bodyPost_ret (v := .tuple #[.slice vo L vc, .int .i64 0]) (by simp [results, Tryd.results20, asAddr, go_sem]) rfl ?_
        all_goals exact ⟨⟨.bytes out, HSF.out _ (by simp), _, rfl, HV4.out⟩, HB4.out⟩
      · have f1 : ((F : Int) == 0) = false := by simp; omega
        have f2 : decide ((F : Int) = 0) = false := decide_eq_false (by omega)
        have f3 : ((F : Int) != 0) = true := by simp; omega
        have f4 : decide (F = 0) = false := decide_eq_false hF
        have HF0 := Lib.hid hF
        clear hF
        go_upto_region 8 with fail
        go_region_held3 (fun w' => Below W.heap.size W w') (first | exact HB2.out.drew | exact HB4.out) (first | (go_at_call 25; refine (KA.out _ HB2.out.drew (listed_kept HV.out (Nat.le_refl _) (fun _ _ => rfl))).mono ?_; rintro e w3 ⟨rfl, rfl⟩) | (go_at_call 36; refine (KF.out _ HB2.out.drew).mono ?_; rintro e w4 ⟨rfl, hb4⟩; have HB4 : Hid (Below W.heap.size W w4) := HB2.out.drew.trans (hb4.mono HB2.out.drew.size); clear hb4))
        all_goals go_wp2_with fail
        all_goals refine bodyPost_ret (v := .tuple #[.slice none 0 0, .int .i64 (F : Int)]) (by simp [results, Tryd.results20, asAddr, go_sem]) rfl ?_
        all_goals exact ⟨⟨.fault F, HSF.out _ (by rw [if_neg HF0.out]), rfl⟩, HB4.out⟩
    · have f1 : ((k : Int) == 0) = false := by simp; omega
      have f2 : decide ((k : Int) = 0) = false := decide_eq_false (by omega)
      have f3 : ((k : Int) != 0) = true := by simp; omega
      have f4 : decide (k = 0) = false := decide_eq_false (by omega)
      have HB2 : Hid (Below W.heap.size W w2) := HB1.out.trans (hb2.mono HB1.out.size)
      have HS := Lib.hid hs
      clear hs hb2
      go_wp2_with fail
      refine bodyPost_ret (v := .tuple #[.slice none 0 0, .int .i64 (k : Int)]) (by simp [results, Tryd.results20, asAddr, go_sem]) rfl ?_
      exact ⟨⟨.fault k, .inr ⟨x, y, bs, rfl, .inr ⟨HH.out, .inl ⟨k, HS.out, rfl⟩⟩⟩, rfl⟩, HB2.out⟩
theorem open_code (W : World) (bv : Value) (zs : List Nat) (m : Nat) (hr : bytesIn W bv zs) (h8 : ∀ z ∈ zs, z < 256) (hz : zs.length ≤ 30000000000) (hl : LaidOrder W) (hm : m ≤ 1099511627776) :
    Calls Tryd.prog 20 #[bv, .int .i64 (m : Int)] W fun e w' => (∃ r, OpenSays zs m r ∧ openIs r e w') ∧ Below W.heap.size W w' := by
  match zs, hr, h8, hz with
  | x :: y :: bs, hr, h8, hz => exact open_long W bv x y bs m hr h8 (by simp only [List.length_cons] at hz; omega) hl hm
  | [], hr, h8, hz => exact open_few W bv [] m hr (by decide)
  | [x], hr, h8, hz => exact open_few W bv [x] m hr (by simp)
/-- Where it is known what a list says. -/
theorem opens_bytes (W : World) (bv : Value) (zs out : List Nat) (m : Nat) (hs : OpenSays zs m (.bytes out)) (hr : bytesIn W bv zs) (h8 : ∀ z ∈ zs, z < 256) (hz : zs.length ≤ 30000000000) (hl : LaidOrder W) (hm : m ≤ 1099511627776) :
    Calls Tryd.prog 20 #[bv, .int .i64 (m : Int)] W fun e w' => ∃ v, e = .returned (.tuple #[v, .int .i64 0]) ∧ Hid (bytesIn w' v out) ∧ Hid (Below W.heap.size W w') :=
  (open_code W bv zs m hr h8 hz hl hm).mono fun e w' ⟨⟨r, h1, h2⟩, h3⟩ => by
    obtain rfl := open_one hs h1
    obtain ⟨v, h4, h5⟩ := h2
    exact ⟨v, h4, h5, h3⟩
theorem opens_fault (W : World) (bv : Value) (zs : List Nat) (m k : Nat) (hs : OpenSays zs m (.fault k)) (hr : bytesIn W bv zs) (h8 : ∀ z ∈ zs, z < 256) (hz : zs.length ≤ 30000000000) (hl : LaidOrder W) (hm : m ≤ 1099511627776) :
    Calls Tryd.prog 20 #[bv, .int .i64 (m : Int)] W fun e w' => e = .returned (.tuple #[.slice none 0 0, .int .i64 (k : Int)]) ∧ Hid (Below W.heap.size W w') :=
  (open_code W bv zs m hr h8 hz hl hm).mono fun e w' ⟨⟨r, h1, h2⟩, h3⟩ => by
    obtain rfl := open_one hs h1
    exact ⟨h2, h3⟩
end Go.Proofs.YtbfpbmnnlckldaaDoor.Fx
namespace Go.Proofs.YtbfpbmnnlckldaaDoor.Fx
open Go Go.RowKit Go.Joins
set_option linter.unusedVariables false
/-- What a writer has told by then. -/
def ztOf (all : List Nat) (begun : Bool) : List Nat := if begun then 120 :: 1 :: toldOf all else []
theorem told_none : toldOf [] = [] := rfl
theorem zt_more (all zs : List Nat) (begun : Bool) (h : begun = false → all = []) : ztOf all begun ++ (headOf begun ++ nextOf all zs) = ztOf (all ++ zs) true := by
  have hm : toldOf all ++ nextOf all zs = toldOf (all ++ zs) := told_more all zs
  cases begun with
  | true =>
    show 120 :: 1 :: toldOf all ++ ([] ++ nextOf all zs) = 120 :: 1 :: toldOf (all ++ zs)
    rw [← hm]
    rfl
  | false =>
    obtain rfl := h rfl
    show [] ++ ([120, 1] ++ nextOf [] zs) = 120 :: 1 :: toldOf ([] ++ zs)
    rw [← hm, told_none]
    rfl
theorem zt_end (all : List Nat) (begun : Bool) (h : begun = false → all = []) : ztOf all begun ++ (headOf begun ++ restOf all ++ fourOf (sumOf all)) = streamOf all := by
  have hm : toldOf all ++ restOf all = wholeOf all := told_end all
  unfold streamOf
  cases begun with
  | true =>
    show 120 :: 1 :: toldOf all ++ ([] ++ restOf all ++ fourOf (sumOf all)) = _
    rw [← hm, List.nil_append, List.append_assoc, List.cons_append, List.cons_append]
  | false =>
    obtain rfl := h rfl
    show [] ++ ([120, 1] ++ restOf [] ++ fourOf (sumOf [])) = _
    rw [← hm, told_none]
    rfl
theorem zwrite_on {W w : World} {v : Value} {all : List Nat} {begun : Bool} {O : Nat → Prop} (hd : isZW w v all begun O) (hbg : begun = false → all = []) (hO : ∀ k, O k → W.heap.size ≤ k) (hB : Below W.heap.size W w) (bv : Value) (zs : List Nat) (hb : bytesIn w bv zs) (h8 : ∀ x ∈ all ++ zs, x < 256) (hbO : ∀ b, inBlock bv b → ¬ O b) (hl : (all ++ zs).length ≤ 100000000) :
    Calls Tryd.prog 10 #[v, bv] w fun e w' => ∃ u xs O', e = .returned (.tuple #[u, .int .i64 0]) ∧ Hid (ztOf all begun ++ xs = ztOf (all ++ zs) true) ∧ Hid (bytesIn w' u xs) ∧ Hid (∀ b, inBlock u b → ¬ O' b) ∧ Hid (isZW w' v (all ++ zs) true O') ∧ Hid (∀ k, O' k → W.heap.size ≤ k) ∧ Hid (∀ k, O' k → O k ∨ w.heap.size ≤ k) ∧ Hid (Past O w w') ∧ Hid (Below W.heap.size W w') ∧ Hid (w'.ownsRow w.heap.size 5 1 u xs.length (xs.map byteVal) ∧ (∀ k, u.ownBlock = some k → ¬ O' k) ∧ xs.length ≤ 200000002) := by
  refine (zwrite_code w v bv all zs begun O hd hb h8 hbO hl).mono ?_
  rintro e w' ⟨u, O', rfl, j1, j2, j3, j4, j5, j6, j7⟩
  exact ⟨u, _, O', rfl, zt_more all zs begun hbg, j1, fun b hb => (j2 b hb).2, j3, fun k hk => (j4 k hk).elim (hO k) (fun h => Nat.le_trans hB.size h), j4, j5, hB.trans (j5.below hO hB.size), j6, j7, by have := headOf_two begun; have := nextOf_length all zs hl; rw [List.length_append]; omega⟩
theorem zend_on {W w : World} {v : Value} {all : List Nat} {begun : Bool} {O : Nat → Prop} (hd : isZW w v all begun O) (hbg : begun = false → all = []) (hO : ∀ k, O k → W.heap.size ≤ k) (hB : Below W.heap.size W w) (h8 : ∀ x ∈ all, x < 256) (hl : all.length ≤ 100000000) :
    Calls Tryd.prog 11 #[v] w fun e w' => ∃ u xs O', e = .returned (.tuple #[u, .int .i64 0]) ∧ Hid (ztOf all begun ++ xs = streamOf all) ∧ Hid (bytesIn w' u xs) ∧ Hid (∀ b, inBlock u b → ¬ O' b) ∧ Hid (isZE w' v O') ∧ Hid (∀ k, O' k → O k) ∧ Hid (Past O w w') ∧ Hid (Below W.heap.size W w') := by
  refine (zend_code w v all begun O hd h8 hl).mono ?_
  rintro e w' ⟨u, O', rfl, j1, j2, j3, j4, j5⟩
  exact ⟨u, _, O', rfl, zt_end all begun hbg, j1, fun b hb => (j2 b hb).2, j3, j4, j5, hB.trans (j5.below hO hB.size)⟩
theorem keep_over {w w' : World} {u : Value} {xs : List Nat} {O : Nat → Prop} (h : bytesIn w u xs) (hn : ∀ b, inBlock u b → ¬ O b) (k : Past O w w') : bytesIn w' u xs :=
  listed_kept h k.size (fun b hb => k.block b (inBlock_lt h hb) (hn b hb))
set_option maxHeartbeats 2000000 in
set_option maxRecDepth 100000 in
/-- whole: a text's stream. -/
theorem zwhole_code (s : ByteArray) (zs : List Nat) (W : World) (hs : numsOf s = zs) (hl : zs.length ≤ 1000000) :
    Calls Tryd.prog 14 #[.string s] W fun e w' => ∃ o n c, e = .returned (.slice o n c) ∧ Hid (bytesIn w' (.slice o n c) (streamOf zs)) ∧ Hid (Below W.heap.size W w') := by
  have h8 := numsOf_lt s
  rw [hs] at h8
  have H8 := Lib.hid h8
  have HS := Lib.hid hs
  have HL := Lib.hid hl
  clear h8 hs hl
  go_enter Tryd.func14, Tryd.ntmps14
  go_wp2_with fail
  go_at_call 9
  refine (znew_code W).mono ?_
  rintro e w1 ⟨va, O1, rfl, k1, k2, k3⟩
  obtain ⟨x, w2, c1, hx, hf, hb⟩ := run_bytes s w1
  rw [HS.out] at hx
  have HD1 : Hid (isZW w2 (.pointer va) [] false O1) := isZW_keep k1 hb.size (fun k hk => hb.block k (isZW_lt k1 k hk))
  have HO1 := Lib.hid k2
  have HB1 : Hid (Below W.heap.size W w2) := k3.trans (hb.mono k3.size)
  have HXO : Hid (∀ b, inBlock x b → ¬ O1 b) := fun b hb' ho => by have := hf b hb'; have := isZW_lt k1 b ho; omega
  have HX := Lib.hid hx
  obtain ⟨xo, xc, ex⟩ := listed_length hx
  subst ex
  obtain ⟨N, eN⟩ : ∃ N, zs.length = N := ⟨_, rfl⟩
  have HN := Lib.hid eN
  rw [eN] at c1 HX HXO
  clear k1 k2 k3 hx hf hb eN
  go_wp2_with fail
  go_at_call 10
  refine (zwrite_on HD1.out (fun _ => rfl) HO1.out HB1.out (.slice xo N xc) zs HX.out (by rw [List.nil_append]; exact H8.out) HXO.out (by rw [List.nil_append]; have := HL.out; omega)).mono ?_
  rintro e w3 ⟨u, us, O3, rfl, HU1, HU2, HU3, HD3, HO3, _, HP3, HB3, HU4⟩
  rw [List.nil_append] at HD3 HU1
  clear c1
  obtain ⟨uo, uc, eu⟩ := listed_length HU2.out
  subst eu
  obtain ⟨M, eM⟩ : ∃ M, us.length = M := ⟨_, rfl⟩
  have HM := Lib.hid eM
  rw [eM] at HU2 HU3 HU4 ⊢
  clear eM
  go_wp2_with fail
  go_at_call 11
  refine (zend_on HD3.out (fun h => by cases h) HO3.out HB3.out H8.out (by have := HL.out; omega)).mono ?_
  rintro e w4 ⟨y, ys, O4, rfl, HY1, HY2, HY3, _, _, HP4, HB4⟩
  have HROW : Hid (w4.ownsRow w2.heap.size 5 1 (.slice uo M uc) M (us.map byteVal)) := owns_kept HU4.out.1 (fun k hk => HP4.out.block k ((HU4.out.1.lt k hk).2) (HU4.out.2.1 k hk))
  have HALL : Hid (us ++ ys = streamOf zs) := by
    show _ = _
    have h1 : [] ++ us = ztOf zs true := HU1.out
    rw [List.nil_append] at h1
    rw [h1, HY1.out]
  have hsz : w2.heap.size ≤ w4.heap.size := Nat.le_trans HP3.out.size HP4.out.size
  clear HU1 HU3 HU4 HY1
  go_wp2_with (at_builtin; refine wpList_append_listed (c := byteVal) rfl _ _ 24 rfl w2.heap.size 5 (.int .u8 0) Tryd.underlying24 infoU8 rfl (fun _ => rfl) (.slice uo M uc) M us rfl HROW.out y ys rfl HY2.out (by have := streamOf_most zs; have := HL.out; have := congrArg List.length HALL.out; rw [List.length_append, HM.out] at this; omega) hsz ?_)
  intro u5 w5 hown5 hgrow5
  have hb5 : Below w2.heap.size w4 w5 := (Below.refl _ _).grown hgrow5 hsz (fun q hq => (HROW.out.lt q hq).1)
  rw [← List.map_append, HALL.out] at hown5
  have H5 : Hid (bytesIn w5 u5 (streamOf zs)) := own_listed hown5
  obtain ⟨u5o, u5c, eu5⟩ := listed_length H5.out
  subst eu5
  have HB5 : Hid (Below W.heap.size W w5) := HB4.out.trans (hb5.mono HB1.out.size)
  clear hown5 hgrow5 hb5
  go_wp2_with fail
  go_ret
  exact ⟨_, _, _, rfl, H5, HB5⟩
end Go.Proofs.YtbfpbmnnlckldaaDoor.Fx
namespace Go.Proofs.YtbfpbmnnlckldaaDoor.Fx
open Go Go.RowKit Go.Joins
set_option linter.unusedVariables false
set_option maxHeartbeats 2000000 in
set_option maxRecDepth 100000 in
/-- stream: a list's stream. -/
theorem zstream_code (W : World) (bv : Value) (zs : List Nat) (hb : bytesIn W bv zs) (h8 : ∀ x ∈ zs, x < 256) (hl : zs.length ≤ 1000000) :
    Calls Tryd.prog 21 #[bv] W fun e w' => ∃ o n c, e = .returned (.tuple #[.slice o n c, .bool true]) ∧ Hid ((streamOf zs).length = n) ∧ Hid (w'.ownsRow W.heap.size 5 1 (.slice o n c) n ((streamOf zs).map byteVal)) ∧ Hid (Below W.heap.size W w') := by
  obtain ⟨bo, bc, ebv⟩ := listed_length hb
  subst ebv
  have HBW : Hid (∀ b, inBlock (.slice bo zs.length bc) b → b < W.heap.size) := fun b hb2 => inBlock_lt hb hb2
  obtain ⟨N, eN⟩ : ∃ N, zs.length = N := ⟨_, rfl⟩
  have HN := Lib.hid eN
  have HB := Lib.hid hb
  have H8 := Lib.hid h8
  have HL := Lib.hid hl
  rw [eN] at HB HBW ⊢
  clear hb h8 hl eN
  go_enter Tryd.func21, Tryd.ntmps21
  go_wp2_with fail
  go_at_call 9
  refine (znew_code W).mono ?_
  rintro e w1 ⟨va, O1, rfl, k1, k2, k3⟩
  have HD1 := Lib.hid k1
  have HO1 := Lib.hid k2
  have HB1 := Lib.hid k3
  clear k1 k2 k3
  go_wp2_with fail
  go_at_call 10
  refine (zwrite_on HD1.out (fun _ => rfl) HO1.out HB1.out (.slice bo N bc) zs (listed_on HB.out HB1.out) (by rw [List.nil_append]; exact H8.out) (fun b hb ho => by have := HBW.out b hb; have := HO1.out b ho; omega) (by rw [List.nil_append]; have := HL.out; omega)).mono ?_
  rintro e w3 ⟨u, us, O3, rfl, HU1, HU2, HU3, HD3, HO3, _, _, HB3, HU4⟩
  rw [List.nil_append] at HD3 HU1
  obtain ⟨uo, uc, eu⟩ := listed_length HU2.out
  subst eu
  obtain ⟨M, eM⟩ : ∃ M, us.length = M := ⟨_, rfl⟩
  have HM := Lib.hid eM
  rw [eM] at HU2 HU3 ⊢
  have HUM : Hid (M ≤ 200000002) := by have := HU4.out.2.2; show _ ≤ _; omega
  clear eM HU4
  go_wp2_with fail
  go_at_call 11
  refine (zend_on HD3.out (fun h => by cases h) HO3.out HB3.out H8.out (by have := HL.out; omega)).mono ?_
  rintro e w4 ⟨y, ys, O4, rfl, HY1, HY2, HY3, _, _, HP4, HB4⟩
  have HU5 : Hid (bytesIn w4 (.slice uo M uc) us) := keep_over HU2.out HU3.out HP4.out
  have HALL : Hid (us ++ ys = streamOf zs) := by
    show _ = _
    have h1 : [] ++ us = ztOf zs true := HU1.out
    rw [List.nil_append] at h1
    rw [h1, HY1.out]
  obtain ⟨yo, yc, ey⟩ := listed_length HY2.out
  subst ey
  obtain ⟨K, eK⟩ : ∃ K, ys.length = K := ⟨_, rfl⟩
  have HK := Lib.hid eK
  rw [eK] at HY2 ⊢
  have hKM : M + K ≤ 200000000 := by
    have := streamOf_most zs
    have h2 := congrArg List.length HALL.out
    rw [List.length_append, HM.out, eK] at h2
    have := HL.out
    omega
  clear HU1 HU2 HU3 HY1 HY3 eK
  go_wp2_with fail
  go_at_call 19
  refine (copy_code _ us w4 HU5.out (by rw [HM.out]; omega)).mono ?_
  rintro e w5 ⟨u5, rfl, hu, hb5⟩
  rw [HM.out] at hu
  have HU := Lib.hid hu
  have HB5 := Lib.hid hb5
  clear hu hb5
  go_wp2_with (at_builtin; refine wpList_append_listed (c := byteVal) rfl _ _ 24 rfl w4.heap.size 5 (.int .u8 0) Tryd.underlying24 infoU8 rfl (fun _ => rfl) u5 M us rfl HU.out (.slice yo K yc) ys rfl (listed_on HY2.out HB5.out) (by rw [HK.out]; omega) HB5.out.size ?_)
  intro u6 w6 hown6 hgrow6
  have hb6 : Below w4.heap.size w4 w6 := HB5.out.grown hgrow6 HB5.out.size (fun q hq => (HU.out.lt q hq).1)
  rw [← List.map_append, HALL.out] at hown6
  obtain ⟨o6, c6, e6⟩ := row_shape hown6
  subst e6
  have hlen : (streamOf zs).length = M + K := by rw [← HALL.out, List.length_append, HM.out, HK.out]
  have HOWN : Hid (w6.ownsRow W.heap.size 5 1 (.slice o6 (M + ys.length) c6) (M + ys.length) ((streamOf zs).map byteVal)) := ownsRow_le hown6 HB4.out.size
  have HB6 : Hid (Below W.heap.size W w6) := HB4.out.trans (hb6.mono HB4.out.size)
  have HLEN : Hid ((streamOf zs).length = M + ys.length) := by
    show _ = _
    rw [hlen, HK.out]
  clear hown6 hgrow6 hb6 hlen
  generalize M + ys.length = P at *
  go_wp2_with fail
  refine bodyPost_ret (v := .tuple #[.slice o6 P c6, .bool true]) (by simp [results, Tryd.results21, asAddr, go_sem]) rfl ?_
  exact ⟨_, _, _, rfl, HLEN, HOWN, HB6⟩
set_option maxHeartbeats 1600000 in
set_option maxRecDepth 100000 in
theorem zbad_code (W : World) (b : Value) (zs : List Nat) (k : Nat) (hs : OpenSays zs 9 (.fault k)) (hr : bytesIn W b zs) (h8 : ∀ x ∈ zs, x < 256) (hz : zs.length ≤ 1000) (hl : LaidOrder W) (hk : 1 ≤ k) (hk2 : k ≤ 12) :
    Calls Tryd.prog 13 #[.int .i64 (k : Int), b] W fun e w' => e = .returned (.bool true) ∧ Hid (Below W.heap.size W w') := by
  have KO := opens_fault W b zs 9 k hs hr h8 (by omega) hl (by omega)
  have f1 : ((k : Int) == 0) = false := by simp; omega
  have f2 : decide ((k : Int) = 0) = false := decide_eq_false (by omega)
  have f3 : decide (k = 0) = false := decide_eq_false (by omega)
  clear hs hr h8 hz hl
  go_enter Tryd.func13, Tryd.ntmps13
  go_wp2_with fail
  go_at_call 20
  refine KO.mono ?_
  rintro e w1 ⟨rfl, HB⟩
  go_wp2_with fail
  go_ret
  exact ⟨by first | rfl | simp, HB⟩
set_option maxHeartbeats 1600000 in
set_option maxRecDepth 100000 in
theorem zgood_code (W : World) (b : Value) (zs out : List Nat) (hs : OpenSays zs 9 (.bytes out)) (hr : bytesIn W b zs) (h8 : ∀ x ∈ zs, x < 256) (hz : zs.length ≤ 1000) (hl : LaidOrder W) :
    Calls Tryd.prog 13 #[.int .i64 0, b] W fun e w' => e = .returned (.bool true) ∧ Hid (Below W.heap.size W w') := by
  have KO := opens_bytes W b zs out 9 hs hr h8 (by omega) hl (by omega)
  clear hs hr h8 hz hl
  go_enter Tryd.func13, Tryd.ntmps13
  go_wp2_with fail
  go_at_call 20
  refine KO.mono ?_
  rintro e w1 ⟨v, rfl, HV, HB⟩
  obtain ⟨vo, vc, ev⟩ := listed_length HV.out
  subst ev
  go_wp2_with fail
  go_ret
  exact ⟨by first | rfl | simp, HB⟩
theorem zbad_new (W w X : World) (zs : List Nat) (vals : Array Value) (n k : Nat) (hs : OpenSays zs 9 (.fault k)) (c3 : vals.toList = zs.map byteVal) (c4 : zs.length = n) (c8 : ∀ x ∈ zs, x < 256) (c5 : zs.length ≤ 1000) (hk : 1 ≤ k) (hk2 : k ≤ 12) (hl : LaidOrder W) (hX : X = w.alloc (.cells vals 5) ∨ X = (w.alloc (.cells vals 5)).drew) (hb : Below W.heap.size W w) :
    Calls Tryd.prog 13 #[.int .i64 (k : Int), .slice (some ⟨w.heap.size, 0, none⟩) n n] X fun e w' => e = .returned (.bool true) ∧ Hid (Below W.heap.size W w') := by
  have h1 := row_new hX c3 c4
  refine (zbad_code X _ zs k hs h1.1 c8 c5 (hl.below (hb.trans (h1.2.mono hb.size))) hk hk2).mono ?_
  rintro e w' ⟨rfl, h⟩
  exact ⟨rfl, hb.trans ((h1.2.trans (h.out.mono h1.2.size)).mono hb.size)⟩
theorem zgood_new (W w X : World) (zs out : List Nat) (vals : Array Value) (n : Nat) (hs : OpenSays zs 9 (.bytes out)) (c3 : vals.toList = zs.map byteVal) (c4 : zs.length = n) (c8 : ∀ x ∈ zs, x < 256) (c5 : zs.length ≤ 1000) (hl : LaidOrder W) (hX : X = w.alloc (.cells vals 5) ∨ X = (w.alloc (.cells vals 5)).drew) (hb : Below W.heap.size W w) :
    Calls Tryd.prog 13 #[.int .i64 0, .slice (some ⟨w.heap.size, 0, none⟩) n n] X fun e w' => e = .returned (.bool true) ∧ Hid (Below W.heap.size W w') := by
  have h1 := row_new hX c3 c4
  refine (zgood_code X _ zs out hs h1.1 c8 c5 (hl.below (hb.trans (h1.2.mono hb.size)))).mono ?_
  rintro e w' ⟨rfl, h⟩
  exact ⟨rfl, hb.trans ((h1.2.trans (h.out.mono h1.2.size)).mono hb.size)⟩
theorem same_new (W w X : World) (u : Value) (zs : List Nat) (vals : Array Value) (n : Nat) (hu : bytesIn w u zs) (c3 : vals.toList = zs.map byteVal) (c4 : zs.length = n) (hX : X = w.alloc (.cells vals 5) ∨ X = (w.alloc (.cells vals 5)).drew) (hb : Below W.heap.size W w) :
    Calls Tryd.prog 12 #[u, .slice (some ⟨w.heap.size, 0, none⟩) n n] X fun e w' => e = .returned (.bool true) ∧ Hid (Below W.heap.size W w') := by
  have h1 := row_new hX c3 c4
  refine (same_yes u _ zs X (listed_on hu h1.2) h1.1).mono ?_
  rintro e w' ⟨rfl, rfl⟩
  exact ⟨rfl, hb.trans (h1.2.mono hb.size)⟩
theorem exz_none : streamOf [] = [120, 1, 3, 0, 0, 0, 0, 1] := by
  unfold streamOf
  rw [ex_none, sumOf_nil]
  rfl
theorem sum_one : sumOf [97] = 6422626 := by decide +kernel
theorem exz_one : streamOf [97] = [120, 1, 75, 4, 0, 0, 98, 0, 98] := by
  unfold streamOf
  rw [ex_one, sum_one]
  rfl
theorem exz_sum : OpenSays [120, 1, 3, 0, 0, 0, 0, 2] 9 (.fault 11) := by
  have h := open_wrong [] [0, 0, 0, 2] 9 (fun z hz => by cases hz) (by decide) rfl (by rw [sumOf_nil]; decide)
  rwa [ex_none] at h
theorem exz_cut (q : Nat) (hq : q < 8) : OpenSays (([120, 1, 3, 0, 0, 0, 0, 1] : List Nat).take q) 9 (.fault 12) := by
  have h := open_cut [] 9 q (fun z hz => by cases hz) (by decide) (by rw [exz_none]; exact hq)
  rwa [exz_none] at h
theorem exz_head (x y : Nat) : OpenSays [x, y, 3, 0, 0, 0, 0, 1] 9 (if headOk x y then .bytes [] else .fault 10) := by
  have h := open_head x y [] [0, 0, 0, 1] 9 (fun z hz => by cases hz) (by decide)
  rw [ex_none, sumOf_nil] at h
  have e : sumSays [0, 0, 0, 1] 1 [] = .bytes [] := sum_right 1 []
  rwa [e] at h
set_option maxHeartbeats 4000000 in
set_option maxRecDepth 100000 in
theorem zawake_any (W : World) (hl : LaidOrder W) : Calls Tryd.prog 15 #[] W fun e w' => e = .returned (.bool true) ∧ Hid (Below W.heap.size W w') := by
  have HL := Lib.hid hl
  clear hl
  go_enter Tryd.func15, Tryd.ntmps15
  go_wp2_with fail
  go_at_call 9
  refine (znew_code W).mono ?_
  rintro e w1 ⟨va, O1, rfl, k1, k2, k3⟩
  have KE := zend_on k1 (fun _ => rfl) k2 k3 (fun x hx => by cases hx) (by decide)
  clear k1 k2 k3
  go_wp2_with fail
  go_at_call 11
  refine KE.mono ?_
  clear KE
  rintro e w2 ⟨u, us, O2, rfl, HU1, HU2, _, _, _, _, HB2⟩
  have HU : Hid (bytesIn w2 u [120, 1, 3, 0, 0, 0, 0, 1]) := by
    have h1 : [] ++ us = streamOf [] := HU1.out
    rw [List.nil_append, exz_none] at h1
    rw [← h1]
    exact HU2
  clear HU1 HU2
  obtain ⟨uo, uc, eu⟩ := listed_length HU.out
  simp only [List.length_cons, List.length_nil] at eu
  subst eu
  go_wp2_with fail
  go_at_call 12
  refine (same_new W w2 _ _ [120, 1, 3, 0, 0, 0, 0, 1] #[.int .u8 120, .int .u8 1, .int .u8 3, .int .u8 0, .int .u8 0, .int .u8 0, .int .u8 0, .int .u8 1] 8 HU.out (by rfl) rfl (by first | exact .inl rfl | exact .inr rfl) HB2.out).mono ?_
  rintro e w3 ⟨rfl, HB3⟩
  go_wp2_with fail
  go_at_call 14
  refine (zwhole_code _ [97] w3 (by rfl) (by decide)).mono ?_
  rintro e w4 ⟨o4, n4, c4, rfl, HV4, HB4'⟩
  rw [exz_one] at HV4
  have HB4 : Hid (Below W.heap.size W w4) := HB3.out.trans (HB4'.out.mono HB3.out.size)
  clear HB4'
  go_wp2_with fail
  go_at_call 12
  refine (same_new W w4 _ _ [120, 1, 75, 4, 0, 0, 98, 0, 98] #[.int .u8 120, .int .u8 1, .int .u8 75, .int .u8 4, .int .u8 0, .int .u8 0, .int .u8 98, .int .u8 0, .int .u8 98] 9 HV4.out (by rfl) rfl (by first | exact .inl rfl | exact .inr rfl) HB4.out).mono ?_
  rintro e w5 ⟨rfl, HB5⟩
  go_wp2_with fail
  go_at_call 14
  refine (zwhole_code _ [97] w5 (by rfl) (by decide)).mono ?_
  rintro e w6 ⟨o6, n6, c6, rfl, HV6, HB6'⟩
  have HB6 : Hid (Below W.heap.size W w6) := HB5.out.trans (HB6'.out.mono HB5.out.size)
  clear HB6'
  go_wp2_with fail
  go_at_call 13
  refine (zgood_code w6 _ _ [97] (open_back [97] 9 (by decide) (by decide)) HV6.out (streamOf_bytes _) (by rw [exz_one]; decide) (HL.out.below HB6.out)).mono ?_
  rintro e w7 ⟨rfl, HB7'⟩
  have HB7 : Hid (Below W.heap.size W w7) := HB6.out.trans (HB7'.out.mono HB6.out.size)
  clear HB7'
  go_wp2_with fail
  go_at_call 13
  refine (zbad_new W w7 _ [120, 1, 3, 0, 0, 0, 0, 2] #[.int .u8 120, .int .u8 1, .int .u8 3, .int .u8 0, .int .u8 0, .int .u8 0, .int .u8 0, .int .u8 2] 8 11 exz_sum (by rfl) rfl (by decide) (by decide) (by decide) (by decide) HL.out (by first | exact .inl rfl | exact .inr rfl) HB7.out).mono ?_
  rintro e w8 ⟨rfl, HB8⟩
  go_wp2_with fail
  go_at_call 13
  refine (zbad_new W w8 _ [120] #[.int .u8 120] 1 12 (exz_cut 1 (by decide)) (by rfl) rfl (by decide) (by decide) (by decide) (by decide) HL.out (by first | exact .inl rfl | exact .inr rfl) HB8.out).mono ?_
  rintro e w9 ⟨rfl, HB9⟩
  go_wp2_with fail
  go_at_call 13
  refine (zbad_new W w9 _ [121, 1, 3, 0, 0, 0, 0, 1] #[.int .u8 121, .int .u8 1, .int .u8 3, .int .u8 0, .int .u8 0, .int .u8 0, .int .u8 0, .int .u8 1] 8 10 (exz_head 121 1) (by rfl) rfl (by decide) (by decide) (by decide) (by decide) HL.out (by first | exact .inl rfl | exact .inr rfl) HB9.out).mono ?_
  rintro e w10 ⟨rfl, HB10⟩
  go_wp2_with fail
  go_ret
  exact ⟨rfl, HB10⟩
theorem own_unfrozen {w : World} {base n g cap : Nat} {e : TypeId} {xs : List Value} (h : w.ownsRow base e 1 (.slice (some ⟨g, 0, none⟩) n cap) n xs) (j : Nat) : w.frozen? ⟨g, j, none⟩ = false := by
  rcases h.2 with ⟨h, _⟩ | ⟨g', cap', cur, h, hb, hg, _⟩
  · simp at h
  · simp only [Value.slice.injEq, Option.some.injEq, Addr.mk.injEq] at h
    obtain ⟨⟨rfl, _⟩, _⟩ := h
    exact unfrozen_of_block hg j
end Go.Proofs.YtbfpbmnnlckldaaDoor.Fx
