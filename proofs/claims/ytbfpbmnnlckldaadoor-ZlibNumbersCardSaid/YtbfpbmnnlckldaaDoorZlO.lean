/-
  zlib's Open, as landed. The conditions are that the list reads as bytes, and that the order lies as the text lays it.
-/
import Derived.Test.YtbfpbmnnlckldaaDoorZlF
import Derived.Test.YtbfpbmnnlckldaaDoorInfCutWalk
import Derived.Test.YtbfpbmnnlckldaaDoorInfZ
import Derived.Test.YtbfpbmnnlckldaaDoorZlW
namespace Go.Proofs.YtbfpbmnnlckldaaDoor.Fx
open Go Go.RowKit Go.Joins
set_option linter.unusedVariables false
def faultOf (rest : List Nat) (s : Nat) : Nat := if rest.length < 4 then 12 else if rest.take 4 = fourOf s then if 4 < rest.length then 10 else 0 else 11
theorem sumSays_fault (rest : List Nat) (s : Nat) (out : List Nat) : sumSays rest s out = if faultOf rest s = 0 then .bytes out else .fault (faultOf rest s) := by
  unfold sumSays faultOf
  split
  · rfl
  · split
    · split <;> rfl
    · rfl
theorem faultOf_most (rest : List Nat) (s : Nat) : faultOf rest s ≤ 12 := by
  unfold faultOf
  split
  · omega
  · split
    · split <;> omega
    · omega
set_option maxHeartbeats 2000000 in
set_option maxRecDepth 100000 in
theorem sumFault_code (v : Value) (zs : List Nat) (s : Nat) (W : World) (hr : bytesIn W v zs) (hs : s ≤ 4294967295) :
    Calls Tryd.prog 36 #[v, .int .u32 (s : Int)] W fun e w' => e = .returned (.int .i64 (faultOf zs s : Int)) ∧ Below W.heap.size W w' := by
  obtain ⟨vo, vc, rfl⟩ := listed_length hr
  by_cases h4 : zs.length < 4
  · have hf : faultOf zs s = 12 := by unfold faultOf; rw [if_pos h4]
    rw [hf]
    obtain ⟨n, en⟩ : ∃ n, zs.length = n := ⟨_, rfl⟩
    rw [en] at h4 ⊢
    have d1 : decide ((n : Int) < 4) = true := decide_eq_true (by omega)
    have d1' : decide (n < 4) = true := decide_eq_true h4
    clear hr en hf
    go_enter Tryd.func36, Tryd.ntmps36
    go_wp2_with fail
    go_ret
    exact ⟨rfl, Below.refl _ _⟩
  · obtain ⟨u, hsl, hu, _⟩ := listed_take bytes_type bytes_one hr 4 (by omega)
    have hsl4 : ∀ w, (Instr.slice 24 (.slice vo zs.length vc) none (some (.int .i64 4)) none).run Tryd.prog w = .ok u w := hsl
    have HU := Lib.hid hu
    have hF : faultOf zs s = if zs.take 4 = fourOf s then if 4 < zs.length then 10 else 0 else 11 := by unfold faultOf; rw [if_neg h4]
    have HF := Lib.hid hF
    have HT4 : Hid ((zs.take 4).length = 4) := by
      show _ = _
      rw [List.length_take]
      omega
    obtain ⟨n, en⟩ : ∃ n, zs.length = n := ⟨_, rfl⟩
    rw [en] at h4 hsl4 HF ⊢
    have d1 : decide ((n : Int) < 4) = false := decide_eq_false (by omega)
    have d1' : decide (n < 4) = false := decide_eq_false h4
    have KE : Hid (∀ w2 s2, Below W.heap.size W w2 → bytesIn w2 s2 (fourOf s) → Calls Tryd.prog 51 #[u, s2] w2 fun e w' => e = .returned (.bool (decide (zs.take 4 = fourOf s))) ∧ Below w2.heap.size w2 w') := fun w2 s2 hb h2 => equal_code u s2 _ _ w2 (listed_on HU.out hb) h2 (by rw [HT4.out]; omega)
    obtain ⟨F, eF⟩ : ∃ F, faultOf zs s = F := ⟨_, rfl⟩
    rw [eF] at HF ⊢
    clear hr hsl hu hF en eF
    by_cases hq : zs.take 4 = fourOf s
    · have hqd : decide (zs.take 4 = fourOf s) = true := decide_eq_true hq
      have HQ := Lib.hid hq
      rw [hqd] at KE
      clear hq hqd
      by_cases h5 : 4 < n
      · have HF2 : Hid (F = 10) := by show _ = _; rw [HF.out, if_pos HQ.out, if_pos h5]
        have d2 : decide ((4 : Int) < (n : Int)) = true := decide_eq_true (by omega)
        have d2' : decide (4 < n) = true := decide_eq_true h5
        go_enter Tryd.func36, Tryd.ntmps36
        go_upto_region 3 with fail
        go_region_held3 (fun w' => Below W.heap.size W w') (first | exact (Below.refl _ _).drew | exact HB2.out | exact HB3.out) (first | (go_at_call 28; refine (sumBytes_code s _ hs).mono ?_; rintro e w2 ⟨s2, rfl, s21, _, s23⟩; obtain ⟨s2o, s2c, es2⟩ := listed_length s21; rw [fourOf_length] at es2; subst es2; have HS2 := Lib.hid s21; have HB2 : Hid (Below W.heap.size W w2) := ((Below.refl W.heap.size W).drew).trans s23; clear s21 s23) | (go_at_call 51; refine (KE.out _ _ HB2.out HS2.out).mono ?_; rintro e w3 ⟨rfl, hb3⟩; have HB3 : Hid (Below W.heap.size W w3) := HB2.out.trans (hb3.mono HB2.out.size); clear hb3))
        all_goals go_wp2_with fail
        all_goals go_ret
        all_goals exact ⟨by rw [HF2.out]; first | done | rfl, HB3.out⟩
      · have HF2 : Hid (F = 0) := by show _ = _; rw [HF.out, if_pos HQ.out, if_neg h5]
        have d2 : decide ((4 : Int) < (n : Int)) = false := decide_eq_false (by omega)
        have d2' : decide (4 < n) = false := decide_eq_false h5
        go_enter Tryd.func36, Tryd.ntmps36
        go_upto_region 3 with fail
        go_region_held3 (fun w' => Below W.heap.size W w') (first | exact (Below.refl _ _).drew | exact HB2.out | exact HB3.out) (first | (go_at_call 28; refine (sumBytes_code s _ hs).mono ?_; rintro e w2 ⟨s2, rfl, s21, _, s23⟩; obtain ⟨s2o, s2c, es2⟩ := listed_length s21; rw [fourOf_length] at es2; subst es2; have HS2 := Lib.hid s21; have HB2 : Hid (Below W.heap.size W w2) := ((Below.refl W.heap.size W).drew).trans s23; clear s21 s23) | (go_at_call 51; refine (KE.out _ _ HB2.out HS2.out).mono ?_; rintro e w3 ⟨rfl, hb3⟩; have HB3 : Hid (Below W.heap.size W w3) := HB2.out.trans (hb3.mono HB2.out.size); clear hb3))
        all_goals go_wp2_with fail
        all_goals go_ret
        all_goals exact ⟨by rw [HF2.out]; first | done | rfl, HB3.out⟩
    · have hqd : decide (zs.take 4 = fourOf s) = false := decide_eq_false hq
      have HF2 : Hid (F = 11) := by show _ = _; rw [HF.out, if_neg hq]
      rw [hqd] at KE
      clear hq hqd
      go_enter Tryd.func36, Tryd.ntmps36
      go_upto_region 3 with fail
      go_region_held3 (fun w' => Below W.heap.size W w') (first | exact (Below.refl _ _).drew | exact HB2.out | exact HB3.out) (first | (go_at_call 28; refine (sumBytes_code s _ hs).mono ?_; rintro e w2 ⟨s2, rfl, s21, _, s23⟩; obtain ⟨s2o, s2c, es2⟩ := listed_length s21; rw [fourOf_length] at es2; subst es2; have HS2 := Lib.hid s21; have HB2 : Hid (Below W.heap.size W w2) := ((Below.refl W.heap.size W).drew).trans s23; clear s21 s23) | (go_at_call 51; refine (KE.out _ _ HB2.out HS2.out).mono ?_; rintro e w3 ⟨rfl, hb3⟩; have HB3 : Hid (Below W.heap.size W w3) := HB2.out.trans (hb3.mono HB2.out.size); clear hb3))
      all_goals go_wp2_with fail
      all_goals go_ret
      all_goals exact ⟨by rw [HF2.out]; first | done | rfl, HB3.out⟩
def openIs (r : Opened) (e : Ending) (w' : World) : Prop :=
  match r with
  | .bytes out => ∃ v, e = .returned (.tuple #[v, .int .i64 0]) ∧ bytesIn w' v out
  | .fault k => e = .returned (.tuple #[.slice none 0 0, .int .i64 (k : Int)])
theorem two_cells {W : World} {v : Value} {x y : Nat} {bs : List Nat} (h : bytesIn W v (x :: y :: bs)) : ∃ b off cap, v = .slice (some ⟨b, off, none⟩) (bs.length + 2) cap ∧ b < W.heap.size ∧ W.cell? ⟨b, off, none⟩ = some (.int .u8 (x : Int)) ∧ W.cell? ⟨b, off + 1, none⟩ = some (.int .u8 (y : Int)) := by
  rcases h with ⟨_, h⟩ | ⟨b, off, cap, rfl, hlt, hle, hc⟩
  · cases h
  · exact ⟨b, off, cap, rfl, hlt, hc 0 x rfl, hc 1 y rfl⟩
theorem open_few (W : World) (bv : Value) (zs : List Nat) (m : Nat) (hr : bytesIn W bv zs) (h2 : zs.length < 2) :
    Calls Tryd.prog 20 #[bv, .int .i64 (m : Int)] W fun e w' => (∃ r, OpenSays zs m r ∧ openIs r e w') ∧ Below W.heap.size W w' := by
  obtain ⟨o, c, rfl⟩ := listed_length hr
  have HS : Hid (OpenSays zs m (.fault 12)) := .inl ⟨h2, rfl⟩
  obtain ⟨n, en⟩ : ∃ n, zs.length = n := ⟨_, rfl⟩
  rw [en] at h2 ⊢
  have d1 : decide ((n : Int) < 2) = true := decide_eq_true (by omega)
  have d1' : decide (n < 2) = true := decide_eq_true h2
  clear hr en
  go_enter Tryd.func20, Tryd.ntmps20
  go_wp2_with fail
  refine bodyPost_ret (v := .tuple #[.slice none 0 0, .int .i64 12]) (by simp [results, Tryd.results20, asAddr, go_sem]) rfl ?_
  exact ⟨⟨.fault 12, HS.out, rfl⟩, Below.refl _ _⟩
set_option maxHeartbeats 4000000 in
set_option maxRecDepth 100000 in
theorem open_long (W : World) (bv : Value) (x y : Nat) (bs : List Nat) (m : Nat) (hr : bytesIn W bv (x :: y :: bs)) (h8 : ∀ z ∈ x :: y :: bs, z < 256) (hz : bs.length ≤ 30000000000) (hl : LaidOrder W) (hm : m ≤ 1099511627776) :
    Calls Tryd.prog 20 #[bv, .int .i64 (m : Int)] W fun e w' => (∃ r, OpenSays (x :: y :: bs) m r ∧ openIs r e w') ∧ Below W.heap.size W w' := by
  have hx8 : x < 256 := h8 x (by simp)
  have hy8 : y < 256 := h8 y (by simp)
  have hb8 : ∀ z ∈ bs, z < 256 := fun z hz => h8 z (by simp [hz])
  obtain ⟨ut, hst, hut, _⟩ := listed_drop bytes_type bytes_one hr 2 (by simp only [List.length_cons]; omega)
  have hut : bytesIn W ut bs := hut
  have HR := Lib.hid hr
  obtain ⟨b, off, cap, rfl, hlt, hc0, hc1⟩ := two_cells hr
  have hst2 : ∀ w, (Instr.slice 24 (.slice (some ⟨b, off, none⟩) (bs.length + 2) cap) (some (.int .i64 2)) none none).run Tryd.prog w = .ok ut w := hst
  have HUT := Lib.hid hut
  have HB8 := Lib.hid hb8
  have HLA := Lib.hid hl
  have KH : ∀ w', Calls Tryd.prog 34 #[.int .u8 (x : Int), .int .u8 (y : Int)] w' fun e w'' => e = .returned (.bool (headOk x y)) ∧ w'' = w' := fun w' => (headMayBe_code x y w' hx8 hy8).mono fun e w'' h => ⟨h.1, h.2.symm⟩
  obtain ⟨n, en⟩ : ∃ n, bs.length = n := ⟨_, rfl⟩
  have HN := Lib.hid en
  rw [en] at hst2 HR hz ⊢
  have d1 : decide (((n + 2 : Nat) : Int) < 2) = false := decide_eq_false (by omega)
  have d1' : decide ((n : Int) + 2 < 2) = false := decide_eq_false (by omega)
  have d1'' : decide (n + 2 < 2) = false := decide_eq_false (by omega)
  have i0 : (0 : Int) < (n : Int) + 2 := by omega
  have i1 : (1 : Int) < (n : Int) + 2 := by omega
  obtain ⟨H, eH⟩ : ∃ H, headOk x y = H := ⟨_, rfl⟩
  have HH := Lib.hid eH
  rw [eH] at KH
  clear hr h8 hb8 hl hst hut en eH hx8 hy8
  obtain ⟨N, eN⟩ : ∃ N, n + 2 = N := ⟨_, rfl⟩
  rw [eN] at hst2 HR d1 d1'' ⊢
  have hNn : (n : Int) + 2 = (N : Int) := by omega
  rw [hNn] at d1' i0 i1
  have HNN := Lib.hid eN
  clear eN hNn
  cases H with
  | false =>
    go_enter Tryd.func20, Tryd.ntmps20
    go_wp2_with fail
    go_quiet ((go_at_call 34; exact Calls.quiet_of_same (KH _)))
    go_wp2_with fail
    refine bodyPost_ret (v := .tuple #[.slice none 0 0, .int .i64 10]) (by simp [results, Tryd.results20, asAddr, go_sem]) rfl ?_
    exact ⟨⟨.fault 10, .inr ⟨x, y, bs, rfl, .inl ⟨HH.out, rfl⟩⟩, rfl⟩, (⟨rfl, rfl, rfl, Nat.le_refl _, fun _ _ => rfl⟩ : Below W.heap.size W (W.drewN nq))⟩
  | true =>
    go_enter Tryd.func20, Tryd.ntmps20
    go_wp2_with fail
    go_quiet ((go_at_call 34; exact Calls.quiet_of_same (KH _)))
    have HB1 : Hid (Below W.heap.size W (W.drewN nq)) := (⟨rfl, rfl, rfl, Nat.le_refl _, fun _ _ => rfl⟩ : Below W.heap.size W (W.drewN nq))
    obtain ⟨w1, ew1⟩ : ∃ w1, w1 = W.drewN nq := ⟨_, rfl⟩
    rw [← ew1] at HB1 ⊢
    have KI := infl_any w1 ut bs m (listed_on HUT.out HB1.out) HB8.out (by rw [HN.out]; omega) (HLA.out.below HB1.out) hm
    clear ew1 KH hc0 hc1
    go_wp2_with fail
    go_at_call 35
    refine KI.mono ?_
    clear KI
    rintro e w2 (⟨t, v, hs, rfl, hown, hb2⟩ | ⟨k, hs, hk1, hk2, rfl, hb2⟩)
    · have hsome := some_bytes hs
      rw [HN.out] at hsome
      have HB2 : Hid (Below W.heap.size W w2) := HB1.out.trans (hb2.mono HB1.out.size)
      have HS := Lib.hid hs
      obtain ⟨out, eo⟩ : ∃ o, t.out = o := ⟨_, rfl⟩
      have EO := Lib.hid eo
      rw [eo] at hown hsome
      have HV : Hid (bytesIn w2 v out) := own_listed hown
      have ho8 := told_bytes hs
      rw [eo] at ho8
      obtain ⟨vo, vc, rfl⟩ := row_shape hown
      obtain ⟨q, eq⟩ : ∃ q, (t.pos + 7) / 8 = q := ⟨_, rfl⟩
      have EQ := Lib.hid eq
      rw [eq] at hsome ⊢
      obtain ⟨ur, hsr, hur, _⟩ := listed_drop bytes_type bytes_one HR.out (q + 2) (by simp only [List.length_cons]; rw [HN.out]; omega)
      have hur : bytesIn W ur (bs.drop q) := hur
      have HUR := Lib.hid hur
      obtain ⟨Q2, eQ2⟩ : ∃ Q, q + 2 = Q := ⟨_, rfl⟩
      rw [eQ2] at hsr
      have hadd : 2 + (q : Int) = (Q2 : Int) := by omega
      have hwr : IntKind.i64.wrap (2 + (q : Int)) = (Q2 : Int) := by rw [IntKind.wrap_i64]; omega
      have hwr2 : IntKind.i64.wrap (Q2 : Int) = (Q2 : Int) := by rw [IntKind.wrap_i64]; omega
      obtain ⟨L, eL⟩ : ∃ L, out.length = L := ⟨_, rfl⟩
      have EL := Lib.hid eL
      rw [eL] at hsome HV ⊢
      have HML : Hid (L ≤ 1099511627776) := by have := hsome.2.2; show _ ≤ _; omega
      have KA : Hid (∀ w', Below W.heap.size W w' → bytesIn w' (.slice vo L vc) out → Calls Tryd.prog 25 #[.int .u32 1, .slice vo L vc] w' fun e w'' => e = .returned (.int .u32 (sumOf out : Int)) ∧ w' = w'') := fun w' hb hv => Ad.code 1 _ out w' (by omega) hv ho8 (by rw [EL.out]; have := HML.out; omega)
      have bS := sumOf_below out
      obtain ⟨S, eS⟩ : ∃ S, sumOf out = S := ⟨_, rfl⟩
      have ES := Lib.hid eS
      rw [eS] at KA bS
      have KF : Hid (∀ w', Below W.heap.size W w' → Calls Tryd.prog 36 #[ur, .int .u32 (S : Int)] w' fun e w'' => e = .returned (.int .i64 (faultOf (bs.drop q) S : Int)) ∧ Below w'.heap.size w' w'') := fun w' hb => sumFault_code ur _ S w' (listed_on HUR.out hb) bS
      have HSF : Hid (∀ r, r = (if faultOf (bs.drop q) S = 0 then Opened.bytes out else .fault (faultOf (bs.drop q) S)) → OpenSays (x :: y :: bs) m r) := by
        rintro r rfl
        refine .inr ⟨x, y, bs, rfl, .inr ⟨HH.out, .inr ⟨t, HS.out, ?_⟩⟩⟩
        rw [EQ.out, EO.out, ES.out, sumSays_fault]
      have bF := faultOf_most (bs.drop q) S
      obtain ⟨F, eF⟩ : ∃ F, faultOf (bs.drop q) S = F := ⟨_, rfl⟩
      rw [eF] at KF HSF bF
      have HBQ : Hid (Below W.heap.size W w2) := HB2
      clear hs hown hb2 hur eo eq eL eS eF ho8 hsome eQ2
      by_cases hF : F = 0
      · subst hF
        go_upto_region 8 with fail
        go_region_held3 (fun w' => Below W.heap.size W w') (first | exact HB2.out.drew | exact HB4.out) (first | (go_at_call 25; refine (KA.out _ HB2.out.drew (listed_kept HV.out (Nat.le_refl _) (fun _ _ => rfl))).mono ?_; rintro e w3 ⟨rfl, rfl⟩) | (go_at_call 36; refine (KF.out _ HB2.out.drew).mono ?_; rintro e w4 ⟨rfl, hb4⟩; have HB4 : Hid (Below W.heap.size W w4) := HB2.out.drew.trans (hb4.mono HB2.out.drew.size); have HV4 : Hid (bytesIn w4 (.slice vo L vc) out) := listed_on (listed_kept HV.out (Nat.le_refl _) (fun _ _ => rfl) : bytesIn w2.drew (.slice vo L vc) out) hb4; clear hb4))
        all_goals go_wp2_with fail
        all_goals refine bodyPost_ret (v := .tuple #[.slice vo L vc, .int .i64 0]) (by simp [results, Tryd.results20, asAddr, go_sem]) rfl ?_
        all_goals exact ⟨⟨.bytes out, HSF.out _ (by simp), _, rfl, HV4.out⟩, HB4.out⟩
      · have f1 : ((F : Int) == 0) = false := by simp; omega
        have f2 : decide ((F : Int) = 0) = false := decide_eq_false (by omega)
        have f3 : ((F : Int) != 0) = true := by simp; omega
        have f4 : decide (F = 0) = false := decide_eq_false hF
        have HF0 := Lib.hid hF
        clear hF
        go_upto_region 8 with fail
        go_region_held3 (fun w' => Below W.heap.size W w') (first | exact HB2.out.drew | exact HB4.out) (first | (go_at_call 25; refine (KA.out _ HB2.out.drew (listed_kept HV.out (Nat.le_refl _) (fun _ _ => rfl))).mono ?_; rintro e w3 ⟨rfl, rfl⟩) | (go_at_call 36; refine (KF.out _ HB2.out.drew).mono ?_; rintro e w4 ⟨rfl, hb4⟩; have HB4 : Hid (Below W.heap.size W w4) := HB2.out.drew.trans (hb4.mono HB2.out.drew.size); clear hb4))
        all_goals go_wp2_with fail
        all_goals refine bodyPost_ret (v := .tuple #[.slice none 0 0, .int .i64 (F : Int)]) (by simp [results, Tryd.results20, asAddr, go_sem]) rfl ?_
        all_goals exact ⟨⟨.fault F, HSF.out _ (by rw [if_neg HF0.out]), rfl⟩, HB4.out⟩
    · have f1 : ((k : Int) == 0) = false := by simp; omega
      have f2 : decide ((k : Int) = 0) = false := decide_eq_false (by omega)
      have f3 : ((k : Int) != 0) = true := by simp; omega
      have f4 : decide (k = 0) = false := decide_eq_false (by omega)
      have HB2 : Hid (Below W.heap.size W w2) := HB1.out.trans (hb2.mono HB1.out.size)
      have HS := Lib.hid hs
      clear hs hb2
      go_wp2_with fail
      refine bodyPost_ret (v := .tuple #[.slice none 0 0, .int .i64 (k : Int)]) (by simp [results, Tryd.results20, asAddr, go_sem]) rfl ?_
      exact ⟨⟨.fault k, .inr ⟨x, y, bs, rfl, .inr ⟨HH.out, .inl ⟨k, HS.out, rfl⟩⟩⟩, rfl⟩, HB2.out⟩
theorem open_code (W : World) (bv : Value) (zs : List Nat) (m : Nat) (hr : bytesIn W bv zs) (h8 : ∀ z ∈ zs, z < 256) (hz : zs.length ≤ 30000000000) (hl : LaidOrder W) (hm : m ≤ 1099511627776) :
    Calls Tryd.prog 20 #[bv, .int .i64 (m : Int)] W fun e w' => (∃ r, OpenSays zs m r ∧ openIs r e w') ∧ Below W.heap.size W w' := by
  match zs, hr, h8, hz with
  | x :: y :: bs, hr, h8, hz => exact open_long W bv x y bs m hr h8 (by simp only [List.length_cons] at hz; omega) hl hm
  | [], hr, h8, hz => exact open_few W bv [] m hr (by decide)
  | [x], hr, h8, hz => exact open_few W bv [x] m hr (by simp)
/-- Where it is known what a list says. -/
theorem opens_bytes (W : World) (bv : Value) (zs out : List Nat) (m : Nat) (hs : OpenSays zs m (.bytes out)) (hr : bytesIn W bv zs) (h8 : ∀ z ∈ zs, z < 256) (hz : zs.length ≤ 30000000000) (hl : LaidOrder W) (hm : m ≤ 1099511627776) :
    Calls Tryd.prog 20 #[bv, .int .i64 (m : Int)] W fun e w' => ∃ v, e = .returned (.tuple #[v, .int .i64 0]) ∧ Hid (bytesIn w' v out) ∧ Hid (Below W.heap.size W w') :=
  (open_code W bv zs m hr h8 hz hl hm).mono fun e w' ⟨⟨r, h1, h2⟩, h3⟩ => by
    obtain rfl := open_one hs h1
    obtain ⟨v, h4, h5⟩ := h2
    exact ⟨v, h4, h5, h3⟩
theorem opens_fault (W : World) (bv : Value) (zs : List Nat) (m k : Nat) (hs : OpenSays zs m (.fault k)) (hr : bytesIn W bv zs) (h8 : ∀ z ∈ zs, z < 256) (hz : zs.length ≤ 30000000000) (hl : LaidOrder W) (hm : m ≤ 1099511627776) :
    Calls Tryd.prog 20 #[bv, .int .i64 (m : Int)] W fun e w' => e = .returned (.tuple #[.slice none 0 0, .int .i64 (k : Int)]) ∧ Hid (Below W.heap.size W w') :=
  (open_code W bv zs m hr h8 hz hl hm).mono fun e w' ⟨⟨r, h1, h2⟩, h3⟩ => by
    obtain rfl := open_one hs h1
    exact ⟨h2, h3⟩
end Go.Proofs.YtbfpbmnnlckldaaDoor.Fx
