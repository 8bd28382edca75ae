/-
  Lengths and distances, as landed. The conditions stand in each.
-/
import Derived.Test.YtbhmjppnhlmefaaDoorInfC
namespace Go.Proofs.YtbhmjppnhlmefaaDoor.Fx
open Go Go.RowKit Go.Joins
set_option linter.unusedVariables false
theorem max_two (a b : Int) (w : World) : (Builtin.max_ #[3, 3] 3 #[.int .i64 a, .int .i64 b]).run Tryd.prog w = .ok (.int .i64 (max a b)) w := by
  have e : max a b = if a < b then b else a := by omega
  rw [e]
  simp [Builtin.max_, Builtin.max2]
/-- A way that is done: one goal is left, for the walk to go on with. -/
theorem dead (w : World) {G : Prop} (h : G) (t : wpAny Tryd.prog .any #[] (fun _ _ _ => True) 0 #[] { tmps := #[], defers := [] } w) : G := h
theorem get_ok (w : World) (g : Nat) (L : List Bool) (m : Nat) (s : St) (fx : Value) (O : Nat → Prop) (k : Nat) (h : isS w g L m s fx O) (hk : k ≤ 32) (hL : L.length ≤ 1099511627776) (hs : s.pos + k ≤ L.length) :
    Calls Tryd.prog 40 #[.pointer (some ⟨g, 0, none⟩), .int .i64 (k : Int)] w fun e w' => ∃ O', e = .returned (.int .i64 (numAt L s.pos k : Nat)) ∧ isS w' g L m ⟨s.pos + k, s.out⟩ fx O' ∧ WentOn O O' w w' := by
  refine (get_go w g L m s fx O k h hk hL).mono ?_
  rintro e w' (⟨a, t, O', h1, rfl, h2, h3⟩ | ⟨j, h1, _⟩)
  · have := Way.says_one h1 (Way.says_get (L := L) (m := m) (s := s) k hs)
    cases this
    exact ⟨O', rfl, h2, h3⟩
  · have := Way.says_one h1 (Way.says_get (L := L) (m := m) (s := s) k hs)
    cases this
theorem get_short (w : World) (g : Nat) (L : List Bool) (m : Nat) (s : St) (fx : Value) (O : Nat → Prop) (k : Nat) (h : isS w g L m s fx O) (hk : k ≤ 32) (hL : L.length ≤ 1099511627776) (hs : L.length < s.pos + k) :
    Calls Tryd.prog 40 #[.pointer (some ⟨g, 0, none⟩), .int .i64 (k : Int)] w fun e w' => e = .panicked (fault 12) ∧ Past O w w' := by
  refine (get_go w g L m s fx O k h hk hL).mono ?_
  rintro e w' (⟨a, t, O', h1, _⟩ | ⟨j, h1, rfl, h2⟩)
  · have := Way.says_one h1 (Way.says_get_short (L := L) (m := m) (s := s) k hs)
    cases this
  · have := Way.says_one h1 (Way.says_get_short (L := L) (m := m) (s := s) k hs)
    cases this
    exact ⟨rfl, h2⟩
theorem grouped_said {code group : Nat} {L : List Bool} {m : Nat} {s u : St} {a : Nat} (h : Says (groupedW code group) L m s (.ok a u)) : a < (code + 1) * 2 ^ (code / group - 1) := by
  obtain ⟨f, h⟩ := h
  obtain ⟨b, t, h1, h2⟩ := Way.bind_ok h
  cases h2
  have hb := (get_said ⟨f, h1⟩).1
  have h3 : code - group * (code / group - 1) ≤ code := Nat.sub_le _ _
  have h4 := Nat.mul_le_mul_right (2 ^ (code / group - 1)) h3
  rw [Nat.succ_mul]
  omega
theorem grouped_below {code group : Nat} {L : List Bool} {m : Nat} {s u : St} {a : Nat} (h : Says (groupedW code group) L m s (.ok a u)) (hc : code ≤ 28) (hg : 0 < group := by decide) : a ≤ 8000000000 := by
  have h1 := grouped_said h
  have h2 : code / group - 1 ≤ 27 := by
    have := Nat.div_le_self code group
    omega
  have h3 : (2 : Nat) ^ (code / group - 1) ≤ 2 ^ 27 := Nat.pow_le_pow_right (by decide) h2
  have h4 : (code + 1) * 2 ^ (code / group - 1) ≤ 29 * 2 ^ 27 := Nat.mul_le_mul (by omega) h3
  omega
theorem grouped_less {code group : Nat} {L : List Bool} {m : Nat} {s u : St} {a : Nat} (h : Says (groupedW code group) L m s (.ok a u)) (hc : code ≤ 28 + 1) : a ≤ 8600000000 := by
  have h1 := grouped_said h
  have h2 : code / group - 1 ≤ 28 := by
    have := Nat.div_le_self code group
    omega
  have h3 : (2 : Nat) ^ (code / group - 1) ≤ 2 ^ 28 := Nat.pow_le_pow_right (by decide) h2
  have h4 : (code + 1) * 2 ^ (code / group - 1) ≤ 30 * 2 ^ 28 := Nat.mul_le_mul (by omega) h3
  omega
set_option maxHeartbeats 1000000 in
set_option maxRecDepth 100000 in
theorem grouped_go (w : World) (g : Nat) (L : List Bool) (m : Nat) (s : St) (fx : Value) (O : Nat → Prop) (code group : Nat) (h : isS w g L m s fx O) (hg : group = 2 ∨ group = 4) (hc : code / group ≤ 20) (hL : L.length ≤ 1099511627776) :
    Calls Tryd.prog 71 #[.pointer (some ⟨g, 0, none⟩), .int .i64 (code : Int), .int .i64 (group : Int)] w (Goes (groupedW code group) L m s (fun n => .int .i64 (n : Int)) g fx O w) := by
  have hmax := fun w => max_two 0 (((code / group : Nat) : Int) - 1) w
  have e0 : max 0 (((code / group : Nat) : Int) - 1) = ((code / group - 1 : Nat) : Int) := by omega
  rw [e0] at hmax
  clear e0
  have hq : (code : Int).tdiv (group : Int) = ((code / group : Nat) : Int) := by
    rw [Int.tdiv_eq_ediv_of_nonneg (by omega)]
    rfl
  have hcg : code ≤ 100 := by
    rcases hg with rfl | rfl <;> omega
  have hz : ¬ (group : Int) = 0 := by omega
  have hz2 : ((group : Int) == 0) = false := by simp; omega
  have hE : code / group - 1 ≤ 19 := by omega
  have hX : group * (code / group - 1) ≤ code := Nat.le_trans (Nat.mul_le_mul_left _ (Nat.sub_le _ _)) (Nat.mul_div_le _ _)
  have HG0 : Hid (∀ (w : World) (O : Nat → Prop), isS w g L m s fx O → s.pos + (code / group - 1) ≤ L.length → Calls Tryd.prog 40 #[.pointer (some ⟨g, 0, none⟩), .int .i64 ((code / group - 1 : Nat) : Int)] w fun e w' => ∃ O', e = .returned (.int .i64 (numAt L s.pos (code / group - 1) : Nat)) ∧ isS w' g L m ⟨s.pos + (code / group - 1), s.out⟩ fx O' ∧ WentOn O O' w w') := fun w O h => get_ok w g L m s fx O (code / group - 1) h (by omega) hL
  have HG1 : Hid (∀ (w : World) (O : Nat → Prop), isS w g L m s fx O → L.length < s.pos + (code / group - 1) → Calls Tryd.prog 40 #[.pointer (some ⟨g, 0, none⟩), .int .i64 ((code / group - 1 : Nat) : Int)] w fun e w' => e = .panicked (fault 12) ∧ Past O w w') := fun w O h => get_short w g L m s fx O (code / group - 1) h (by omega) hL
  have HW : Hid (∀ r, Says ((Way.get (code / group - 1)).bind fun b => Way.pure ((code - group * (code / group - 1)) * 2 ^ (code / group - 1) + b)) L m s r → Says (groupedW code group) L m s r) := fun r h => h
  obtain ⟨Q, eQ⟩ : ∃ Q, code / group = Q := ⟨_, rfl⟩
  rw [eQ] at hq hmax hc hE hX HG0 HG1 HW
  obtain ⟨E, eE⟩ : ∃ E, Q - 1 = E := ⟨_, rfl⟩
  rw [eE] at hmax hE hX HG0 HG1 HW
  have hpow : (2 : Nat) ^ E ≤ 2 ^ 19 := Nat.pow_le_pow_right (by decide) hE
  have HS := Lib.hid h
  clear h hL eQ eE
  have hmul : IntKind.i64.wrap ((group : Int) * (E : Int)) = ((group * E : Nat) : Int) := by
    rw [IntKind.wrap_i64, ← Int.natCast_mul]
    omega
  obtain ⟨M, eM⟩ : ∃ M, group * E = M := ⟨_, rfl⟩
  rw [eM] at hmul hX HW
  have hsub : IntKind.i64.wrap ((code : Int) - (M : Int)) = ((code - M : Nat) : Int) := by
    rw [IntKind.wrap_i64]
    omega
  obtain ⟨X, eX⟩ : ∃ X, code - M = X := ⟨_, rfl⟩
  rw [eX] at hsub HW
  have hX2 : X ≤ 100 := by omega
  clear eM eX hX
  have hbits := numAt_below L s.pos E
  obtain ⟨bv, ebv⟩ : ∃ x, numAt L s.pos E = x := ⟨_, rfl⟩
  rw [ebv] at HG0 hbits
  have HBV := Lib.hid ebv
  have hx2 : X * 2 ^ E ≤ 100 * 2 ^ 19 := Nat.mul_le_mul hX2 hpow
  have hshl : IntKind.i64.wrap ((X : Int) * 2 ^ E) = ((X * 2 ^ E : Nat) : Int) := by
    have : ((X : Int) * 2 ^ E) = ((X * 2 ^ E : Nat) : Int) := by simp
    rw [this, IntKind.wrap_i64]
    omega
  obtain ⟨Y, eY⟩ : ∃ Y, X * 2 ^ E = Y := ⟨_, rfl⟩
  rw [eY] at hshl hx2 HW
  have hbv : bv ≤ 524288 := by omega
  have hadd : IntKind.i64.wrap ((Y : Int) + (bv : Int)) = ((Y + bv : Nat) : Int) := by
    rw [IntKind.wrap_i64]
    omega
  by_cases hs : s.pos + E ≤ L.length
  · have HSP := Lib.hid hs
    have HGG := fun w h => HG0.out w O h hs
    clear hpow hbits eY hs ebv hx2 hcg hX2 HG0 HG1
    go_enter Tryd.func71, Tryd.ntmps71
    go_wp2_with fail
    go_region_with (go_at_call 40; refine (HGG w.drew (isS_drew HS.out)).mono ?_; rintro e w2 ⟨O2, rfl, h1, h2⟩)
    all_goals go_wp2_with fail
    all_goals go_simp
    all_goals go_ret
    all_goals refine .inl ⟨Y + bv, _, O2, HW.out _ (Way.says_bind (Way.says_get E HSP.out) ?_), ?_, h1, went_drew h2⟩
    · rw [HBV.out]
      exact Way.says_pure _
    · rfl
  · have HSP : Hid (L.length < s.pos + E) := by show _ < _; omega
    have HGG := fun w h => HG1.out w O h HSP.out
    clear hpow hbits eY hs ebv hx2 hcg hX2 HG0 HG1
    go_enter Tryd.func71, Tryd.ntmps71
    go_wp2_with fail
    go_region_with (go_at_call 40; refine (HGG w.drew (isS_drew HS.out)).mono ?_; rintro e w2 ⟨rfl, h2⟩; refine dead w2 ⟨rfl, .inr ⟨12, HW.out _ (Way.says_bind_err (Way.says_get_short E HSP.out)), rfl, past_drew h2⟩⟩ ?_)
    all_goals trivial
set_option maxHeartbeats 1000000 in
theorem length_go (w : World) (g : Nat) (L : List Bool) (m : Nat) (s : St) (fx : Value) (O : Nat → Prop) (x : Nat) (h : isS w g L m s fx O) (hx : 257 ≤ x) (hx2 : x ≤ 1000) (hL : L.length ≤ 1099511627776) :
    Calls Tryd.prog 64 #[.pointer (some ⟨g, 0, none⟩), .int .i64 (x : Int)] w (Goes (lengthW x) L m s (fun n => .int .i64 (n : Int)) g fx O w) := by
  have HS := Lib.hid h
  by_cases h1 : 285 < x
  · have d1 : decide ((285 : Int) < (x : Int)) = true := decide_eq_true (by omega)
    have HW : Hid (Says (lengthW x) L m s (.err 10)) := by
      refine Way.says_bind_err ?_
      unfold refuseW
      rw [if_pos h1]
      exact Way.says_fail 10
    clear h hL
    go_enter Tryd.func64, Tryd.ntmps64
    go_wp2_with fail
    go_at_call 51
    refine (refuse_yes 10 _).mono ?_
    rintro e w2 ⟨rfl, rfl⟩
    go_wp2_with fail
    exact ⟨rfl, .inr ⟨10, HW.out, rfl, Past.refl _ _⟩⟩
  · have d1 : decide ((285 : Int) < (x : Int)) = false := decide_eq_false (by omega)
    have hr : Says (refuseW (285 < x) 10) L m s (.ok () s) := by
      unfold refuseW
      rw [if_neg h1]
      exact Way.says_pure ()
    by_cases h2 : x = 285
    · subst h2
      have HW : Hid (Says (lengthW 285) L m s (.ok 258 s)) := Way.says_bind hr (Way.says_pure 258)
      clear h hL hr d1
      go_enter Tryd.func64, Tryd.ntmps64
      go_wp2_with fail
      go_at_call 51
      refine (refuse_no _ _).mono ?_
      rintro e w2 ⟨rfl, rfl⟩
      go_wp2_with fail
      go_ret
      exact .inl ⟨258, s, O, HW.out, rfl, HS.out, WentOn.refl _ _⟩
    · have d2 : ((x : Int) == 285) = false := by simp; omega
      have HW : Hid (∀ r, Says ((groupedW (x - 257) 4).bind fun n => Way.pure (3 + n)) L m s r → Says (lengthW x) L m s r) := fun r h => Way.says_bind hr (by rw [if_neg h2]; exact h)
      have HG := grouped_go w g L m s fx O (x - 257) 4 h (.inr rfl) (by omega) hL
      have e1 : (x : Int) - 257 = ((x - 257 : Nat) : Int) := by omega
      obtain ⟨y, ey⟩ : ∃ y, x - 257 = y := ⟨_, rfl⟩
      rw [ey] at e1 HG HW
      have hy : y ≤ 28 := by omega
      have HY : Hid (y ≤ 28) := hy
      clear h hL hr ey h2
      go_enter Tryd.func64, Tryd.ntmps64
      go_wp2_with fail
      go_at_call 51
      refine (refuse_no _ _).mono ?_
      rintro e w2 ⟨rfl, rfl⟩
      go_wp2_with fail
      go_at_call 71
      refine HG.mono ?_
      clear HG
      rintro e w2 (⟨a, u, O2, hs, rfl, h1, h2⟩ | ⟨k, hs, rfl, hp⟩)
      · have HSY := Lib.hid hs
        have ha := grouped_below hs HY.out
        clear hs
        go_wp2_with fail
        go_ret
        refine .inl ⟨3 + a, u, O2, HW.out _ (Way.says_bind HSY.out (Way.says_pure _)), ?_, h1, h2⟩
        go_num
      · go_wp2_with fail
        exact ⟨rfl, .inr ⟨k, HW.out _ (Way.says_bind_err hs), rfl, hp⟩⟩
theorem length_below {x : Nat} {L : List Bool} {m : Nat} {s u : St} {a : Nat} (h : Says (lengthW x) L m s (.ok a u)) : a ≤ 9000000000 := by
  obtain ⟨f, h⟩ := h
  obtain ⟨b, t, h1, h2⟩ := Way.bind_ok h
  by_cases hx : 285 < x
  · unfold refuseW at h1
    rw [if_pos hx] at h1
    cases h1
  · by_cases h285 : x = 285
    · rw [if_pos h285] at h2
      cases h2
      decide
    · rw [if_neg h285] at h2
      obtain ⟨n, t2, h3, h4⟩ := Way.bind_ok h2
      cases h4
      have := grouped_below (group := 4) ⟨f, h3⟩ (by omega)
      omega
set_option maxHeartbeats 1000000 in
theorem distance_go (w : World) (g : Nat) (L : List Bool) (m : Nat) (s : St) (fx : Value) (O : Nat → Prop) (b off : Nat) (c : Cds) (K : Nat → Prop) (h : isS w g L m s fx O) (hc : isCd w b off c K) (hK : ∀ k, K k → ¬ O k) (hf : Fit c) (hL : L.length ≤ 1099511627776) :
    Calls Tryd.prog 66 #[.pointer (some ⟨g, 0, none⟩), .pointer (some ⟨b, off, none⟩)] w (Goes (distanceW c) L m s (fun n => .int .i64 (n : Int)) g fx O w) := by
  have HS := symbol_go w g L m s fx O b off c K h hc hK hf hL
  have HL := Lib.hid hL
  clear h hc hK hf hL
  go_enter Tryd.func66, Tryd.ntmps66
  go_wp2_with fail
  go_at_call 63
  refine HS.mono ?_
  clear HS
  rintro e w1 (⟨x, u, O1, hs, rfl, h1, h2⟩ | ⟨k, hs, rfl, hp⟩)
  · have HSY := Lib.hid hs
    have H1 := Lib.hid h1
    have H2 := Lib.hid h2
    clear hs h1 h2
    by_cases hx : 30 ≤ x
    · have d1 : decide ((30 : Int) ≤ (x : Int)) = true := decide_eq_true (by omega)
      have d2 : decide (30 ≤ x) = true := decide_eq_true hx
      have HW : Hid (Says (distanceW c) L m s (.err 10)) := by
        refine Way.says_bind HSY.out (Way.says_bind_err ?_)
        unfold refuseW
        rw [if_pos hx]
        exact Way.says_fail 10
      go_wp2_with fail
      go_at_call 51
      refine (refuse_yes 10 _).mono ?_
      rintro e w2 ⟨rfl, rfl⟩
      go_wp2_with fail
      exact ⟨rfl, .inr ⟨10, HW.out, rfl, H2.out.past⟩⟩
    · have d1 : decide ((30 : Int) ≤ (x : Int)) = false := decide_eq_false (by omega)
      have d2 : decide (30 ≤ x) = false := decide_eq_false hx
      have HW : Hid (∀ r, Says ((groupedW x 2).bind fun n => Way.pure (1 + n)) L m u r → Says (distanceW c) L m s r) := fun r h => Way.says_bind HSY.out (Way.says_bind (a := ()) (u := u) (by
        unfold refuseW
        rw [if_neg hx]
        exact Way.says_pure ()) h)
      have HG := grouped_go w1 g L m u fx O1 x 2 H1.out (.inl rfl) (by omega) HL.out
      have HX : Hid (x ≤ 28 + 1) := by show _ ≤ _; omega
      go_wp2_with fail
      go_at_call 51
      refine (refuse_no _ _).mono ?_
      rintro e w2 ⟨rfl, rfl⟩
      go_wp2_with fail
      go_at_call 71
      refine HG.mono ?_
      clear HG
      rintro e w3 (⟨a, u3, O3, hs, rfl, h1, h2⟩ | ⟨k, hs, rfl, hp⟩)
      · have HS3 := Lib.hid hs
        have ha := grouped_less hs HX.out
        clear hs
        go_wp2_with fail
        go_ret
        refine .inl ⟨1 + a, u3, O3, HW.out _ (Way.says_bind HS3.out (Way.says_pure _)), ?_, h1, H2.out.trans h2⟩
        go_num
      · go_wp2_with fail
        exact ⟨rfl, .inr ⟨k, HW.out _ (Way.says_bind_err hs), rfl, H2.out.on hp⟩⟩
  · go_wp2_with fail
    exact ⟨rfl, .inr ⟨k, Way.says_bind_err hs, rfl, hp⟩⟩
theorem distance_said {c : Cds} {L : List Bool} {m : Nat} {s u : St} {a : Nat} (h : Says (distanceW c) L m s (.ok a u)) : 1 ≤ a ∧ a ≤ 9000000000 := by
  obtain ⟨f, h⟩ := h
  obtain ⟨x, t, h1, h2⟩ := Way.bind_ok h
  obtain ⟨_, t2, h3, h4⟩ := Way.bind_ok h2
  obtain ⟨n, t3, h5, h6⟩ := Way.bind_ok h4
  cases h6
  by_cases hx : 30 ≤ x
  · unfold refuseW at h3
    rw [if_pos hx] at h3
    cases h3
  · have := grouped_less (group := 2) ⟨f, h5⟩ (by omega)
    omega
end Go.Proofs.YtbhmjppnhlmefaaDoor.Fx
