/-
  Matches, as landed. The conditions stand in it.
-/
import Derived.Test.YtbfpbmnnlckldaaDoorBitsCp
import Derived.Test.YtbfpbmnnlckldaaDoorInfD
namespace Go.Proofs.YtbfpbmnnlckldaaDoor.Fx
open Go Go.RowKit Go.Joins
set_option linter.unusedVariables false
theorem refuse_said {c : Prop} [Decidable c] {e : Nat} {L : List Bool} {m : Nat} {s : St} (h : ¬ c) : Says (refuseW c e) L m s (.ok () s) := by
  unfold refuseW
  rw [if_neg h]
  exact Way.says_pure ()
theorem refuse_fails {c : Prop} [Decidable c] {e : Nat} {L : List Bool} {m : Nat} {s : St} (h : c) : Says (refuseW c e) L m s (.err e) := by
  unfold refuseW
  rw [if_pos h]
  exact Way.says_fail e
theorem room_said {n : Nat} {L : List Bool} {m : Nat} {s u : St} (h : Says (Way.room n) L m s (.ok () u)) : u = s ∧ s.out.length + n ≤ m := by
  by_cases hs : s.out.length + n ≤ m
  · have := Way.says_one h (Way.says_room (L := L) (m := m) (s := s) n hs)
    cases this
    exact ⟨rfl, hs⟩
  · have := Way.says_one h (Way.says_room_long (L := L) (m := m) (s := s) n (by omega))
    cases this
set_option maxHeartbeats 4000000 in
set_option maxRecDepth 100000 in
theorem match_go (w : World) (g : Nat) (L : List Bool) (m : Nat) (s : St) (fx : Value) (O : Nat → Prop) (n d : Nat) (h : isS w g L m s fx O) (hn : n ≤ 1099511627776) (hd0 : 1 ≤ d) (hd : d ≤ 1099511627776) (hm : m ≤ 1099511627776) (ho : s.out.length ≤ m) :
    Calls Tryd.prog 101 #[.pointer (some ⟨g, 0, none⟩), .int .i64 (n : Int), .int .i64 (d : Int)] w (Goes (matchW n d) L m s (fun _ => .tuple #[]) g fx O w) := by
  have HS0 := Lib.hid h
  have HM := Lib.hid hm
  have HN := Lib.hid hn
  have HR := room_go w g L m s fx O n h hn hm ho
  obtain ⟨r, v, R, h⟩ := h
  have q1 := cell_of_block h.obj 1
  obtain ⟨vo, vc, rfl⟩ := row_shape h.row
  have HOL := Lib.hid ho
  obtain ⟨l, el⟩ : ∃ l, s.out.length = l := ⟨_, rfl⟩
  have EL := Lib.hid el
  rw [el] at q1 ho
  clear h el
  by_cases hdl : d ≤ l
  · have d1 : decide ((l : Int) < (d : Int)) = false := decide_eq_false (by omega)
    have d2 : decide (l < d) = false := decide_eq_false (by omega)
    have HW : Hid (∀ r, Says ((Way.room n).bind fun _ => copyW d n) L m s r → Says (matchW n d) L m s r) := fun r h => Way.says_bind (Way.says_behind d (by rw [EL.out]; exact hdl)) h
    clear hm hn
    go_enter Tryd.func101, Tryd.ntmps101
    go_wp2_with fail
    go_at_call 87
    refine (refuse_no _ _).mono ?_
    rintro e w1 ⟨rfl, rfl⟩
    clear q1
    go_wp2_with fail
    go_at_call 96
    refine HR.mono ?_
    clear HR
    rintro e w1 (⟨⟨⟩, u, O1, hs, rfl, h1, h2⟩ | ⟨k, hs, rfl, hp⟩)
    · obtain ⟨rfl, hroom⟩ := room_said hs
      have HW1 : Hid (∀ r, Says (copyW d (n - 0)) L m u r → Says (matchW n d) L m u r) := fun r h => HW.out r (Way.says_bind hs h)
      have HDL : Hid (d ≤ u.out.length) := by show _ ≤ _; rw [EL.out]; exact hdl
      have HRM := Lib.hid hroom
      have H1 := Lib.hid h1
      have H2 := Lib.hid h2
      clear hs HW h1 h2 hroom d1 d2 ho hdl
      go_wp2_with fail
      go_loopw [18] (fun u18 wr => ∃ (i : Nat) (t : St) (O' : Nat → Prop), i ≤ n ∧ u18 = .int .i64 i ∧ Hid (isS wr g L m t fx O') ∧ Hid (WentOn O O' w wr) ∧ Hid (∀ r, Says (copyW d (n - i)) L m t r → Says (matchW n d) L m u r) ∧ Hid (d ≤ t.out.length) ∧ Hid (t.out.length + (n - i) ≤ m)) (fun u18 _ => n - (intOf u18).toNat)
      case atStart => exact ⟨0, u, O1, Nat.zero_le _, rfl, H1, H2, HW1, HDL, HRM⟩
      case round =>
        obtain ⟨i, t, O', hi, rfl, hS, hW, hR, hDT, hRT⟩ := hrel
        by_cases hin : i < n
        · have d1 : decide ((i : Int) < (n : Int)) = true := decide_eq_true (by omega)
          have d2 : decide (i < n) = true := decide_eq_true hin
          have hi2 : i + 1 ≤ 1099511627776 := by have := HN.out; omega
          obtain ⟨r, v, R, hst⟩ := hS.out
          have HST := Lib.hid hst
          obtain ⟨l, el⟩ : ∃ l, t.out.length = l := ⟨_, rfl⟩
          have EL := Lib.hid el
          have hdl : d ≤ l := by have := hDT.out; omega
          have hlm : l + 1 ≤ 1099511627776 := by have := hRT.out; have := HM.out; omega
          obtain ⟨x, ex⟩ : ∃ x, t.out[l - d]? = some x := ⟨t.out[l - d]'(by rw [el]; omega), List.getElem?_eq_getElem _⟩
          obtain ⟨vb, vof, vc, ev, hvlt, hcell⟩ := listed_cell (own_listed hst.row) (l - d) x ex
          have HX : Hid (t.out.getD (t.out.length - d) 0 = x) := by
            show _ = _
            rw [el, List.getD_eq_getElem?_getD, ex]
            rfl
          rw [el] at ev
          subst ev
          have hob := hst.obj
          have q1 := cell_of_block hst.obj 1
          have hrow := hst.row
          rw [el] at hrow
          have hROW : Hid (wr.drew.ownsRow 0 5 1 (.slice (some ⟨vb, vof, none⟩) l vc) l (t.out.map byteVal)) := hrow
          unfold byteVal at hcell
          have hld : (l : Int) - (d : Int) = ((l - d : Nat) : Int) := by omega
          obtain ⟨J, eJ⟩ : ∃ J, l - d = J := ⟨_, rfl⟩
          rw [eJ] at hld hcell
          have hJl : J < l := by omega
          have hJw : IntKind.i64.wrap (J : Int) = (J : Int) := by
            rw [IntKind.wrap_i64]
            omega
          have HLM : Hid (l + 1 ≤ 1099511627776) := hlm
          have HHL : Hid (g < wr.heap.size) := (Array.getElem?_eq_some_iff.1 hst.obj).1
          obtain ⟨i0, hi0, hz0, hz1, hz2⟩ := info_parts info8
          have a1 := fun o => cell_of_block (alloc_old (o' := o) HST.out.obj) 1
          clear ex hst hob el hrow eJ hS
          go_wp2_with fail
          go_region_law (refine step_append_own' rfl (.tmp 24) (.tmp 38) 24 rfl 0 5 i0 (.int .u8 0) 1 1 Tryd.underlying24 hi0 hz0 hz1 hz2 rfl (by decide) (.slice (some ⟨vb, vof, none⟩) l vc) l (t.out.map byteVal) (by simp [Act.eval]) (hROW.out.alloc _) ⟨wr.heap.size, 0, none⟩ 1 1 [.int .u8 (x : Int)] (by simp [Act.eval]) rfl (by intro j u hu; cases j <;> simp at hu; subst hu; simp [Addr.add]) (by simp [Value.oneCell']) (by have := HLM.out; unfold maxLen; omega) (by have := HLM.out; omega) (Nat.zero_le _) ?_; intro v' w2 hown hgrow hwhere; obtain ⟨b2, cap2, rfl, hcc⟩ := row_form hown; have HOWN := Lib.hid hown; have HGROW := Lib.hid hgrow; have HWHERE := Lib.hid hwhere; have hx0 := HST.out.grown ((Below.refl _ _).drew.alloc (Nat.le_refl _) _) hgrow; have r1 := cell_of_block hx0 1; have r2 := unfrozen_of_block hx0 1; clear hown hgrow hwhere hx0 hcc)
          all_goals go_wp2_with fail
          all_goals (obtain ⟨O2, j1, j2⟩ := Strm.push (x := x) HST.out ((Below.refl _ _).drew.alloc (Nat.le_refl _) _) HGROW.out (by rw [EL.out, List.map_append]; exact HOWN.out) HWHERE.out)
          all_goals (clear hJw)
          all_goals (refine ⟨⟨i + 1, ⟨t.pos, t.out ++ [x]⟩, O2, by omega, by go_num, ⟨_, _, _, j1⟩, hW.out.trans j2, fun r h => hR.out r ?_, ?_, ?_⟩, by simp [intOf]; omega⟩)
          all_goals first
            | (show _ ≤ _
               rw [List.length_append]
               have := hDT.out
               omega)
            | (show _ ≤ _
               rw [List.length_append]
               have := hRT.out
               simp only [List.length_singleton]
               omega)
            | (rw [show n - i = (n - (i + 1)) + 1 by omega]
               refine Way.says_bind (Way.says_put _ (by have := hRT.out; omega)) ?_
               rw [HX.out]
               exact h)
        · obtain rfl : i = n := by omega
          have d1 : decide ((i : Int) < (i : Int)) = false := decide_eq_false (by omega)
          have d2 : decide (i < i) = false := decide_eq_false (by omega)
          have HE := hR.out (.ok () t) (by rw [Nat.sub_self]; exact Way.says_pure ())
          go_wp2_with fail
          go_end0
          exact .inl ⟨(), t, O', HE, rfl, hS.out, hW.out⟩
    · go_wp2_with fail
      exact ⟨rfl, .inr ⟨k, HW.out _ (Way.says_bind_err hs), rfl, hp⟩⟩
  · have d1 : decide ((l : Int) < (d : Int)) = true := decide_eq_true (by omega)
    have d2 : decide (l < d) = true := decide_eq_true (by omega)
    have HW : Hid (Says (matchW n d) L m s (.err 10)) := Way.says_bind_err (Way.says_behind_bits d (by rw [EL.out]; omega))
    clear hm hn
    go_enter Tryd.func101, Tryd.ntmps101
    go_wp2_with fail
    go_at_call 87
    refine (refuse_yes 10 _).mono ?_
    rintro e w1 ⟨rfl, rfl⟩
    go_wp2_with fail
    exact ⟨rfl, .inr ⟨10, HW.out, rfl, Past.refl _ _⟩⟩
end Go.Proofs.YtbfpbmnnlckldaaDoor.Fx
