/-
  Stored blocks, as landed. The conditions stand in it.
-/
import Derived.Test.YtbfpbmnnlckldaaDoorBitsCt
import Derived.Test.YtbfpbmnnlckldaaDoorInfE
namespace Go.Proofs.YtbfpbmnnlckldaaDoor.Fx
open Go Go.RowKit Go.Joins
set_option linter.unusedVariables false
theorem not16b (n : Nat) (h : n < 65536) : bits .xor .i64 (n : Int) 65535 = ((65535 - n : Nat) : Int) := by
  have e1 : (65535 : Int) = ((65535 : Nat) : Int) := rfl
  have key : (BitVec.ofInt 64 (n : Int) ^^^ BitVec.ofInt 64 65535).toNat = 65535 - n := by
    rw [BitVec.toNat_xor, BitVec.toNat_ofInt, BitVec.toNat_ofInt]
    have a1 : ((n : Int) % ((2 ^ 64 : Nat) : Int)).toNat = n := by omega
    have a2 : ((65535 : Int) % ((2 ^ 64 : Nat) : Int)).toNat = 65535 := by omega
    rw [a1, a2]
    have : ∀ m : BitVec 16, (m ^^^ 65535#16).toNat = 65535 - m.toNat := by
      intro m
      have h1 : m ^^^ 65535#16 = ~~~ m := by
        have : (65535#16) = BitVec.allOnes 16 := rfl
        rw [this, BitVec.xor_allOnes]
      rw [h1, BitVec.toNat_not]
    have h2 := this (BitVec.ofNat 16 n)
    rw [BitVec.toNat_xor, BitVec.toNat_ofNat, Nat.mod_eq_of_lt (by omega)] at h2
    exact h2
  show IntKind.i64.wrap (((BitVec.ofInt 64 (n : Int) ^^^ BitVec.ofInt 64 65535).toNat : Nat) : Int) = _
  rw [key, IntKind.wrap_i64]
  omega
theorem Strm.drew {w : World} {g : Nat} {L : List Bool} {m : Nat} {s : St} {fx : Value} {O : Nat → Prop} {r v : Value} {R : Nat → Prop} (h : Strm w g L m s fx O r v R) : Strm w.drew g L m s fx O r v R :=
  ⟨h.obj, isR_keep _ _ _ _ _ _ h.rd (Nat.le_refl _) (fun _ _ => rfl), h.row, h.gr, h.gv, h.rv, h.own⟩
theorem isR_le {w : World} {v : Value} {l : List Bool} {t : Nat} {O : Nat → Prop} (h : isR w v l t O) : t ≤ l.length := by
  obtain ⟨_, _, _, _, _, _, _, _, _, h, _⟩ := h
  exact h
theorem isS_pos {w : World} {g : Nat} {L : List Bool} {m : Nat} {s : St} {fx : Value} {O : Nat → Prop} (h : isS w g L m s fx O) : s.pos ≤ L.length := by
  obtain ⟨_, _, _, h⟩ := h
  exact isR_le h.rd
theorem byte_same {x : Nat} (h : x ≤ 255) : IntKind.u8.wrap (x : Int) = (x : Int) := by
  rw [IntKind.wrap_u8]
  omega
theorem row_len {w : World} {v : Value} {n l : Nat} {xs : List Value} (h : w.ownsRow 0 5 1 v n xs) (e : n = l) : w.ownsRow 0 5 1 v l xs := e ▸ h
set_option maxHeartbeats 4000000 in
set_option maxRecDepth 100000 in
/-- The bytes of a stored block: its loop alone. -/
theorem stored_go (w : World) (g : Nat) (L : List Bool) (m : Nat) (s : St) (fx : Value) (O : Nat → Prop) (h : isS w g L m s fx O) (hm : m ≤ 1099511627776) (ho : s.out.length ≤ m) (hL : L.length ≤ 1099511627776) :
    Calls Tryd.prog 88 #[.pointer (some ⟨g, 0, none⟩)] w (Goes storedW L m s (fun _ => .tuple #[]) g fx O w) := by
  have HM := Lib.hid hm
  have HO := Lib.hid ho
  have HL := Lib.hid hL
  obtain ⟨r, v, R, hst⟩ := h
  have q0 := cell_of_block hst.obj 0
  have HA := ralign_code w r L s.pos R hst.rd hL (isR_le hst.rd)
  have HST := Lib.hid hst
  clear hst hm ho hL
  go_enter Tryd.func88, Tryd.ntmps88
  go_wp2_with fail
  go_at_call 95
  refine HA.mono ?_
  clear HA q0
  rintro e w1 ⟨R1, rfl, h1, h2, h3⟩
  obtain ⟨O1, k1, k2⟩ := HST.out.read h1 h2 h3
  have HW1 : Hid (∀ r, Says ((Way.get 16).bind fun n => (Way.get 16).bind fun k => (refuseW (¬ k = 65535 - n) 10).bind fun _ => (Way.room n).bind fun _ => bytesW n) L m ⟨(s.pos + 7) / 8 * 8, s.out⟩ r → Says storedW L m s r) := fun r h => Way.says_bind Way.says_align h
  have HK2 := Lib.hid k2
  have HG := get_go w1 g L m _ fx O1 16 ⟨_, _, _, k1⟩ (by decide) HL.out
  clear h1 h2 h3 k1 k2
  go_wp2_with fail
  go_at_call 69
  refine HG.mono ?_
  clear HG
  rintro e w2 (⟨n, u, O2, hs, rfl, h1, h2⟩ | ⟨k, hs, rfl, hp⟩)
  · obtain ⟨hn, rfl, _⟩ := get_said hs
    have HW2 : Hid (∀ r, Says ((Way.get 16).bind fun k => (refuseW (¬ k = 65535 - n) 10).bind fun _ => (Way.room n).bind fun _ => bytesW n) L m ⟨(s.pos + 7) / 8 * 8 + 16, s.out⟩ r → Says storedW L m s r) := fun r h => HW1.out r (Way.says_bind hs h)
    have HK3 := Lib.hid (HK2.out.trans h2)
    have HG := get_go w2 g L m _ fx O2 16 h1 (by decide) HL.out
    have hn : n ≤ 65535 := by omega
    have HN : Hid (n ≤ 65535) := hn
    have hx := not16b n (by omega)
    clear hs h1 h2 HW1
    go_wp2_with fail
    go_at_call 69
    refine HG.mono ?_
    clear HG
    rintro e w3 (⟨k, u, O3, hs, rfl, h1, h2⟩ | ⟨k, hs, rfl, hp⟩)
    · obtain ⟨hk, rfl, _⟩ := get_said hs
      have HS3 := Lib.hid hs
      have HK4 := Lib.hid (HK3.out.trans h2)
      have HT := Lib.hid h1
      have hk : k ≤ 65535 := by omega
      obtain ⟨X, eX⟩ : ∃ X, 65535 - n = X := ⟨_, rfl⟩
      rw [eX] at hx HW2
      clear hs h1 h2 eX
      by_cases hkx : k = X
      · subst hkx
        have HW3 : Hid (∀ r, Says ((Way.room n).bind fun _ => bytesW n) L m ⟨(s.pos + 7) / 8 * 8 + 16 + 16, s.out⟩ r → Says storedW L m s r) := fun r h => HW2.out r (Way.says_bind HS3.out (Way.says_bind (refuse_said (by simp)) h))
        have HR := room_go w3 g L m _ fx O3 n HT.out (by have := HN.out; omega) HM.out HO.out
        clear HW2
        go_wp2_with fail
        go_at_call 87
        refine (refuse_no _ _).mono ?_
        rintro e w4 ⟨rfl, rfl⟩
        go_wp2_with fail
        go_at_call 96
        refine HR.mono ?_
        clear HR
        rintro e w4 (⟨⟨⟩, u, O4, hs, rfl, h1, h2⟩ | ⟨k, hs, rfl, hp⟩)
        · obtain ⟨rfl, hroom⟩ := room_said hs
          have HW4 : Hid (∀ r, Says (bytesW (n - 0)) L m ⟨(s.pos + 7) / 8 * 8 + 16 + 16, s.out⟩ r → Says storedW L m s r) := fun r h => HW3.out r (Way.says_bind hs h)
          have HRM := Lib.hid hroom
          have H1 := Lib.hid h1
          have H2 := Lib.hid (HK4.out.trans h2)
          clear hs HW3 h1 h2 hroom
          go_wp2_with fail
          go_loopw [20] (fun u20 wr => ∃ (i : Nat) (t : St) (O' : Nat → Prop), i ≤ n ∧ u20 = .int .i64 i ∧ Hid (isS wr g L m t fx O') ∧ Hid (WentOn O O' w wr) ∧ Hid (∀ r, Says (bytesW (n - i)) L m t r → Says storedW L m s r) ∧ Hid (t.out.length + (n - i) ≤ m)) (fun u20 _ => n - (intOf u20).toNat)
          case atStart => exact ⟨0, _, O4, Nat.zero_le _, rfl, H1, H2, HW4, HRM⟩
          case round =>
            obtain ⟨i, t, O', hi, rfl, hS, hW, hR, hRT⟩ := hrel
            by_cases hin : i < n
            · have d1 : decide ((i : Int) < (n : Int)) = true := decide_eq_true (by omega)
              have d2 : decide (i < n) = true := decide_eq_true hin
              have hi2 : i + 1 ≤ 1099511627776 := by omega
              obtain ⟨r, v, R, hst⟩ := hS.out
              have HG := Lib.hid (get_str wr.drew g L m t fx O' 8 r v R (hst.drew) (by decide) HL.out)
              obtain ⟨vo, vc, rfl⟩ := row_shape hst.row
              obtain ⟨l, el⟩ : ∃ l, t.out.length = l := ⟨_, rfl⟩
              have EL := Lib.hid el
              have q1 := cell_of_block hst.obj 1
              rw [el] at q1 HG
              have HLM : Hid (l + 1 ≤ 1099511627776) := by have := hRT.out; have := HM.out; show _ ≤ _; omega
              obtain ⟨i0, hi0, hz0, hz1, hz2⟩ := info_parts info8
              have HRB : Hid (∀ r, Says ((Way.get 8).bind fun x => (Way.put fun _ => x).bind fun _ => bytesW (n - (i + 1))) L m t r → Says storedW L m s r) := fun r h => hR.out r (by
                rw [show n - i = (n - (i + 1)) + 1 by omega]
                exact h)
              clear hst el hS
              go_wp2_with fail
              go_region_law (first
                | (refine step_append_own' rfl (.tmp 26) (.tmp 30) 24 rfl 0 5 i0 (.int .u8 0) 1 1 Tryd.underlying24 hi0 hz0 hz1 hz2 rfl (by decide) (.slice vo l vc) l (t.out.map byteVal) (by simp [Act.eval]) (hROW.out.alloc _) ⟨w5.heap.size, 0, none⟩ 1 1 [.int .u8 (x : Int)] (by simp [Act.eval]) rfl (by intro j u hu; cases j <;> simp at hu; subst hu; simp [Addr.add]) (by simp [Value.oneCell']) (by have := HLM.out; unfold maxLen; omega) (by have := HLM.out; omega) (Nat.zero_le _) ?_; intro v' w6 hown hgrow hwhere; obtain ⟨b2, cap2, rfl, hcc⟩ := row_form hown; have HOWN := Lib.hid hown; have HGROW := Lib.hid hgrow; have HWHERE := Lib.hid hwhere; have hx0 := HST5.out.grown ((Below.refl _ _).alloc (Nat.le_refl _) _) hgrow; have r1 := cell_of_block hx0 1; have r2 := unfrozen_of_block hx0 1; clear hown hgrow hwhere hx0 hcc)
                | (go_simp; go_at_call 69; refine HG.out.mono ?_; rintro e w5 (⟨x, u, O5, R5, hs, rfl, h1, h2⟩ | ⟨k, hs, rfl, hp⟩); rotate_left; (exact ⟨rfl, .inr ⟨k, HRB.out _ (Way.says_bind_err hs), rfl, hW.out.on (past_drew hp)⟩⟩); obtain ⟨hx8, rfl, _⟩ := get_said hs; have hx8 : x ≤ 255 := (by omega); have HS5 := Lib.hid hs; have HST5 := Lib.hid h1; have HW5 := Lib.hid h2; have q5 := cell_of_block h1.obj 1; have a1 := fun o => cell_of_block (alloc_old (o' := o) h1.obj) 1; have hROW : Hid (w5.ownsRow 0 5 1 (.slice vo l vc) l (t.out.map byteVal)) := row_len h1.row EL.out; have hx9 : IntKind.u8.wrap (x : Int) = (x : Int) := byte_same hx8; clear hs h1 h2))
              all_goals go_wp2_with fail
              all_goals (obtain ⟨O2, j1, j2⟩ := Strm.push (x := x) HST5.out ((Below.refl _ _).alloc (Nat.le_refl _) _) HGROW.out (by rw [show ({ pos := t.pos + 8, out := t.out } : St).out.length = l from EL.out, List.map_append]; exact HOWN.out) HWHERE.out)
              all_goals (refine ⟨⟨i + 1, ⟨t.pos + 8, t.out ++ [x]⟩, O2, by omega, by go_num, ⟨_, _, _, j1⟩, (hW.out.trans (went_drew HW5.out)).trans j2, fun r h => HRB.out r (Way.says_bind HS5.out (Way.says_bind (Way.says_put _ (by have := hRT.out; simp only; omega)) h)), ?_⟩, by simp [intOf]; omega⟩)
              all_goals (show _ ≤ _)
              all_goals (rw [List.length_append]; have := hRT.out; simp only [List.length_singleton]; omega)
            · obtain rfl : i = n := by omega
              have d1 : decide ((i : Int) < (i : Int)) = false := decide_eq_false (by omega)
              have d2 : decide (i < i) = false := decide_eq_false (by omega)
              have HE := hR.out (.ok () t) (by rw [Nat.sub_self]; exact Way.says_pure ())
              go_wp2_with fail
              go_end0
              exact .inl ⟨(), t, O', HE, rfl, hS.out, hW.out⟩
        · go_wp2_with fail
          exact ⟨rfl, .inr ⟨k, HW3.out _ (Way.says_bind_err hs), rfl, HK4.out.on hp⟩⟩
      · have d1 : ((k : Int) == (X : Int)) = false := by simp; omega
        have d4 : ((k : Int) != (X : Int)) = true := by simp; omega
        have d3 : decide (k = X) = false := decide_eq_false hkx
        have HW3 : Hid (Says storedW L m s (.err 10)) := HW2.out _ (Way.says_bind HS3.out (Way.says_bind_err (refuse_fails hkx)))
        go_wp2_with fail
        go_at_call 87
        refine (refuse_yes 10 _).mono ?_
        rintro e w4 ⟨rfl, rfl⟩
        go_wp2_with fail
        exact ⟨rfl, .inr ⟨10, HW3.out, rfl, HK4.out.past⟩⟩
    · go_wp2_with fail
      exact ⟨rfl, .inr ⟨k, HW2.out _ (Way.says_bind_err hs), rfl, HK3.out.on hp⟩⟩
  · go_wp2_with fail
    exact ⟨rfl, .inr ⟨k, HW1.out _ (Way.says_bind_err hs), rfl, HK2.out.on hp⟩⟩
end Go.Proofs.YtbfpbmnnlckldaaDoor.Fx
