/-
  Stored blocks, as landed. The conditions stand in it.
  Symbols up to the end of their block, as landed. The conditions stand in it.
-/
import Derived.Test.YtbfpbmnnlckldaaDoorBitsCt
import Derived.Test.YtbfpbmnnlckldaaDoorInfE
namespace Go.Proofs.YtbfpbmnnlckldaaDoor.Fx
open Go Go.RowKit Go.Joins
set_option linter.unusedVariables false
theorem not16b (n : Nat) (h : n < 65536) : bits .xor .i64 (n : Int) 65535 = ((65535 - n : Nat) : Int) := by
  have e1 : (65535 : Int) = ((65535 : Nat) : Int) := rfl
  have key : (BitVec.ofInt 64 (n : Int) ^^^ BitVec.ofInt 64 65535).toNat = 65535 - n := by
    rw [BitVec.toNat_xor, BitVec.toNat_ofInt, BitVec.toNat_ofInt]
    have a1 : ((n : Int) % ((2 ^ 64 : Nat) : Int)).toNat = n := by omega
    have a2 : ((65535 : Int) % ((2 ^ 64 : Nat) : Int)).toNat = 65535 := by omega
    rw [a1, a2]
    have : ∀ m : BitVec 16, (m ^^^ 65535#16).toNat = 65535 - m.toNat := by
      intro m
      have h1 : m ^^^ 65535#16 = ~~~ m := by
        have : (65535#16) = BitVec.allOnes 16 := rfl
        rw [this, BitVec.xor_allOnes]
      rw [h1, BitVec.toNat_not]
    have h2 := this (BitVec.ofNat 16 n)
    rw [BitVec.toNat_xor, BitVec.toNat_ofNat, Nat.mod_eq_of_lt (by omega)] at h2
    exact h2
  show IntKind.i64.wrap (((BitVec.ofInt 64 (n : Int) ^^^ BitVec.ofInt 64 65535).toNat : Nat) : Int) = _
  rw [key, IntKind.wrap_i64]
  omega
theorem Strm.drew {w : World} {g : Nat} {L : List Bool} {m : Nat} {s : St} {fx : Value} {O : Nat → Prop} {r v : Value} {R : Nat → Prop} (h : Strm w g L m s fx O r v R) : Strm w.drew g L m s fx O r v R :=
  ⟨h.obj, isR_keep _ _ _ _ _ _ h.rd (Nat.le_refl _) (fun _ _ => rfl), h.row, h.gr, h.gv, h.rv, h.own⟩
theorem isR_le {w : World} {v : Value} {l : List Bool} {t : Nat} {O : Nat → Prop} (h : isR w v l t O) : t ≤ l.length := by
  obtain ⟨_, _, _, _, _, _, _, _, _, h, _⟩ := h
  exact h
theorem isS_pos {w : World} {g : Nat} {L : List Bool} {m : Nat} {s : St} {fx : Value} {O : Nat → Prop} (h : isS w g L m s fx O) : s.pos ≤ L.length := by
  obtain ⟨_, _, _, h⟩ := h
  exact isR_le h.rd
theorem byte_same {x : Nat} (h : x ≤ 255) : IntKind.u8.wrap (x : Int) = (x : Int) := by
  rw [IntKind.wrap_u8]
  omega
theorem row_len {w : World} {v : Value} {n l : Nat} {xs : List Value} (h : w.ownsRow 0 5 1 v n xs) (e : n = l) : w.ownsRow 0 5 1 v l xs := e ▸ h
set_option maxHeartbeats 4000000 in
set_option maxRecDepth 100000 in
/-- The bytes of a stored block: its loop alone. -/
theorem stored_go (w : World) (g : Nat) (L : List Bool) (m : Nat) (s : St) (fx : Value) (O : Nat → Prop) (h : isS w g L m s fx O) (hm : m ≤ 1099511627776) (ho : s.out.length ≤ m) (hL : L.length ≤ 1099511627776) :
    Calls Tryd.prog 88 #[.pointer (some ⟨g, 0, none⟩)] w (Goes storedW L m s (fun _ => .tuple #[]) g fx O w) := by
  have HM := Lib.hid hm
  have HO := Lib.hid ho
  have HL := Lib.hid hL
  obtain ⟨r, v, R, hst⟩ := h
  have q0 := cell_of_block hst.obj 0
  have HA := ralign_code w r L s.pos R hst.rd hL (isR_le hst.rd)
  have HST := Lib.hid hst
  clear hst hm ho hL
  go_enter Tryd.func88, Tryd.ntmps88
  go_wp2_with fail
  go_at_call 95
  refine HA.mono ?_
  clear HA q0
  rintro e w1 ⟨R1, rfl, h1, h2, h3⟩
  obtain ⟨O1, k1, k2⟩ := HST.out.read h1 h2 h3
  have HW1 : Hid (∀ r, Says ((Way.get 16).bind fun n => (Way.get 16).bind fun k => (refuseW (¬ k = 65535 - n) 10).bind fun _ => (Way.room n).bind fun _ => bytesW n) L m ⟨(s.pos + 7) / 8 * 8, s.out⟩ r → Says storedW L m s r) := fun r h => Way.says_bind Way.says_align h
  have HK2 := Lib.hid k2
  have HG := get_go w1 g L m _ fx O1 16 ⟨_, _, _, k1⟩ (by decide) HL.out
  clear h1 h2 h3 k1 k2
  go_wp2_with fail
  go_at_call 69
  refine HG.mono ?_
  clear HG
  rintro e w2 (⟨n, u, O2, hs, rfl, h1, h2⟩ | ⟨k, hs, rfl, hp⟩)
  · obtain ⟨hn, rfl, _⟩ := get_said hs
    have HW2 : Hid (∀ r, Says ((Way.get 16).bind fun k => (refuseW (¬ k = 65535 - n) 10).bind fun _ => (Way.room n).bind fun _ => bytesW n) L m ⟨(s.pos + 7) / 8 * 8 + 16, s.out⟩ r → Says storedW L m s r) := fun r h => HW1.out r (Way.says_bind hs h)
    have HK3 := Lib.hid (HK2.out.trans h2)
    have HG := get_go w2 g L m _ fx O2 16 h1 (by decide) HL.out
    have hn : n ≤ 65535 := by omega
    have HN : Hid (n ≤ 65535) := hn
    have hx := not16b n (by omega)
    clear hs h1 h2 HW1
    go_wp2_with fail
    go_at_call 69
    refine HG.mono ?_
    clear HG
    rintro e w3 (⟨k, u, O3, hs, rfl, h1, h2⟩ | ⟨k, hs, rfl, hp⟩)
    · obtain ⟨hk, rfl, _⟩ := get_said hs
      have HS3 := Lib.hid hs
      have HK4 := Lib.hid (HK3.out.trans h2)
      have HT := Lib.hid h1
      have hk : k ≤ 65535 := by omega
      obtain ⟨X, eX⟩ : ∃ X, 65535 - n = X := ⟨_, rfl⟩
      rw [eX] at hx HW2
      clear hs h1 h2 eX
      by_cases hkx : k = X
      · subst hkx
        have HW3 : Hid (∀ r, Says ((Way.room n).bind fun _ => bytesW n) L m ⟨(s.pos + 7) / 8 * 8 + 16 + 16, s.out⟩ r → Says storedW L m s r) := fun r h => HW2.out r (Way.says_bind HS3.out (Way.says_bind (refuse_said (by simp)) h))
        have HR := room_go w3 g L m _ fx O3 n HT.out (by have := HN.out; omega) HM.out HO.out
        clear HW2
        go_wp2_with fail
        go_at_call 87
        refine (refuse_no _ _).mono ?_
        rintro e w4 ⟨rfl, rfl⟩
        go_wp2_with fail
        go_at_call 96
        refine HR.mono ?_
        clear HR
        rintro e w4 (⟨⟨⟩, u, O4, hs, rfl, h1, h2⟩ | ⟨k, hs, rfl, hp⟩)
        · obtain ⟨rfl, hroom⟩ := room_said hs
          have HW4 : Hid (∀ r, Says (bytesW (n - 0)) L m ⟨(s.pos + 7) / 8 * 8 + 16 + 16, s.out⟩ r → Says storedW L m s r) := fun r h => HW3.out r (Way.says_bind hs h)
          have HRM := Lib.hid hroom
          have H1 := Lib.hid h1
          have H2 := Lib.hid (HK4.out.trans h2)
          clear hs HW3 h1 h2 hroom
          go_wp2_with fail
          go_loopw [20] (fun u20 wr => ∃ (i : Nat) (t : St) (O' : Nat → Prop), i ≤ n ∧ u20 = .int .i64 i ∧ Hid (isS wr g L m t fx O') ∧ Hid (WentOn O O' w wr) ∧ Hid (∀ r, Says (bytesW (n - i)) L m t r → Says storedW L m s r) ∧ Hid (t.out.length + (n - i) ≤ m)) (fun u20 _ => n - (intOf u20).toNat)
          case atStart => exact ⟨0, _, O4, Nat.zero_le _, rfl, H1, H2, HW4, HRM⟩
          case round =>
            obtain ⟨i, t, O', hi, rfl, hS, hW, hR, hRT⟩ := hrel
            by_cases hin : i < n
            · have d1 : decide ((i : Int) < (n : Int)) = true := decide_eq_true (by omega)
              have d2 : decide (i < n) = true := decide_eq_true hin
              have hi2 : i + 1 ≤ 1099511627776 := by omega
              obtain ⟨r, v, R, hst⟩ := hS.out
              have HG := Lib.hid (get_str wr.drew g L m t fx O' 8 r v R (hst.drew) (by decide) HL.out)
              obtain ⟨vo, vc, rfl⟩ := row_shape hst.row
              obtain ⟨l, el⟩ : ∃ l, t.out.length = l := ⟨_, rfl⟩
              have EL := Lib.hid el
              have q1 := cell_of_block hst.obj 1
              rw [el] at q1 HG
              have HLM : Hid (l + 1 ≤ 1099511627776) := by have := hRT.out; have := HM.out; show _ ≤ _; omega
              obtain ⟨i0, hi0, hz0, hz1, hz2⟩ := info_parts info8
              have HRB : Hid (∀ r, Says ((Way.get 8).bind fun x => (Way.put fun _ => x).bind fun _ => bytesW (n - (i + 1))) L m t r → Says storedW L m s r) := fun r h => hR.out r (by
                rw [show n - i = (n - (i + 1)) + 1 by omega]
                exact h)
              clear hst el hS
              go_wp2_with fail
              go_region_law (first
                | (refine step_append_own' rfl (.tmp 26) (.tmp 30) 24 rfl 0 5 i0 (.int .u8 0) 1 1 Tryd.underlying24 hi0 hz0 hz1 hz2 rfl (by decide) (.slice vo l vc) l (t.out.map byteVal) (by simp [Act.eval]) (hROW.out.alloc _) ⟨w5.heap.size, 0, none⟩ 1 1 [.int .u8 (x : Int)] (by simp [Act.eval]) rfl (by intro j u hu; cases j <;> simp at hu; subst hu; simp [Addr.add]) (by simp [Value.oneCell']) (by have := HLM.out; unfold maxLen; omega) (by have := HLM.out; omega) (Nat.zero_le _) ?_; intro v' w6 hown hgrow hwhere; obtain ⟨b2, cap2, rfl, hcc⟩ := row_form hown; have HOWN := Lib.hid hown; have HGROW := Lib.hid hgrow; have HWHERE := Lib.hid hwhere; have hx0 := HST5.out.grown ((Below.refl _ _).alloc (Nat.le_refl _) _) hgrow; have r1 := cell_of_block hx0 1; have r2 := unfrozen_of_block hx0 1; clear hown hgrow hwhere hx0 hcc)
                | (go_simp; go_at_call 69; refine HG.out.mono ?_; rintro e w5 (⟨x, u, O5, R5, hs, rfl, h1, h2⟩ | ⟨k, hs, rfl, hp⟩); rotate_left; (exact ⟨rfl, .inr ⟨k, HRB.out _ (Way.says_bind_err hs), rfl, hW.out.on (past_drew hp)⟩⟩); obtain ⟨hx8, rfl, _⟩ := get_said hs; have hx8 : x ≤ 255 := (by omega); have HS5 := Lib.hid hs; have HST5 := Lib.hid h1; have HW5 := Lib.hid h2; have q5 := cell_of_block h1.obj 1; have a1 := fun o => cell_of_block (alloc_old (o' := o) h1.obj) 1; have hROW : Hid (w5.ownsRow 0 5 1 (.slice vo l vc) l (t.out.map byteVal)) := row_len h1.row EL.out; have hx9 : IntKind.u8.wrap (x : Int) = (x : Int) := byte_same hx8; clear hs h1 h2))
              all_goals go_wp2_with fail
              all_goals (obtain ⟨O2, j1, j2⟩ := Strm.push (x := x) HST5.out ((Below.refl _ _).alloc (Nat.le_refl _) _) HGROW.out (by rw [show ({ pos := t.pos + 8, out := t.out } : St).out.length = l from EL.out, List.map_append]; exact HOWN.out) HWHERE.out)
              all_goals (refine ⟨⟨i + 1, ⟨t.pos + 8, t.out ++ [x]⟩, O2, by omega, by go_num, ⟨_, _, _, j1⟩, (hW.out.trans (went_drew HW5.out)).trans j2, fun r h => HRB.out r (Way.says_bind HS5.out (Way.says_bind (Way.says_put _ (by have := hRT.out; simp only; omega)) h)), ?_⟩, by simp [intOf]; omega⟩)
              all_goals (show _ ≤ _)
              all_goals (rw [List.length_append]; have := hRT.out; simp only [List.length_singleton]; omega)
            · obtain rfl : i = n := by omega
              have d1 : decide ((i : Int) < (i : Int)) = false := decide_eq_false (by omega)
              have d2 : decide (i < i) = false := decide_eq_false (by omega)
              have HE := hR.out (.ok () t) (by rw [Nat.sub_self]; exact Way.says_pure ())
              go_wp2_with fail
              go_end0
              exact .inl ⟨(), t, O', HE, rfl, hS.out, hW.out⟩
        · go_wp2_with fail
          exact ⟨rfl, .inr ⟨k, HW3.out _ (Way.says_bind_err hs), rfl, HK4.out.on hp⟩⟩
      · have d1 : ((k : Int) == (X : Int)) = false := by simp; omega
        have d4 : ((k : Int) != (X : Int)) = true := by simp; omega
        have d3 : decide (k = X) = false := decide_eq_false hkx
        have HW3 : Hid (Says storedW L m s (.err 10)) := HW2.out _ (Way.says_bind HS3.out (Way.says_bind_err (refuse_fails hkx)))
        go_wp2_with fail
        go_at_call 87
        refine (refuse_yes 10 _).mono ?_
        rintro e w4 ⟨rfl, rfl⟩
        go_wp2_with fail
        exact ⟨rfl, .inr ⟨10, HW3.out, rfl, HK4.out.past⟩⟩
    · go_wp2_with fail
      exact ⟨rfl, .inr ⟨k, HW2.out _ (Way.says_bind_err hs), rfl, HK3.out.on hp⟩⟩
  · go_wp2_with fail
    exact ⟨rfl, .inr ⟨k, HW1.out _ (Way.says_bind_err hs), rfl, HK2.out.on hp⟩⟩
end Go.Proofs.YtbfpbmnnlckldaaDoor.Fx
namespace Go.Proofs.YtbfpbmnnlckldaaDoor.Fx
open Go Go.RowKit Go.Joins
set_option linter.unusedVariables false
/-- A pair of codes in one block. -/
structure isPair (w : World) (b : Nat) (p : Cds × Cds) (K : Nat → Prop) : Prop where
  fst : ∃ K1, isCd w b 0 p.1 K1 ∧ ∀ k, K1 k → K k
  snd : ∃ K2, isCd w b 17 p.2 K2 ∧ ∀ k, K2 k → K k
theorem isPair_keep {w w' : World} {b : Nat} {p : Cds × Cds} {K : Nat → Prop} (h : isPair w b p K) (hs : w.heap.size ≤ w'.heap.size) (hk : ∀ k, K k → k < w.heap.size → w'.heap[k]? = w.heap[k]?) : isPair w' b p K := by
  obtain ⟨⟨K1, h1, h2⟩, ⟨K2, h3, h4⟩⟩ := h
  exact ⟨⟨K1, isC_keep h1 hs (fun k h => hk k (h2 k h) (isC_lt h1 k h)), h2⟩, ⟨K2, isC_keep h3 hs (fun k h => hk k (h4 k h) (isC_lt h3 k h)), h4⟩⟩
theorem isPair_went {w w' : World} {b : Nat} {p : Cds × Cds} {K O : Nat → Prop} (h : isPair w b p K) (hp : Past O w w') (hK : ∀ k, K k → ¬ O k) : isPair w' b p K :=
  isPair_keep h hp.size (fun k hk hlt => hp.block k hlt (hK k hk))
/-- Every block of K that is one already: own blocks of O' are such of O or newer ones. -/
theorem apart_went {w w' : World} {O O' K : Nat → Prop} (h : WentOn O O' w w') (hK : ∀ k, K k → ¬ O k ∧ k < w.heap.size) : ∀ k, K k → ¬ O' k ∧ k < w'.heap.size := fun k hk =>
  ⟨fun h1 => by
    obtain ⟨h2, h3⟩ := hK k hk
    rcases h.own k h1 with h4 | h4
    · exact h2 h4
    · omega, Nat.lt_of_lt_of_le (hK k hk).2 h.past.size⟩
/-- 'append(own, x)' of one element, and where the new row lies. -/
theorem wpList_append_own_where {P : Program} {w : World} {ops : Array Oper} {rest : List Oper} {o : Oper} {a : Act} {Q : Exit → Act → World → Prop} (hgd : o.guard = none) (s x : Operand) (t : TypeId)
    (ho : o.op = .call { callee := .builtin .append, args := #[s, x], argTypes := #[t, t] })
    (base : Nat) (e : TypeId) (z : Value) (ht : P.underlying t = some (.slice e)) (hinfo : (P.info? e).map (fun i => (i.zero, i.size, i.bytes)) = some (some z, 1, 1)) (hz : z.cells.size = 1)
    (v : Value) (n : Nat) (xs : List Value) (hs : a.eval s = v) (hown : w.ownsRow base e 1 v n xs) (g : Nat) (y : Value) (hx : a.eval x = .slice (some ⟨g, 0, none⟩) 1 1) (hy : w.cell? ⟨g, 0, none⟩ = some y) (hy1 : y.oneCell' = true)
    (hlen : n + 1 ≤ 140737488355328) (hbase : base ≤ w.heap.size)
    (h : ∀ v' w', w'.ownsRow base e 1 v' (n + 1) (xs ++ [y]) → w.grownBy w' v.ownBlock → (∀ k, v'.ownBlock = some k → v.ownBlock = some k ∨ w.heap.size ≤ k) → wpList P ops Q rest (a.put o.dst v') w') : wpList P ops Q (o :: rest) a w := by
  obtain ⟨i0, hi, hz0, hz1, hz2⟩ := info_parts hinfo
  obtain ⟨v', w', hrun, r1, r2, r3⟩ := run_append_where (P := P) w base t o.type e i0 z 1 1 ht hi hz0 hz1 hz2 hz (by decide) v n xs hown ⟨g, 0, none⟩ 1 1 [y] rfl (fun j u hj => by
    match j, hj with
    | 0, hj =>
      obtain rfl := Option.some.inj hj
      simpa [Addr.add] using hy
    | j + 1, hj => simp at hj) (fun u hu => by
      obtain rfl := List.mem_singleton.1 hu
      exact hy1) (by unfold maxLen; omega) (by omega) hbase
  have hw : Region.wanted o (yielded ops a.tmps) = true := by simp [Region.wanted, hgd]
  unfold wpList
  simp only [hw, if_true]
  left
  unfold Oper.wp
  simp [execOp, ho, resolve, invoke, builtin, hs, hx, hrun, Result.andThen]
  exact h v' w' r1 r2 r3
theorem sym_below {c : Cds} {n l code first place : Nat} {L : List Bool} {m : Nat} {s u : St} {a : Nat} (hf : Fit c) (h : Says (symFrom c n l code first place) L m s (.ok a u)) : a < 400 := by
  induction n generalizing l code first place s with
  | zero =>
    obtain ⟨f, h⟩ := h
    cases h
  | succ n ih =>
    obtain ⟨f, h⟩ := h
    obtain ⟨b, t, h1, h2⟩ := Way.bind_ok h
    split at h2
    · cases h2
      rw [List.getD_eq_getElem?_getD]
      cases hx : c.syms[place + (2 * code + b) - 2 * first]? with
      | none => decide
      | some x => exact hf.syms x (List.mem_of_getElem? hx)
    · exact ih ⟨f, h2⟩
theorem symW_below {c : Cds} {L : List Bool} {m : Nat} {s u : St} {a : Nat} (hf : Fit c) (h : Says (symW c) L m s (.ok a u)) : a < 400 := sym_below hf h
/-- A symbol takes a bit at least. -/
theorem sym_moves {c : Cds} {n l code first place : Nat} {L : List Bool} {m : Nat} {s u : St} {a : Nat} (h : Says (symFrom c n l code first place) L m s (.ok a u)) : s.pos < u.pos ∧ u.out = s.out := by
  induction n generalizing l code first place s with
  | zero =>
    obtain ⟨f, h⟩ := h
    cases h
  | succ n ih =>
    obtain ⟨f, h⟩ := h
    obtain ⟨b, t, h1, h2⟩ := Way.bind_ok h
    obtain ⟨_, rfl, _⟩ := get_said ⟨f, h1⟩
    split at h2
    · cases h2
      exact ⟨by simp only; omega, rfl⟩
    · obtain ⟨h3, h4⟩ := ih ⟨f, h2⟩
      exact ⟨by simp only at h3; omega, h4⟩
theorem symW_moves {c : Cds} {L : List Bool} {m : Nat} {s u : St} {a : Nat} (h : Says (symW c) L m s (.ok a u)) : s.pos < u.pos ∧ u.out = s.out := sym_moves h
/-- Where a stream's reader is, read off memory. -/
def posOf (w : World) (g : Nat) : Nat :=
  match w.cell? ⟨g, 0, none⟩ with
  | some (.pointer (some a)) => match w.cell? ⟨a.block, 0, none⟩ with
    | some (.pointer (some b)) => match w.cell? ⟨b.block, 1, none⟩ with
      | some (.int _ p) => p.toNat
      | _ => 0
    | _ => 0
  | _ => 0
theorem posOf_is {w : World} {g : Nat} {L : List Bool} {m : Nat} {s : St} {fx : Value} {O : Nat → Prop} (h : isS w g L m s fx O) : posOf w g = s.pos := by
  obtain ⟨r, v, R, h⟩ := h
  have q0 := cell_of_block h.obj 0
  obtain ⟨h1, h2, sl, zs, hh, _⟩ := h.rd
  have q1 := cell_of_block hh.obj 0
  have q2 := cell_of_block hh.line 1
  obtain rfl := hh.val
  unfold posOf
  simp [q0, q1, q2]
theorem lengthW_out {x : Nat} {L : List Bool} {m : Nat} {s u : St} {a : Nat} (h : Says (lengthW x) L m s (.ok a u)) (h1 : s.pos ≤ L.length) (h2 : L.length % 8 = 0) : s.pos ≤ u.pos := (Way.says_on h h1 h2).1
set_option maxHeartbeats 4000000 in
set_option maxRecDepth 100000 in
theorem symbols_go (w : World) (g : Nat) (L : List Bool) (m : Nat) (s : St) (fx : Value) (O : Nat → Prop) (b : Nat) (p : Cds × Cds) (K : Nat → Prop) (h : isS w g L m s fx O) (hp : isPair w b p K) (hK : ∀ k, K k → ¬ O k ∧ k < w.heap.size) (hf1 : Fit p.1) (hf2 : Fit p.2) (hm : m ≤ 1099511627776) (ho : s.out.length ≤ m) (hL : L.length ≤ 1099511627776) (hL8 : L.length % 8 = 0) :
    Calls Tryd.prog 90 #[.pointer (some ⟨g, 0, none⟩), .pointer (some ⟨b, 0, none⟩)] w (Goes (symbolsW p) L m s (fun _ => .tuple #[]) g fx O w) := by
  have HS0 := Lib.hid h
  have HP0 := Lib.hid hp
  have HK0 := Lib.hid hK
  have HM := Lib.hid hm
  have HO := Lib.hid ho
  have HL := Lib.hid hL
  have HL8 := Lib.hid hL8
  have HR0 : Hid (∀ r, Says (symbolsW p) L m s r → Says (symbolsW p) L m s r) := fun r h => h
  clear h hp hK hm ho hL hL8
  go_enter Tryd.func90, Tryd.ntmps90
  go_wp2_with fail
  go_loopw [4] (fun u4 wr => ∃ (t : St) (O' : Nat → Prop), Hid (isS wr g L m t fx O') ∧ Hid (WentOn O O' w wr) ∧ Hid (∀ r, Says (symbolsW p) L m t r → Says (symbolsW p) L m s r) ∧ Hid (t.out.length ≤ m)) (fun _ wr => L.length - posOf wr g)
  case atStart => exact ⟨s, O, HS0, WentOn.refl _ _, HR0, HO⟩
  case round =>
    obtain ⟨t, O', hS, hW, hR, hT⟩ := hrel
    have HPW := Lib.hid (isPair_went HP0.out hW.out.past (fun k hk => (HK0.out k hk).1))
    have HKW := Lib.hid (apart_went hW.out HK0.out)
    obtain ⟨K1, hc1, hk1⟩ := HPW.out.fst
    have HSY := symbol_go wr g L m t fx O' b 0 p.1 K1 hS.out hc1 (fun k hk => (HKW.out k (hk1 k hk)).1) hf1 HL.out
    have HPOS := Lib.hid (posOf_is hS.out)
    clear hc1 hk1
    go_wp2_with fail
    go_at_call 99
    refine HSY.mono ?_
    clear HSY
    rintro e w1 (⟨x, u, O1, hs, rfl, h1, h2⟩ | ⟨k, hs, rfl, hp⟩)
    · have hx := symW_below hf1 hs
      obtain ⟨hmv, huo⟩ := symW_moves hs
      have HS1 := Lib.hid h1
      have HW1 := Lib.hid (hW.out.trans h2)
      have HSA := Lib.hid hs
      have HMV := Lib.hid hmv
      have HUO := Lib.hid huo
      clear hs h1 h2 hmv huo
      by_cases hx1 : x < 256
      · have d1 : decide ((x : Int) < (256 : Int)) = true := decide_eq_true (by omega)
        have d2 : decide (x < 256) = true := decide_eq_true hx1
        have HRM := room_go w1 g L m u fx O1 1 HS1.out (by decide) HM.out (by have := hT.out; rw [HUO.out]; exact this)
        have HST1 : Hid (∀ r, Says ((Way.room 1).bind fun _ => (Way.put fun _ => x).bind fun _ => Way.pure (Sum.inl ())) L m u r → Says (symStep p) L m t r) := fun r h => Way.says_bind HSA.out (by rw [if_pos hx1]; exact h)
        go_wp2_with fail
        go_at_call 96
        refine HRM.mono ?_
        clear HRM
        rintro e w2 (⟨⟨⟩, u2, O2, hs, rfl, h1, h2⟩ | ⟨k, hs, rfl, hp⟩)
        · obtain ⟨rfl, hroom⟩ := room_said hs
          obtain ⟨r, v, R, hst⟩ := h1
          have HST := Lib.hid hst
          have HW2 := Lib.hid (HW1.out.trans h2)
          have HSB := Lib.hid hs
          have HROOM := Lib.hid hroom
          obtain ⟨vo, vc, rfl⟩ := row_shape hst.row
          obtain ⟨l, el⟩ : ∃ l, u2.out.length = l := ⟨_, rfl⟩
          have EL := Lib.hid el
          have q1 := cell_of_block hst.obj 1
          have hROW : Hid (w2.ownsRow 0 5 1 (.slice vo l vc) l (u2.out.map byteVal)) := by
            have h9 := hst.row
            rw [el] at h9
            exact h9
          rw [el] at q1
          have HLM : Hid (l + 1 ≤ 1099511627776) := by have := HROOM.out; have := HM.out; show _ ≤ _; omega
          have hx9 : IntKind.u8.wrap (x : Int) = (x : Int) := byte_same (by omega)
          have a1 := fun o => cell_of_block (alloc_old (o' := o) hst.obj) 1
          rw [el] at a1
          clear hs h2 hroom hst el
          go_wp2_with (at_builtin; refine wpList_append_own_where rfl _ _ 24 rfl 0 5 (.int .u8 0) Tryd.underlying24 info8 rfl (.slice vo l vc) l (u2.out.map byteVal) rfl (hROW.out.alloc _) w2.heap.size (.int .u8 (x : Int)) rfl (cell_of_block (heap_alloc_new w2 _) 0) rfl (by have := HLM.out; omega) (Nat.zero_le _) ?_)
          intro v' w6 hown hgrow hwhere
          obtain ⟨b2, cap2, rfl, hcc⟩ := row_form hown
          rw [show l = u2.out.length from EL.out.symm] at hgrow hwhere
          have hx0 := HST.out.grown ((Below.refl _ _).alloc (Nat.le_refl _) _) hgrow
          have r1 := cell_of_block hx0 1
          have r2 := unfrozen_of_block hx0 1
          rw [EL.out] at r1
          obtain ⟨O6, j1, j2⟩ := Strm.push (x := x) HST.out ((Below.refl _ _).alloc (Nat.le_refl _) _) hgrow (by rw [EL.out, List.map_append]; exact hown) (fun k hk => (hwhere k (by simpa [Value.ownBlock] using hk)).imp id (fun h => by simpa using h))
          have J1 := Lib.hid j1
          have J2 := Lib.hid (HW2.out.trans j2)
          clear hown hgrow hwhere hx0 hcc j1 j2
          go_wp2_with fail
          go_roundw
          case rel =>
            refine ⟨⟨u2.pos, u2.out ++ [x]⟩, O6, ⟨_, _, _, J1.out⟩, J2.out, fun r h => hR.out r (Way.says_loop_next (HST1.out _ (Way.says_bind HSB.out (Way.says_bind (Way.says_put _ HROOM.out) (Way.says_pure _)))) h), ?_⟩
            show _ ≤ _
            rw [List.length_append]
            exact HROOM.out
          case measure =>
            have e1 := posOf_is ⟨_, _, _, J1.out⟩
            have e2 := isS_pos ⟨_, _, _, J1.out⟩
            simp only at e1 e2
            rw [e1, HPOS.out]
            have := HMV.out
            omega
        · go_wp2_with fail
          exact ⟨rfl, .inr ⟨k, hR.out _ (Way.says_loop_err (HST1.out _ (Way.says_bind_err hs))), rfl, HW1.out.on hp⟩⟩
      · have d1 : decide ((x : Int) < (256 : Int)) = false := decide_eq_false (by omega)
        have d2 : decide (x < 256) = false := decide_eq_false hx1
        by_cases hx2 : x = 256
        · have e1 : ((x : Int) == 256) = true := by simp; omega
          have e2 : decide ((x : Int) = 256) = true := decide_eq_true (by omega)
          have HE : Hid (Says (symStep p) L m t (.ok (.inr ()) u)) := Way.says_bind HSA.out (by rw [if_neg hx1, if_pos hx2]; exact Way.says_pure _)
          go_wp2_with fail
          go_end0
          exact .inl ⟨(), u, O1, hR.out _ (Way.says_loop_stop HE.out), rfl, HS1.out, HW1.out⟩
        · have e1 : ((x : Int) == 256) = false := by simp; omega
          have e2 : decide ((x : Int) = 256) = false := decide_eq_false (by omega)
          have HST1 : Hid (∀ r, Says ((lengthW x).bind fun n => (distanceW p.2).bind fun d => (matchW n d).bind fun _ => Way.pure (Sum.inl ())) L m u r → Says (symStep p) L m t r) := fun r h => Way.says_bind HSA.out (by rw [if_neg hx1, if_neg hx2]; exact h)
          have HLE := length_go w1 g L m u fx O1 x HS1.out (by omega) (by omega) HL.out
          go_wp2_with fail
          go_at_call 100
          refine HLE.mono ?_
          clear HLE
          rintro e w2 (⟨n, u2, O2, hs, rfl, h1, h2⟩ | ⟨k, hs, rfl, hp⟩)
          · have HN : Hid (n ≤ 9000000000) := length_below hs
            have HW2 := Lib.hid (HW1.out.trans h2)
            have HS2 := Lib.hid h1
            have HST2 : Hid (∀ r, Says ((distanceW p.2).bind fun d => (matchW n d).bind fun _ => Way.pure (Sum.inl ())) L m u2 r → Says (symStep p) L m t r) := fun r h => HST1.out r (Way.says_bind hs h)
            have HM2 : Hid (u.pos ≤ u2.pos ∧ (u.out.length ≤ m → u2.out.length ≤ m)) := by
              obtain ⟨a1, _, _, a2⟩ := Way.says_on hs (isS_pos HS1.out) HL8.out
              exact ⟨a1, a2⟩
            have HPW := Lib.hid (isPair_went HP0.out HW2.out.past (fun k hk => (HK0.out k hk).1))
            have HKW := Lib.hid (apart_went HW2.out HK0.out)
            obtain ⟨K2, hc2, hk2⟩ := HPW.out.snd
            have HDI := distance_go w2 g L m u2 fx O2 b 17 p.2 K2 h1 hc2 (fun k hk => (HKW.out k (hk2 k hk)).1) hf2 HL.out
            clear hs h1 h2 hc2 hk2 HST1
            go_wp2_with fail
            go_at_call 102
            refine HDI.mono ?_
            clear HDI
            rintro e w3 (⟨d, u3, O3, hs, rfl, h1, h2⟩ | ⟨k, hs, rfl, hp⟩)
            · obtain ⟨hd1, hd2⟩ := distance_said hs
              have HW3 := Lib.hid (HW2.out.trans h2)
              have HS3 := Lib.hid h1
              have HST3 : Hid (∀ r, Says ((matchW n d).bind fun _ => Way.pure (Sum.inl ())) L m u3 r → Says (symStep p) L m t r) := fun r h => HST2.out r (Way.says_bind hs h)
              have HM3 : Hid (u2.pos ≤ u3.pos ∧ (u2.out.length ≤ m → u3.out.length ≤ m)) := by
                obtain ⟨a1, _, _, a2⟩ := Way.says_on hs (isS_pos HS2.out) HL8.out
                exact ⟨a1, a2⟩
              have HUM : Hid (u3.out.length ≤ m) := HM3.out.2 (HM2.out.2 (by rw [HUO.out]; exact hT.out))
              have HMA := match_go w3 g L m u3 fx O3 n d HS3.out (by have := HN.out; omega) hd1 (by omega) HM.out HUM.out
              clear hs h1 h2 HST2 hd1 hd2
              go_wp2_with fail
              go_at_call 101
              refine HMA.mono ?_
              clear HMA
              rintro e w4 (⟨⟨⟩, u4, O4, hs, rfl, h1, h2⟩ | ⟨k, hs, rfl, hp⟩)
              · have HW4 := Lib.hid (HW3.out.trans h2)
                have HS4 := Lib.hid h1
                have HSM := Lib.hid hs
                clear hs h1 h2
                go_wp2_with fail
                go_roundw
                case rel => exact ⟨u4, O4, HS4, HW4, fun r h => hR.out r (Way.says_loop_next (HST3.out _ (Way.says_bind HSM.out (Way.says_pure _))) h), (Way.says_on HSM.out (isS_pos HS3.out) HL8.out).2.2.2 HUM.out⟩
                case measure =>
                  have e1 := posOf_is HS4.out
                  have e2 := isS_pos HS4.out
                  have e3 := (Way.says_on HSM.out (isS_pos HS3.out) HL8.out).1
                  have e4 := HM3.out.1
                  have e5 := HM2.out.1
                  have e6 := HMV.out
                  rw [e1, HPOS.out]
                  omega
              · go_wp2_with fail
                exact ⟨rfl, .inr ⟨k, hR.out _ (Way.says_loop_err (HST3.out _ (Way.says_bind_err hs))), rfl, HW3.out.on hp⟩⟩
            · go_wp2_with fail
              exact ⟨rfl, .inr ⟨k, hR.out _ (Way.says_loop_err (HST2.out _ (Way.says_bind_err hs))), rfl, HW2.out.on hp⟩⟩
          · go_wp2_with fail
            exact ⟨rfl, .inr ⟨k, hR.out _ (Way.says_loop_err (HST1.out _ (Way.says_bind_err hs))), rfl, HW1.out.on hp⟩⟩
    · go_wp2_with fail
      exact ⟨rfl, .inr ⟨k, hR.out _ (Way.says_loop_err (Way.says_bind_err hs)), rfl, hW.out.on hp⟩⟩
end Go.Proofs.YtbfpbmnnlckldaaDoor.Fx
