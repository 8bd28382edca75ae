/-
  A block's parts spelt in the fixed codes, as landed: whatever takes the bits. The conditions stand in it.
-/
import Derived.Test.YtbhmjppnhlmefaaDoorWinD
namespace Go.Proofs.YtbhmjppnhlmefaaDoor.Fx
open Go Go.RowKit Go.Joins
set_option linter.unusedVariables false
section
variable {α : Type} {c : α → Value}
theorem addr_add_zero (a : Addr) : a.add 0 = a := by
  obtain ⟨b, o, sp⟩ := a
  cases sp <;> simp [Addr.add]
/-- A slice expression l[i:] of a list. -/
theorem listed_drop {P : Program} {t : TypeId} (ht : P.underlying t = some (.slice (P.elem t))) (he : ∀ w, (sizeOf (P.elem t)).run P w = .ok 1 w) {W : World} {v : Value} {zs : List α} (h : listed c W v zs) (i : Nat) (hi : i ≤ zs.length) :
    ∃ u, (∀ w, (Instr.slice t v (some (.int .i64 (i : Int))) none none).run P w = .ok u w) ∧ listed c W u (zs.drop i) ∧ ∀ b, inBlock u b → inBlock v b := by
  rcases h with ⟨⟨o, cap, rfl, ho⟩, rfl⟩ | ⟨b, off, cap, rfl, hlt, hle, hc⟩
  · obtain rfl : i = 0 := by simpa using hi
    refine ⟨.slice o 0 cap, fun w => ?_, .inl ⟨⟨o, cap, rfl, ho⟩, by simp⟩, fun b hb => hb⟩
    rw [run_slice_l w t o 0 cap ht .i64 ((0 : Nat) : Int) (by omega) (by omega), he]
    cases o <;> simp [sliced, Result.andThen, addr_add_zero]
  · have hlen : (zs.drop i).length = zs.length - i := List.length_drop ..
    by_cases hci : cap = i
    · subst hci
      have hn : cap = zs.length := by omega
      refine ⟨.slice (some ⟨b, off, none⟩) 0 0, fun w => ?_, .inl ⟨⟨_, 0, rfl, fun h => by cases h⟩, List.eq_nil_of_length_eq_zero (by omega)⟩, fun q hq => ?_⟩
      · rw [run_slice_l w t (some ⟨b, off, none⟩) zs.length cap ht .i64 cap (by omega) (by omega), he]
        simp [sliced, Result.andThen]
        omega
      · obtain ⟨_, _, _, h, h0⟩ := hq
        simp only [Value.slice.injEq] at h
        omega
    · refine ⟨.slice (some ⟨b, off + i, none⟩) (zs.length - i) (cap - i), fun w => ?_, .inr ⟨b, off + i, cap - i, by rw [hlen], hlt, by omega, fun k z hk => ?_⟩, fun q hq => ?_⟩
      · rw [run_slice_l w t (some ⟨b, off, none⟩) zs.length cap ht .i64 i (by omega) (by omega), he]
        have hadd : (⟨b, off, none⟩ : Addr).add i = ⟨b, off + i, none⟩ := by unfold Addr.add; split <;> simp_all
        simp [sliced, Result.andThen, hadd, hci]
      · rw [List.getElem?_drop] at hk
        rw [Nat.add_assoc]
        exact hc _ z hk
      · obtain ⟨o2, n2, c2, h, h0⟩ := hq
        simp only [Value.slice.injEq, Option.some.injEq, Addr.mk.injEq] at h
        obtain ⟨⟨rfl, _, _⟩, h2, _⟩ := h
        exact ⟨off, zs.length, cap, rfl, by omega⟩
/-- A slice expression l[:j] of a list. -/
theorem listed_take {P : Program} {t : TypeId} (ht : P.underlying t = some (.slice (P.elem t))) (he : ∀ w, (sizeOf (P.elem t)).run P w = .ok 1 w) {W : World} {v : Value} {zs : List α} (h : listed c W v zs) (j : Nat) (hj : j ≤ zs.length) :
    ∃ u, (∀ w, (Instr.slice t v none (some (.int .i64 (j : Int))) none).run P w = .ok u w) ∧ listed c W u (zs.take j) ∧ ∀ b, inBlock u b → inBlock v b := by
  rcases h with ⟨⟨o, cap, rfl, ho⟩, rfl⟩ | ⟨b, off, cap, rfl, hlt, hle, hc⟩
  · obtain rfl : j = 0 := by simpa using hj
    refine ⟨.slice o 0 cap, fun w => ?_, .inl ⟨⟨o, cap, rfl, ho⟩, by simp⟩, fun b hb => hb⟩
    rw [run_slice_h w t o 0 cap ht .i64 ((0 : Nat) : Int) (by omega) (by omega), he]
    cases o <;> simp [sliced, Result.andThen, addr_add_zero]
  · have hlen : (zs.take j).length = j := by rw [List.length_take]; omega
    refine ⟨.slice (some ⟨b, off, none⟩) j cap, fun w => ?_, .inr ⟨b, off, cap, by rw [hlen], hlt, by omega, fun k z hk => ?_⟩, fun q hq => ?_⟩
    · rw [run_slice_h w t (some ⟨b, off, none⟩) zs.length cap ht .i64 j (by omega) (by omega), he]
      simp [sliced, Result.andThen, addr_add_zero]
    · rw [List.getElem?_take] at hk
      split at hk
      · exact hc _ z hk
      · cases hk
    · obtain ⟨o2, n2, c2, h, h0⟩ := hq
      simp only [Value.slice.injEq, Option.some.injEq, Addr.mk.injEq] at h
      obtain ⟨⟨rfl, _, _⟩, h2, _⟩ := h
      exact ⟨off, zs.length, cap, rfl, by omega⟩
end
set_option maxRecDepth 100000 in
theorem bytes_type : Tryd.prog.underlying 22 = some (.slice (Tryd.prog.elem 22)) := Tryd.underlying22
set_option maxRecDepth 100000 in
theorem bytes_one (w : World) : (sizeOf (Tryd.prog.elem 22)).run Tryd.prog w = .ok 1 w := by rfl
/-- A part that may be. -/
def good (p : Nat × Nat) : Prop := (p.1 = 1 ∧ p.2 = 0) ∨ (3 ≤ p.1 ∧ p.1 ≤ 258 ∧ 1 ≤ p.2 ∧ p.2 ≤ 32768)
/-- Parts that stand for no more than n bytes. -/
def fits : Nat → List (Nat × Nat) → Prop
  | _, [] => True
  | n, p :: ps => p.1 ≤ n ∧ good p ∧ fits (n - p.1) ps
theorem fits_toks (zs : List Nat) (up f a : Nat) (ht : up ≤ zs.length) : fits (up - a) ((toks zs up f a).map partOf) := by
  induction f generalizing a with
  | zero => trivial
  | succ f ih =>
    unfold toks
    by_cases ha : a < up
    · rw [if_pos ha]
      by_cases h3 : 3 ≤ (matchOf zs a up).1
      · rw [if_pos h3]
        obtain ⟨h1, h4, h5, h6, _⟩ := matchOf_spec zs a up (by omega)
        have hb : ¬ a - (matchOf zs a up).2 = 0 := by omega
        rw [List.map_cons]
        simp only [partOf, if_neg hb]
        refine ⟨by simp only; omega, .inr ⟨h3, h1, by simp only; omega, by simp only; omega⟩, ?_⟩
        simp only
        rw [Nat.sub_sub]
        exact ih _
      · rw [if_neg h3, List.map_cons]
        simp only [partOf, if_pos]
        refine ⟨by simp only; omega, .inl ⟨rfl, rfl⟩, ?_⟩
        simp only
        rw [Nat.sub_sub]
        exact ih _
    · rw [if_neg ha]
      trivial
theorem two_new1 (W : World) (ty : TypeId) (x y : Value) : ∃ w1, w1 = (W.alloc (.cells #[x] ty)).alloc (.cells #[y] ty) ∧ w1.heap.size = W.heap.size + 2 ∧ w1.heap[W.heap.size]? = some (.cells #[x] ty (0, 0)) ∧ w1.heap[W.heap.size + 1]? = some (.cells #[y] ty (0, 0)) ∧ Below W.heap.size W w1 := by
  have hs0 : (W.alloc (.cells #[x] ty)).heap.size = W.heap.size + 1 := by
    show (W.heap.push _).size = _
    simp
  refine ⟨_, rfl, ?_, alloc_old (heap_alloc_new W _), ?_, ((Below.refl _ _).alloc (Nat.le_refl _) _).alloc (by rw [hs0]; omega) _⟩
  · show ((W.alloc _).heap.push _).size = _
    rw [Array.size_push, hs0]
  · rw [← hs0]
    exact heap_alloc_new _ _
/-- What holds after some of a block's parts: T is what is to come to in all. -/
structure Some (I : World → List Bool → (Nat → Prop) → Prop) (O : Nat → Prop) (B : Nat) (W2 : World) (T : List Bool) (ps : List (Nat × Nat)) (k : Nat) (v : Value) (wr : World) (zs : List Nat) (l : List Bool) (O' : Nat → Prop) : Prop where
  row : bytesIn wr v zs
  apart : ∀ b, inBlock v b → b < B ∧ ¬ O b
  fit : fits zs.length (ps.drop k)
  took : I wr l O'
  whole : l ++ spelt zs (ps.drop k) = T
  own : ∀ b, O' b → O b ∨ W2.heap.size ≤ b
  past : Past O W2 wr
theorem Some.at_ {I : World → List Bool → (Nat → Prop) → Prop} {O : Nat → Prop} {B : Nat} {W2 : World} {T : List Bool} {ps : List (Nat × Nat)} {k : Nat} {v : Value} {wr : World} {zs : List Nat} {l : List Bool} {O' : Nat → Prop} (h : Some I O B W2 T ps k v wr zs l O') (p : Nat × Nat) (hp : ps[k]? = some p) :
    p.1 ≤ zs.length ∧ good p ∧ fits (zs.drop p.1).length (ps.drop (k + 1)) ∧ (l ++ (if p.2 = 0 then fixedSym (zs.getD 0 0) else lenBits p.1 ++ backBits p.2)) ++ spelt (zs.drop p.1) (ps.drop (k + 1)) = T := by
  have hk := (List.getElem?_eq_some_iff.1 hp).1
  have e : ps.drop k = p :: ps.drop (k + 1) := by
    rw [List.drop_eq_getElem_cons hk, (List.getElem?_eq_some_iff.1 hp).2]
  have hf := h.fit
  have hw := h.whole
  rw [e] at hf hw
  obtain ⟨h1, h2, h3⟩ := hf
  rw [spelt] at hw
  exact ⟨h1, h2, by rw [List.length_drop]; exact h3, by rw [List.append_assoc]; exact hw⟩
/-- The last of it: the end's code alone is left. -/
theorem Some.last {I : World → List Bool → (Nat → Prop) → Prop} {O : Nat → Prop} {B : Nat} {W2 : World} {T : List Bool} {ps : List (Nat × Nat)} {k : Nat} {v : Value} {wr : World} {zs : List Nat} {l : List Bool} {O' : Nat → Prop} (h : Some I O B W2 T ps k v wr zs l O') (hk : ps.length ≤ k) : l ++ fixedSym 256 = T := by
  have hw := h.whole
  rw [List.drop_of_length_le hk] at hw
  exact hw
theorem Some.short {I : World → List Bool → (Nat → Prop) → Prop} {O : Nat → Prop} {B : Nat} {W2 : World} {T : List Bool} {ps : List (Nat × Nat)} {k : Nat} {v : Value} {wr : World} {zs : List Nat} {l : List Bool} {O' : Nat → Prop} (h : Some I O B W2 T ps k v wr zs l O') : l.length ≤ T.length := by
  rw [← h.whole, List.length_append]
  omega
set_option maxHeartbeats 4000000 in
set_option maxRecDepth 100000 in
theorem spell_code {F : Nat} {cp : Value} {I : World → List Bool → (Nat → Prop) → Prop} (hI : Sink F cp I) (bv pv : Value) (zs : List Nat) (ps : List (Nat × Nat)) (W : World) (l : List Bool) (O : Nat → Prop) (h : I W l O) (hb : bytesIn W bv zs) (h8 : ∀ x ∈ zs, x < 256) (hp : partsIn W pv ps) (hbO : ∀ b, inBlock bv b → ¬ O b) (hpO : ∀ b, inBlock pv b → ¬ O b) (hf : fits zs.length ps) (hz : zs.length ≤ 1099511627776) (hps : ps.length ≤ 1099511627776) (hl : (l ++ spelt zs ps).length ≤ 1099511627776 - 512) :
    Calls Tryd.prog 32 #[bv, pv, .func (Fn.func F) #[] #[cp]] W (Took I W (l ++ spelt zs ps) O) := by
  obtain ⟨T, eT⟩ : ∃ T, l ++ spelt zs ps = T := ⟨_, rfl⟩
  obtain ⟨po, pc, epv⟩ : ∃ o c, pv = .slice o ps.length c := by
    rcases hp with ⟨rfl, rfl⟩ | ⟨g, c, rfl, _⟩
    · exact ⟨none, 0, rfl⟩
    · exact ⟨_, c, rfl⟩
  rw [eT] at hl ⊢
  obtain ⟨w1, e1, hs1, hB0, hB1, hbl⟩ := two_new1 W 3 (.int .i64 4) (.int .i64 2)
  have hOlt := hI.lt W l O h
  have HI0 : Hid (Some I O W.heap.size w1 T ps 0 bv w1 zs l O) := ⟨listed_on hb hbl, fun b hb' => ⟨by
    obtain ⟨off, n, cap, e, hn⟩ := hb'
    rcases hb with ⟨⟨o, c', h, _⟩, _⟩ | ⟨b', off', cap', h, hlt, _⟩
    · rw [h] at e
      simp only [Value.slice.injEq] at e
      omega
    · rw [h] at e
      simp only [Value.slice.injEq, Option.some.injEq, Addr.mk.injEq] at e
      obtain ⟨⟨rfl, _⟩, _⟩ := e
      exact hlt, hbO b hb'⟩, hf, hI.keep _ _ _ _ h hbl.size (fun k hk => hbl.block k hk), eT, fun b hb => .inl hb, Past.refl _ _⟩
  have H8 := Lib.hid h8
  have HP := Lib.hid hp
  have HPO := Lib.hid hpO
  have HOLT := Lib.hid hOlt
  have HBL := Lib.hid hbl
  have HS1 := Lib.hid hs1
  have HB0 := Lib.hid hB0
  have HB1 := Lib.hid hB1
  have hent := hI.enter
  subst epv
  obtain ⟨N, eN⟩ : ∃ N, ps.length = N := ⟨_, rfl⟩
  have EN := Lib.hid eN
  rw [eN] at HP HPO hps ⊢
  clear h hb h8 hp hbO hpO hf hOlt hs1 hB0 hB1 hbl eT eN
  go_enter Tryd.func32, Tryd.ntmps32
  go_wp2_with (first | (go_at_call 43; refine (grouped_any _ _).mono ?_; rintro e w' ⟨rfl, rfl⟩))
  unfold groupOf
  rw [← e1]
  clear e1
  go_loopw [0, 17] (fun s0 s17 wr => ∃ (k : Nat) (zs' : List Nat) (l' : List Bool) (O' : Nat → Prop), k ≤ N ∧ s17 = .int .i64 (k : Int) ∧ Hid (∀ x ∈ zs', x < 256) ∧ zs'.length ≤ 1099511627776 ∧ Hid (Some I O W.heap.size w1 T ps k s0 wr zs' l' O')) (fun _ s17 _ => N - (intOf s17).toNat)
  case atStart => exact ⟨0, zs, l, O, Nat.zero_le _, rfl, H8, hz, HI0⟩
  case round =>
    obtain ⟨k, zs', l', O', hk, rfl, H8', hz', HI'⟩ := hrel
    have hsh : l'.length ≤ 1099511627776 - 512 := Nat.le_trans HI'.out.short hl
    have hnO : Hid (∀ b, b < w1.heap.size → ¬ O b → ¬ O' b) := fun b hb hn ho => (HI'.out.own b ho).elim hn (fun h => by omega)
    by_cases hlt : k < N
    · have d1 : decide ((k : Int) < (N : Int)) = true := decide_eq_true (by omega)
      have d1n : decide (k < N) = true := decide_eq_true hlt
      obtain ⟨p, ep⟩ : ∃ p, ps[k]? = some p := ⟨ps[k]'(by rw [EN.out]; exact hlt), List.getElem?_eq_getElem _⟩
      obtain ⟨hfit, hgood, hfits, hwhole⟩ := HI'.out.at_ p ep
      obtain ⟨pg, epo, hpg, hpc⟩ : ∃ pg, po = some ⟨pg, 0, none⟩ ∧ (pg < W.heap.size ∧ ¬ O pg) ∧ (W.cell? ⟨pg, k * 2, none⟩ = some (.int .i64 (p.1 : Int)) ∧ W.cell? ⟨pg, k * 2 + 1, none⟩ = some (.int .i64 (p.2 : Int))) := by
        rcases HP.out with ⟨_, h⟩ | ⟨g, c, h, hg, hc⟩
        · rw [h] at ep; simp at ep
        · rw [EN.out] at h
          simp only [Value.slice.injEq] at h
          obtain ⟨rfl, _, rfl⟩ := h
          exact ⟨g, rfl, ⟨hg, HPO.out g ⟨0, N, pc, rfl, by omega⟩⟩, hc k p ep⟩
      subst epo
      have hq := (HI'.out.past.block pg (by have := HS1.out; omega) hpg.2).trans (HBL.out.block pg hpg.1)
      have c0 : wr.cell? ⟨pg, k * 2, none⟩ = some (.int .i64 (p.1 : Int)) := (World.cell?_of_block (w := W) (a := ⟨pg, k * 2, none⟩) hq).trans hpc.1
      have c1 : wr.cell? ⟨pg, k * 2 + 1, none⟩ = some (.int .i64 (p.2 : Int)) := (World.cell?_of_block (w := W) (a := ⟨pg, k * 2 + 1, none⟩) hq).trans hpc.2
      obtain ⟨n, d⟩ := p
      simp only at c0 c1 hfit hfits hwhole
      obtain ⟨u, hsl, hu, hub⟩ := listed_drop bytes_type bytes_one HI'.out.row n hfit
      have HU := Lib.hid hu
      have HUB := Lib.hid hub
      have HFITS := Lib.hid hfits
      have HWHOLE := Lib.hid hwhole
      have HROW := Lib.hid HI'.out.row
      have hx : Hid (∀ x ∈ zs'.drop n, x < 256) := fun x hx => H8'.out x (List.mem_of_mem_drop hx)
      have hzd : (zs'.drop n).length ≤ 1099511627776 := by rw [List.length_drop]; omega
      obtain ⟨wa, ewa⟩ : ∃ wa, wa = wr.alloc (.cells #[.int .i64 (n : Int), .int .i64 (d : Int)] 85) := ⟨_, rfl⟩
      have hbox : wa.heap[wr.heap.size]? = some (.cells #[.int .i64 (n : Int), .int .i64 (d : Int)] 85 (0, 0)) := by rw [ewa]; exact heap_alloc_new wr _
      have hba : Below wr.heap.size wr wa := by rw [ewa]; exact (Below.refl _ _).alloc (Nat.le_refl _) _
      have hsa : wa.heap.size = wr.heap.size + 1 := by rw [ewa]; show (wr.heap.push _).size = _; simp
      have HIA := hI.keep wr wa l' O' HI'.out.took hba.size (fun k hk => hba.block k hk)
      have hboxO : ¬ O' wr.heap.size := fun h => by have := hI.lt _ _ _ HI'.out.took _ h; omega
      have q0 := cell_of_block hbox 0
      have q1 := cell_of_block hbox 1
      -- what holds once this part's bits are taken
      have HEND : Hid (∀ w3 l3 O3, I w3 l3 O3 → (∀ b, O3 b → O' b ∨ wa.heap.size ≤ b) → Past O' wa w3 → l3 = l' ++ (if d = 0 then fixedSym (zs'.getD 0 0) else lenBits n ++ backBits d) → Some I O W.heap.size w1 T ps (k + 1) u w3 (zs'.drop n) l3 O3) := fun w3 l3 O3 i1 i2 i3 e3 => by
        have hpw : Past O w1 w3 := HI'.out.past.trans (Past.trans (Past.of_below hba : Past O' wr wa) i3 (fun b hb => .inl hb)) HI'.out.own
        refine ⟨listed_past (listed_on HU.out hba) i3 (fun b hb ho => ?_), fun b hb => HI'.out.apart b (HUB.out b hb), HFITS.out, i1, by rw [e3]; exact HWHOLE.out, fun b hb => ?_, hpw⟩
        · obtain ⟨a1, a2⟩ := HI'.out.apart b (HUB.out b hb)
          exact hnO.out b (by have := HS1.out; omega) a2 ho
        · rcases i2 b hb with h | h
          · exact HI'.out.own b h
          · exact .inr (by have := HI'.out.past.size; omega)
      have HBOX := Lib.hid hbox
      have HBOXO := Lib.hid hboxO
      clear hu hub hfits hwhole ep hpc hq
      go_upto_region 4 with fail
      rw [← ewa]
      clear ewa c0 c1
      by_cases hd : d = 0
      · have hn1 : n = 1 := by rcases hgood with h | h <;> simp at h <;> omega
        obtain ⟨x, ex⟩ : ∃ x, zs'[0]? = some x := ⟨zs'[0]'(by omega), List.getElem?_eq_getElem _⟩
        have hx8 := H8'.out x (List.mem_of_getElem? ex)
        have hgd : zs'.getD 0 0 = x := by rw [List.getD_eq_getElem?_getD, ex]; rfl
        obtain ⟨b, off, cap, rfl, hblt, hcell⟩ := listed_cell HROW.out 0 x ex
        unfold byteVal at hcell
        have hc0 : wa.cell? ⟨b, off, none⟩ = some (.int .u8 (x : Int)) := (hba.cell (p := ⟨b, off, none⟩) hblt).trans hcell
        rw [if_pos hd, hgd] at HEND
        have KF := fun w => fixed_any x (by omega) w
        have KP := put_sym hI wa l' O' x HIA (by omega)
        have hzp : 0 < zs'.length := by omega
        have HM := Lib.hid hzd
        obtain ⟨Z, eZ⟩ : ∃ Z, zs'.length = Z := ⟨_, rfl⟩
        rw [eZ] at hsl hzp ⊢
        generalize numOf (fixedSym x) = A at *
        generalize (fixedSym x).length = M at *
        have z1 : ((d : Int) == 0) = true := by simp; omega
        have z2 : decide ((d : Int) = 0) = true := decide_eq_true (by omega)
        have HZ := Lib.hid eZ
        clear ex hcell hgood HIA hd hn1 hzd eZ
        go_wp2_with fail
        go_at_call 44
        refine (KF _).mono ?_
        rintro e w' ⟨rfl, rfl⟩
        go_wp2_with fail
        refine KP.mono ?_
        rintro e w3 ⟨rfl, O3, i1, i2, i3⟩
        have hb3 := (i3.block wr.heap.size (by omega) HBOXO.out).trans HBOX.out
        have HE := Lib.hid (HEND.out w3 _ O3 i1 i2 i3 rfl)
        clear q0 q1
        have q0 := cell_of_block hb3 0
        clear hb3 i1 i2 i3
        go_wp2_with fail
        go_roundw
        case rel => exact ⟨k + 1, zs'.drop n, _, O3, by omega, by go_num, hx, HM.out, HE⟩
        case measure => simp [intOf]; omega
      · obtain ⟨h3, h258, hd1, hd2⟩ : 3 ≤ n ∧ n ≤ 258 ∧ 1 ≤ d ∧ d ≤ 32768 := by rcases hgood with h | h <;> simp at h <;> omega
        have z1 : ((d : Int) == 0) = false := by simp; omega
        have z2 : decide ((d : Int) = 0) = false := decide_eq_false (by omega)
        rw [if_neg hd] at HEND
        have hsz := HS1.out
        have gO0 : ¬ O W.heap.size := fun h => by have := HOLT.out _ h; omega
        have gO1 : ¬ O (W.heap.size + 1) := fun h => by have := HOLT.out _ h; omega
        have hg0 := (hba.block W.heap.size (by have := HI'.out.past.size; omega)).trans ((HI'.out.past.block W.heap.size (by omega) gO0).trans HB0.out)
        have hg1 := (hba.block (W.heap.size + 1) (by have := HI'.out.past.size; omega)).trans ((HI'.out.past.block (W.heap.size + 1) (by omega) gO1).trans HB1.out)
        have hpz := HI'.out.past.size
        have KS := spellLength_code hI n W.heap.size h3 h258 wa l' O' HIA (by omega) (cell_of_block hg0 0) (hnO.out _ (by omega) gO0)
        unfold groupOf at KS
        have hlen : (lenBits n).length ≤ 29 := by
          obtain h | h : n ≤ 257 ∨ n = 258 := by omega
          · obtain ⟨e, he, _, _, _, hext, _⟩ := len_code n h3 h
            unfold lenBits
            rw [List.length_append, bitsOf_length, hext]
            have := fixedSym_len (257 + find lens n)
            omega
          · subst h
            exact (by decide : (lenBits 258).length ≤ 29)
        obtain ⟨e, he, hex, hcode, hrest, hext, h30⟩ := dist_code d hd1 hd2
        have hr2 : d - dists.getD (find dists d) 0 < 2 ^ e := by rw [← hrest]; exact Nat.mod_lt _ (Nat.two_pow_pos _)
        have hbk : backBits d = turned (find dists d) 5 ++ bitsOf (d - dists.getD (find dists d) 0) e := by unfold backBits; rw [hext]
        rw [hbk] at HEND
        have KG := fun w hc => group_any 2 (d - 1) e (W.heap.size + 1) (by omega) (by omega) he hex w hc
        rw [hcode, hrest] at KG
        obtain ⟨cd, ecd⟩ : ∃ c, find dists d = c := ⟨_, rfl⟩
        obtain ⟨r, er⟩ : ∃ c, d - dists.getD (find dists d) 0 = c := ⟨_, rfl⟩
        rw [er] at KG hr2 HEND
        rw [ecd] at KG HEND h30
        have KH := fun w => high_any cd 5 (.inl rfl) (by omega) w
        have hsub : (d : Int) - 1 = ((d - 1 : Nat) : Int) := by omega
        obtain ⟨m, em⟩ : ∃ m, d - 1 = m := ⟨_, rfl⟩
        rw [em] at hsub KG
        have KP5 : Hid (∀ w lx Ox, I w lx Ox → lx.length ≤ 1099511627776 - 64 → Calls Tryd.prog F #[.int .u32 (highOf cd 5 : Nat), .int .i64 5, cp] w (Took I w (lx ++ turned cd 5) Ox)) := fun w lx Ox h hlx => by
          have := hI.put w lx Ox (highOf cd 5) 5 h hlx (by have := numOf_below (turned cd 5); rw [turned_length] at this; exact this) (by omega)
          have e5 : bitsOf (highOf cd 5) 5 = turned cd 5 := by
            have := bitsOf_numOf (turned cd 5)
            rw [turned_length] at this
            exact this
          rw [e5] at this
          exact this
        have KPE : Hid (∀ w lx Ox, I w lx Ox → lx.length ≤ 1099511627776 - 64 → Calls Tryd.prog F #[.int .u32 (r : Int), .int .i64 (e : Int), cp] w (Took I w (lx ++ bitsOf r e) Ox)) := fun w lx Ox h hlx => hI.put w lx Ox r e h hlx hr2 (by omega)
        have KG := Lib.hid KG
        have HKEEP := Lib.hid hI.keep
        have HG1 := Lib.hid hg1
        have HLEN := Lib.hid hlen
        obtain ⟨Z, eZ⟩ : ∃ Z, zs'.length = Z := ⟨_, rfl⟩
        have HM := Lib.hid hzd
        obtain ⟨vo, vc, rfl⟩ := listed_length HROW.out
        rw [eZ] at hsl ⊢
        have HZ := Lib.hid eZ
        obtain ⟨H5, eH5⟩ : ∃ x, highOf cd 5 = x := ⟨_, rfl⟩
        rw [eH5] at KH KP5
        have hgO1 := hnO.out (W.heap.size + 1) (by omega) gO1
        clear hgood HIA hd hzd hg0 hg1 gO0 gO1 hcode hrest hext hbk hex ecd er em eZ hlen hr2 eH5
        go_wp2_with fail
        go_at_call 45
        refine KS.mono ?_
        rintro e1 w2 ⟨rfl, O2, i1, i2, i3⟩
        clear KS
        have hsz2 := i3.size
        have hc2 : w2.cell? ⟨W.heap.size + 1, 0, none⟩ = some (.int .i64 2) := cell_of_block ((i3.block (W.heap.size + 1) (by omega) hgO1).trans HG1.out) 0
        have hb2 := (i3.block wr.heap.size (by omega) HBOXO.out).trans HBOX.out
        have hbO2 : ¬ O2 wr.heap.size := fun h => (i2 _ h).elim HBOXO.out (fun h => by omega)
        have HB2 := Lib.hid hb2
        have HBO2 := Lib.hid hbO2
        have I1 := Lib.hid i1
        have I2 := Lib.hid i2
        have I3 := Lib.hid i3
        clear q0 q1
        have q0 := cell_of_block hb2 0
        have q1 := cell_of_block hb2 1
        clear hb2 hbO2 i1 i2 i3
        go_wp2_with fail
        refine (KG.out _ hc2).mono ?_
        rintro e1 w' ⟨rfl, kk, rfl⟩
        go_wp2_with fail
        go_at_call 46
        refine (KH _).mono ?_
        rintro e1 w' ⟨rfl, rfl⟩
        go_wp2_with fail
        refine (KP5.out _ _ _ (HKEEP.out _ (w2.drewN kk) _ _ I1.out (Nat.le_refl _) (fun _ _ => rfl)) (by rw [List.length_append]; have := HLEN.out; omega)).mono ?_
        rintro e1 w4 ⟨rfl, O4, j1, j2, j3⟩
        have J1 := Lib.hid j1
        have J2 := Lib.hid j2
        have J3 : Hid (Past O2 w2 w4) := ⟨j3.os, j3.tape, j3.output, j3.size, j3.block⟩
        clear j1 j2 j3
        go_wp2_with fail
        refine (KPE.out _ _ _ J1.out (by rw [List.length_append, List.length_append, turned_length]; have := HLEN.out; omega)).mono ?_
        rintro e1 w5 ⟨rfl, O5, k1, k2, k3⟩
        have hp5 : Past O2 w2 w5 := J3.out.trans k3 J2.out
        have ho5 : ∀ b, O5 b → O2 b ∨ w2.heap.size ≤ b := fun b hb => (k2 b hb).elim (fun h => J2.out b h) (fun h => .inr (Nat.le_trans J3.out.size h))
        have hb5 := (hp5.block wr.heap.size (by omega) HBO2.out).trans HB2.out
        have HE := Lib.hid (HEND.out w5 _ O5 k1 (fun b hb => (ho5 b hb).elim (fun h => I2.out b h) (fun h => .inr (Nat.le_trans hsz2 h))) (I3.out.trans hp5 I2.out) (by simp only [List.append_assoc]))
        clear q0 q1
        have q0 := cell_of_block hb5 0
        clear hb5 k1 k2 k3 hp5 ho5
        go_wp2_with fail
        go_roundw
        case rel => exact ⟨k + 1, zs'.drop n, _, O5, by omega, by go_num, hx, HM.out, HE⟩
        case measure => simp [intOf]; omega
    · have d1 : decide ((k : Int) < (N : Int)) = false := decide_eq_false (by omega)
      have d1n : decide (k < N) = false := decide_eq_false hlt
      have KF := fun w => fixed_any 256 (by omega) w
      have KP := put_sym hI wr l' O' 256 HI'.out.took (by omega)
      rw [HI'.out.last (by rw [EN.out]; omega)] at KP
      obtain ⟨vo, vc, rfl⟩ := listed_length HI'.out.row
      generalize numOf (fixedSym 256) = A at *
      generalize (fixedSym 256).length = M at *
      go_wp2_with fail
      go_at_call 44
      refine (KF _).mono ?_
      rintro e w' ⟨rfl, rfl⟩
      go_wp2_with fail
      refine KP.mono ?_
      rintro e w3 ⟨rfl, O3, i1, i2, i3⟩
      go_wp2_with fail
      have hfin : Past O W w3 := (Past.of_below HBL.out : Past O W w1).trans (HI'.out.past.trans i3 HI'.out.own) (fun b hb => .inl hb)
      refine bodyPost_end (v := .tuple #[]) (by simp [results, Tryd.results32, go_sem]) rfl ⟨rfl, O3, i1, fun b hb => ?_, hfin⟩
      rcases i2 b hb with h | h
      · rcases HI'.out.own b h with h | h
        · exact .inl h
        · exact .inr (by have := HBL.out.size; omega)
      · exact .inr (by have := HBL.out.size; have := HI'.out.past.size; omega)
end Go.Proofs.YtbhmjppnhlmefaaDoor.Fx
