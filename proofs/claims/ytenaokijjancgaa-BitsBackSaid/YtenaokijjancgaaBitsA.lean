/-
  The examples that each statement asks (awake), over what the calls do. The condition is Does.
-/
import Derived.Test.YtenaokijjancgaaBitsD
namespace Go.Proofs.Ytenaokijjancgaa.Fx
open Go Go.RowKit Go.Joins
set_option linter.unusedVariables false
theorem grow_from {O O' : Nat → Prop} {B : Nat} {w : World} (hO : ∀ k, O k → B ≤ k) (hs : ∀ b, O' b → O b ∨ w.heap.size ≤ b) (hB : B ≤ w.heap.size) : ∀ k, O' k → B ≤ k := fun k hk => (hs k hk).elim (hO k) (fun h => Nat.le_trans hB h)
theorem apart_from {O O' R : Nat → Prop} {w : World} (hd : ∀ k, O k → ¬ R k) (hs : ∀ b, O' b → O b ∨ w.heap.size ≤ b) (hlt : ∀ k, R k → k < w.heap.size) : ∀ k, O' k → ¬ R k := fun k hk hr => (hs k hk).elim (fun h => hd k h hr) (fun h => by have := hlt k hr; omega)
theorem listed_in {α : Type} {c : α → Value} {w : World} {v : Value} {zs : List α} (h : listed c w v zs) : ∀ b, inBlock v b → b < w.heap.size := fun b hb => by
  obtain ⟨off, n, cap, rfl, hn⟩ := hb
  rcases h with ⟨⟨o, c', h, _⟩, _⟩ | ⟨b', off', cap', h, hlt, _⟩
  · simp only [Value.slice.injEq] at h
    omega
  · simp only [Value.slice.injEq, Option.some.injEq, Addr.mk.injEq] at h
    obtain ⟨⟨rfl, _⟩, _⟩ := h
    exact hlt
theorem one_listed (w : World) (x : Nat) (t : TypeId) : bytesIn (w.alloc (.cells #[.int .u8 (x : Int)] t)) (.slice (some ⟨w.heap.size, 0, none⟩) 1 1) [x] := by
  refine .inr ⟨w.heap.size, 0, 1, rfl, by show _ < (w.heap.push _).size; simp, Nat.le_refl _, fun j z hz => ?_⟩
  match j, hz with
  | 0, hz =>
    obtain rfl := Option.some.inj hz
    rw [Nat.zero_add, World.cell?_alloc_mark]
    rfl
  | j + 1, hz => simp at hz
theorem flip_from {O R R' : Nat → Prop} {w : World} (hd : ∀ k, O k → ¬ R k) (hs : ∀ b, R' b → R b ∨ w.heap.size ≤ b) (hlt : ∀ k, O k → k < w.heap.size) : ∀ k, O k → ¬ R' k := fun k hk hr => (hs k hr).elim (hd k hk) (fun h => by have := hlt k hk; omega)
theorem below_one {w w' : World} {c : Obj} (h : Below (w.alloc c).heap.size (w.alloc c) w') : Below w.heap.size w w' :=
  (below_alloc1 w c).trans (h.mono (by show _ ≤ (w.heap.push _).size; simp))
theorem same_one (w : World) (u : Value) (x : Nat) (t : TypeId) (h : bytesIn w u [x]) :
    Calls Try.prog 15 #[u, .slice (some ⟨w.heap.size, 0, none⟩) 1 1] (w.alloc (.cells #[.int .u8 (x : Int)] t)) fun e w' => e = .returned (.bool true) ∧ Below w.heap.size w w' := by
  have hb : Below w.heap.size w (w.alloc (.cells #[.int .u8 (x : Int)] t)) := below_alloc1 w _
  refine (same_listed u _ [x] _ (listed_on h hb) (one_listed w x t)).mono ?_
  rintro e w' ⟨rfl, rfl⟩
  exact ⟨rfl, hb⟩
theorem ex_bits : bytesAt ([] ++ bitsOf 5 3 ++ bitsOf 1 1 ++ bitsOf 0 4) 0 1 = [13] ∧ bytesAt (aligned ([] ++ bitsOf 5 3 ++ bitsOf 1 1 ++ bitsOf 0 4 ++ bitsOf 1 1)) 1 1 = [1] ∧ (aligned ([] ++ bitsOf 5 3 ++ bitsOf 1 1 ++ bitsOf 0 4 ++ bitsOf 1 1)).length = 16
    ∧ numAt (bitsOfBytes [13]) 0 3 = 5 ∧ numAt (bitsOfBytes [13]) 3 5 = 1 ∧ (bitsOfBytes [13]).length = 8 := by decide +kernel
set_option maxHeartbeats 4000000 in
set_option maxRecDepth 100000 in
theorem awake_any {isW isR : World → Value → List Bool → Nat → (Nat → Prop) → Prop} (D : Does isW isR) (W : World) :
    Calls Try.prog 20 #[] W fun e w' => e = .returned (.bool true) ∧ Below W.heap.size W w' := by
  obtain ⟨x1, x2, x3, x4, x5, x6⟩ := ex_bits
  go_enter Try.func20, Try.ntmps20
  go_wp2_with fail
  go_at_call 10
  refine (D.wnew W).mono ?_
  rintro e w1 ⟨v, O1, rfl, hw, hO, hb⟩
  go_wp2_with fail
  go_at_call 11
  refine (D.put w1 v (([] : List Bool)) 0 O1 5 3 hw (by decide) (by decide) (by decide)).mono ?_
  rintro e w2 ⟨O2, rfl, hw', hsub, hp⟩
  have hO' := grow_from hO hsub hb.size
  replace hb := hb.trans (hp.below hO hb.size)
  clear hw hO hp hsub
  have hw := hw'; clear hw'
  have hO := hO'; clear hO'
  go_wp2_with fail
  go_at_call 11
  refine (D.put w2 v (([] : List Bool) ++ bitsOf 5 3) 0 O2 1 1 hw (by decide) (by decide) (by decide)).mono ?_
  rintro e w3 ⟨O3, rfl, hw', hsub, hp⟩
  have hO' := grow_from hO hsub hb.size
  replace hb := hb.trans (hp.below hO hb.size)
  clear hw hO hp hsub
  have hw := hw'; clear hw'
  have hO := hO'; clear hO'
  go_wp2_with fail
  go_at_call 11
  refine (D.put w3 v (([] : List Bool) ++ bitsOf 5 3 ++ bitsOf 1 1) 0 O3 0 4 hw (by decide) (by decide) (by decide)).mono ?_
  rintro e w4 ⟨O4, rfl, hw', hsub, hp⟩
  have hO' := grow_from hO hsub hb.size
  replace hb := hb.trans (hp.below hO hb.size)
  clear hw hO hp hsub
  have hw := hw'; clear hw'
  have hO := hO'; clear hO'
  go_wp2_with fail
  go_at_call 13
  refine (D.take w4 v (([] : List Bool) ++ bitsOf 5 3 ++ bitsOf 1 1 ++ bitsOf 0 4) 0 O4 hw (by decide) (by decide)).mono ?_
  rintro e w5 ⟨ub, O5, rfl, lb, fb, hw', hsub, hp⟩
  have lb : bytesIn w5 ub [13] := by
    have h := lb
    rw [show (([] : List Bool) ++ bitsOf 5 3 ++ bitsOf 1 1 ++ bitsOf 0 4).length / 8 - 0 = 1 from by decide, x1] at h
    exact h
  have db : ∀ k, O5 k → ¬ inBlock ub k := fun k hk hi => (fb k hi).2 hk
  clear fb
  have hO' := grow_from hO hsub hb.size
  replace hb := hb.trans (hp.below hO hb.size)
  clear hw hO hp hsub
  have hw := hw'; clear hw'
  have hO := hO'; clear hO'
  go_wp2_with fail
  go_at_call 11
  refine (D.put w5 v (([] : List Bool) ++ bitsOf 5 3 ++ bitsOf 1 1 ++ bitsOf 0 4) ((([] : List Bool) ++ bitsOf 5 3 ++ bitsOf 1 1 ++ bitsOf 0 4).length / 8) O5 1 1 hw (by decide) (by decide) (by decide)).mono ?_
  rintro e w6 ⟨O6, rfl, hw', hsub, hp⟩
  have lb' := listed_past lb hp (fun b hb ho => db b ho hb)
  have db' := apart_from (R := inBlock ub) db hsub (listed_in lb)
  have hO' := grow_from hO hsub hb.size
  replace hb := hb.trans (hp.below hO hb.size)
  clear hw hO hp hsub lb db
  have hw := hw'; clear hw'
  have hO := hO'; clear hO'
  have lb := lb'; clear lb'
  have db := db'; clear db'
  go_wp2_with fail
  go_at_call 14
  refine (D.align w6 v (([] : List Bool) ++ bitsOf 5 3 ++ bitsOf 1 1 ++ bitsOf 0 4 ++ bitsOf 1 1) ((([] : List Bool) ++ bitsOf 5 3 ++ bitsOf 1 1 ++ bitsOf 0 4).length / 8) O6 hw (by decide)).mono ?_
  rintro e w7 ⟨O7, rfl, hw', hsub, hp⟩
  have lb' := listed_past lb hp (fun b hb ho => db b ho hb)
  have db' := apart_from (R := inBlock ub) db hsub (listed_in lb)
  have hO' := grow_from hO hsub hb.size
  replace hb := hb.trans (hp.below hO hb.size)
  clear hw hO hp hsub lb db
  have hw := hw'; clear hw'
  have hO := hO'; clear hO'
  have lb := lb'; clear lb'
  have db := db'; clear db'
  go_wp2_with fail
  go_at_call 13
  refine (D.take w7 v (aligned (([] : List Bool) ++ bitsOf 5 3 ++ bitsOf 1 1 ++ bitsOf 0 4 ++ bitsOf 1 1)) ((([] : List Bool) ++ bitsOf 5 3 ++ bitsOf 1 1 ++ bitsOf 0 4).length / 8) O7 hw (by decide) (by decide)).mono ?_
  rintro e w8 ⟨uc, O8, rfl, lc, fc, hw', hsub, hp⟩
  have lc : bytesIn w8 uc [1] := by
    have h := lc
    rw [show ((([] : List Bool) ++ bitsOf 5 3 ++ bitsOf 1 1 ++ bitsOf 0 4).length / 8) = 1 from by decide, show (aligned (([] : List Bool) ++ bitsOf 5 3 ++ bitsOf 1 1 ++ bitsOf 0 4 ++ bitsOf 1 1)).length / 8 - 1 = 1 from by decide, x2] at h
    exact h
  have dc : ∀ k, O8 k → ¬ inBlock uc k := fun k hk hi => (fc k hi).2 hk
  clear fc
  have lb' := listed_past lb hp (fun b hb ho => db b ho hb)
  have db' := apart_from (R := inBlock ub) db hsub (listed_in lb)
  have hO' := grow_from hO hsub hb.size
  replace hb := hb.trans (hp.below hO hb.size)
  clear hw hO hp hsub lb db
  have hw := hw'; clear hw'
  have hO := hO'; clear hO'
  have lb := lb'; clear lb'
  have db := db'; clear db'
  go_wp2_with fail
  go_at_call 16
  refine (D.rnew _ _ [13] (one_listed w8 13 _) (by decide) (by decide)).mono ?_
  rintro e w9 ⟨r, R1, rfl, hr, hR, hn⟩
  have hlt := D.wlt _ _ _ _ _ hw
  have hR0 : ∀ k, R1 k → w8.heap.size ≤ k := fun k hk => Nat.le_trans (by show _ ≤ (w8.heap.push _).size; simp) (hR k hk)
  have hq : Below w8.heap.size w8 w9 := below_one hn
  have eb : ∀ k, R1 k → ¬ inBlock ub k := fun k hk hi => Nat.lt_irrefl _ (Nat.lt_of_lt_of_le (listed_in lb k hi) (hR0 k hk))
  have ec : ∀ k, R1 k → ¬ inBlock uc k := fun k hk hi => Nat.lt_irrefl _ (Nat.lt_of_lt_of_le (listed_in lc k hi) (hR0 k hk))
  have hd : ∀ k, O8 k → ¬ R1 k := fun k hk hi => Nat.lt_irrefl _ (Nat.lt_of_lt_of_le (hlt k hk) (hR0 k hi))
  have hS : ∀ k, R1 k → W.heap.size ≤ k := fun k hk => Nat.le_trans hb.size (hR0 k hk)
  clear hR hR0 hn hlt
  replace lb := listed_on lb hq
  replace lc := listed_on lc hq
  replace hw := D.wkeep _ _ _ _ _ _ hw hq.size (fun k hk => hq.block k (D.wlt _ _ _ _ _ hw k hk))
  replace hb := hb.trans (hq.mono hb.size)
  clear hq
  go_wp2_with fail
  go_at_call 17
  refine (D.get w9 r (bitsOfBytes [13]) (0) R1 3 hr (by decide) (by decide) (by decide)).mono ?_
  rintro e w10 ⟨R2, rfl, hr', hsub, hp⟩
  rw [x4]
  have eb' := apart_from (R := inBlock ub) eb hsub (listed_in lb)
  have ec' := apart_from (R := inBlock uc) ec hsub (listed_in lc)
  replace lb := listed_past lb hp (fun b hb ho => eb b ho hb)
  replace lc := listed_past lc hp (fun b hb ho => ec b ho hb)
  have hd' := flip_from hd hsub (D.wlt _ _ _ _ _ hw)
  replace hw := D.wkeep _ _ _ _ _ _ hw hp.size (fun k hk => hp.block k (D.wlt _ _ _ _ _ hw k hk) (fun ho => hd k hk ho))
  have hS' := grow_from hS hsub hb.size
  replace hb := hb.trans (hp.below hS hb.size)
  clear hr hS hd eb ec hsub hp
  have hr := hr'; clear hr'
  have hS := hS'; clear hS'
  have hd := hd'; clear hd'
  have eb := eb'; clear eb'
  have ec := ec'; clear ec'
  go_wp2_with fail
  go_at_call 17
  refine (D.get w10 r (bitsOfBytes [13]) (0 + 3) R2 5 hr (by decide) (by decide) (by decide)).mono ?_
  rintro e w11 ⟨R3, rfl, hr', hsub, hp⟩
  rw [show numAt (bitsOfBytes [13]) (0 + 3) 5 = 1 from x5]
  have eb' := apart_from (R := inBlock ub) eb hsub (listed_in lb)
  have ec' := apart_from (R := inBlock uc) ec hsub (listed_in lc)
  replace lb := listed_past lb hp (fun b hb ho => eb b ho hb)
  replace lc := listed_past lc hp (fun b hb ho => ec b ho hb)
  have hd' := flip_from hd hsub (D.wlt _ _ _ _ _ hw)
  replace hw := D.wkeep _ _ _ _ _ _ hw hp.size (fun k hk => hp.block k (D.wlt _ _ _ _ _ hw k hk) (fun ho => hd k hk ho))
  have hS' := grow_from hS hsub hb.size
  replace hb := hb.trans (hp.below hS hb.size)
  clear hr hS hd eb ec hsub hp
  have hr := hr'; clear hr'
  have hS := hS'; clear hS'
  have hd := hd'; clear hd'
  have eb := eb'; clear eb'
  have ec := ec'; clear ec'
  go_wp2_with fail
  go_at_call 17
  refine (D.getShort w11 r (bitsOfBytes [13]) (0 + 3 + 5) R3 1 hr (by decide) (by decide) (by decide)).mono ?_
  rintro e w12 ⟨R4, rfl, hr', hsub, hp⟩
  have eb' := apart_from (R := inBlock ub) eb hsub (listed_in lb)
  have ec' := apart_from (R := inBlock uc) ec hsub (listed_in lc)
  replace lb := listed_past lb hp (fun b hb ho => eb b ho hb)
  replace lc := listed_past lc hp (fun b hb ho => ec b ho hb)
  have hd' := flip_from hd hsub (D.wlt _ _ _ _ _ hw)
  replace hw := D.wkeep _ _ _ _ _ _ hw hp.size (fun k hk => hp.block k (D.wlt _ _ _ _ _ hw k hk) (fun ho => hd k hk ho))
  have hS' := grow_from hS hsub hb.size
  replace hb := hb.trans (hp.below hS hb.size)
  clear hr hS hd eb ec hsub hp
  have hr := hr'; clear hr'
  have hS := hS'; clear hS'
  have hd := hd'; clear hd'
  have eb := eb'; clear eb'
  have ec := ec'; clear ec'
  go_wp2_with fail
  go_at_call 15
  refine (same_one w12 ub 13 _ lb).mono ?_
  rintro e w13 ⟨rfl, hq⟩
  replace lb := listed_on lb hq
  replace lc := listed_on lc hq
  replace hw := D.wkeep _ _ _ _ _ _ hw hq.size (fun k hk => hq.block k (D.wlt _ _ _ _ _ hw k hk))
  replace hr := D.rkeep _ _ _ _ _ _ hr hq.size (fun k hk => hq.block k (D.rlt _ _ _ _ _ hr k hk))
  replace hb := hb.trans (hq.mono hb.size)
  clear hq
  go_wp2_with fail
  go_at_call 15
  refine (same_one w13 uc 1 _ lc).mono ?_
  rintro e w14 ⟨rfl, hq⟩
  replace lb := listed_on lb hq
  replace lc := listed_on lc hq
  replace hw := D.wkeep _ _ _ _ _ _ hw hq.size (fun k hk => hq.block k (D.wlt _ _ _ _ _ hw k hk))
  replace hr := D.rkeep _ _ _ _ _ _ hr hq.size (fun k hk => hq.block k (D.rlt _ _ _ _ _ hr k hk))
  replace hb := hb.trans (hq.mono hb.size)
  clear hq
  clear lb lc db dc eb ec
  have hr0 := hr
  go_wp2_with fail
  go_at_call 11
  refine (D.putBad w14 v (aligned (([] : List Bool) ++ bitsOf 5 3 ++ bitsOf 1 1 ++ bitsOf 0 4 ++ bitsOf 1 1)) (((aligned (([] : List Bool) ++ bitsOf 5 3 ++ bitsOf 1 1 ++ bitsOf 0 4 ++ bitsOf 1 1)).length / 8)) O8 8 3 hw (by decide) (by decide) (by decide)).mono ?_
  rintro e w15 ⟨O9, rfl, hw', hsub, hp⟩
  replace hr := D.rkeep _ _ _ _ _ _ hr hp.size (fun k hk => hp.block k (D.rlt _ _ _ _ _ hr k hk) (fun ho => hd k ho hk))
  have hd' := apart_from hd hsub (D.rlt _ _ _ _ _ hr0)
  have hO' := grow_from hO hsub hb.size
  replace hb := hb.trans (hp.below hO hb.size)
  clear hr0 hw hO hd hsub hp
  have hw := hw'; clear hw'
  have hO := hO'; clear hO'
  have hd := hd'; clear hd'
  have hr0 := hr
  go_wp2_with fail
  go_at_call 12
  refine (D.bits w15 v (aligned (([] : List Bool) ++ bitsOf 5 3 ++ bitsOf 1 1 ++ bitsOf 0 4 ++ bitsOf 1 1)) (((aligned (([] : List Bool) ++ bitsOf 5 3 ++ bitsOf 1 1 ++ bitsOf 0 4 ++ bitsOf 1 1)).length / 8)) O9 hw).mono ?_
  rintro e w16 ⟨O10, rfl, hw', hsub, hp⟩
  rw [x3]
  replace hr := D.rkeep _ _ _ _ _ _ hr hp.size (fun k hk => hp.block k (D.rlt _ _ _ _ _ hr k hk) (fun ho => hd k ho hk))
  have hd' := apart_from hd hsub (D.rlt _ _ _ _ _ hr0)
  have hO' := grow_from hO hsub hb.size
  replace hb := hb.trans (hp.below hO hb.size)
  clear hr0 hw hO hd hsub hp
  have hw := hw'; clear hw'
  have hO := hO'; clear hO'
  have hd := hd'; clear hd'
  go_wp2_with fail
  go_at_call 19
  refine (D.place w16 r (bitsOfBytes [13]) (0 + 3 + 5) R4 hr).mono ?_
  rintro e w17 ⟨R5, rfl, hr', hsub, hp⟩
  replace hb := hb.trans (hp.below hS hb.size)
  clear hw hr hr' hsub hp hd hS hO
  go_wp2_with fail
  all_goals (go_ret; exact ⟨rfl, hb⟩)
end Go.Proofs.Ytenaokijjancgaa.Fx
