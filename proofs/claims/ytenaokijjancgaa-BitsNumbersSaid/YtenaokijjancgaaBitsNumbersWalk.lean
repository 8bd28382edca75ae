/-
  The walk of BitsNumbers, over what the calls do. The condition is Does.
-/
import Derived.Test.YtenaokijjancgaaBitsA
namespace Go.Proofs.Ytenaokijjancgaa.Fx
open Go Go.RowKit Go.Joins
set_option linter.unusedVariables false
theorem five_listed (w : World) (x0 x1 x2 x3 x4 : Nat) (t : TypeId) : bytesIn (w.alloc (.cells #[.int .u8 (x0 : Int), .int .u8 (x1 : Int), .int .u8 (x2 : Int), .int .u8 (x3 : Int), .int .u8 (x4 : Int)] t)) (.slice (some ⟨w.heap.size, 0, none⟩) 5 5) [x0, x1, x2, x3, x4] := by
  refine .inr ⟨w.heap.size, 0, 5, rfl, by show _ < (w.heap.push _).size; simp, Nat.le_refl _, fun j z hz => ?_⟩
  match j, hz with
  | 0, hz => obtain rfl := Option.some.inj hz; rw [Nat.zero_add, World.cell?_alloc_mark]; rfl
  | 1, hz => obtain rfl := Option.some.inj hz; rw [Nat.zero_add, World.cell?_alloc_mark]; rfl
  | 2, hz => obtain rfl := Option.some.inj hz; rw [Nat.zero_add, World.cell?_alloc_mark]; rfl
  | 3, hz => obtain rfl := Option.some.inj hz; rw [Nat.zero_add, World.cell?_alloc_mark]; rfl
  | 4, hz => obtain rfl := Option.some.inj hz; rw [Nat.zero_add, World.cell?_alloc_mark]; rfl
  | j + 5, hz => simp at hz
/-- 65 bits. -/
def much : List Bool := ([] ++ bitsOf 4294967295 32 ++ bitsOf 0 0 ++ bitsOf 1 1 ++ bitsOf 4294967295 32)
theorem much_facts : much.length = 65 ∧ (bytesAt much 0 (65 / 8 - 0)).length = 8 ∧ bytesAt much 8 (65 / 8 - 8) = [] ∧ (aligned much).length = 72 ∧ aligned (aligned much) = aligned much ∧ bytesAt (aligned much) 8 (72 / 8 - 8) = [1] := by decide +kernel
theorem five_facts : (bitsOfBytes [255, 255, 255, 255, 128]).length = 40 ∧ numAt (bitsOfBytes [255, 255, 255, 255, 128]) 0 32 = 4294967295 ∧ numAt (bitsOfBytes [255, 255, 255, 255, 128]) 32 0 = 0 ∧ numAt (bitsOfBytes [255, 255, 255, 255, 128]) 32 7 = 0 := by decide +kernel
set_option maxHeartbeats 4000000 in
set_option maxRecDepth 100000 in
theorem numbers_any {isW isR : World → Value → List Bool → Nat → (Nat → Prop) → Prop} (D : Does isW isR) (W : World) :
    Calls Try.prog 3 #[] W fun e w' => e = .returned (.bool true) ∧ Below W.heap.size W w' := by
  obtain ⟨m1, m2, m3, m4, m5, m6⟩ := much_facts
  have HM0 : Hid (([] ++ bitsOf 4294967295 32 ++ bitsOf 0 0 ++ bitsOf 1 1 ++ bitsOf 4294967295 32) = much) := Lib.hid rfl
  have HM : Hid (much.length = 65 ∧ (bytesAt much 0 (65 / 8 - 0)).length = 8 ∧ bytesAt much (65 / 8) (65 / 8 - 65 / 8) = []) := Lib.hid ⟨m1, m2, m3⟩
  have HG : Hid ((aligned much).length = 72 ∧ aligned (aligned much) = aligned much ∧ bytesAt (aligned much) (65 / 8) (72 / 8 - 65 / 8) = [1]) := Lib.hid ⟨m4, m5, m6⟩
  have HF := Lib.hid five_facts
  clear m1 m2 m3 m4 m5 m6
  revert HM0 HM HG HF
  generalize hG : aligned much = G
  generalize hM : much = M
  generalize hF : bitsOfBytes [255, 255, 255, 255, 128] = F5
  rw [hM] at hG
  clear hM
  intro HM0 HM HG HF
  have HG0 := Lib.hid hG
  have HF0 := Lib.hid hF
  clear hG hF
  have hb := Below.refl W.heap.size W
  go_enter Try.func3, Try.ntmps3
  go_wp2_with fail
  go_at_call 10
  refine (D.wnew W).mono ?_
  rintro e w1 ⟨v_w, Ow1, rfl, h_w, o0, hn⟩
  have o_w : ∀ k, Ow1 k → W.heap.size ≤ k := fun k hk => Nat.le_trans hb.size (o0 k hk)
  have hb' := hb.trans (hn.mono hb.size)
  clear o0 hn
  clear hb
  have hb := hb'; clear hb'
  go_wp2_with fail
  go_at_call 11
  refine (D.put w1 v_w [] 0 Ow1 4294967295 32 h_w (by decide) (by decide) (by decide)).mono ?_
  rintro e w2 ⟨Ow2, rfl, h_w', hsub, hp⟩
  have o_w' := grow_from o_w hsub hb.size
  have hb' := hb.trans (hp.below o_w hb.size)
  clear hsub hp
  clear h_w o_w hb
  have h_w := h_w'; clear h_w'
  have o_w := o_w'; clear o_w'
  have hb := hb'; clear hb'
  go_wp2_with fail
  go_at_call 11
  refine (D.put w2 v_w ([] ++ bitsOf 4294967295 32) 0 Ow2 0 0 h_w (by decide +kernel) (by decide) (by decide)).mono ?_
  rintro e w3 ⟨Ow3, rfl, h_w', hsub, hp⟩
  have o_w' := grow_from o_w hsub hb.size
  have hb' := hb.trans (hp.below o_w hb.size)
  clear hsub hp
  clear h_w o_w hb
  have h_w := h_w'; clear h_w'
  have o_w := o_w'; clear o_w'
  have hb := hb'; clear hb'
  go_wp2_with fail
  go_at_call 11
  refine (D.putBad w3 v_w ([] ++ bitsOf 4294967295 32 ++ bitsOf 0 0) 0 Ow3 1 0 h_w (by decide) (by decide) (by decide)).mono ?_
  rintro e w4 ⟨Ow4, rfl, h_w', hsub, hp⟩
  have o_w' := grow_from o_w hsub hb.size
  have hb' := hb.trans (hp.below o_w hb.size)
  clear hsub hp
  clear h_w o_w hb
  have h_w := h_w'; clear h_w'
  have o_w := o_w'; clear o_w'
  have hb := hb'; clear hb'
  go_wp2_with fail
  go_at_call 11
  refine (D.putBad w4 v_w ([] ++ bitsOf 4294967295 32 ++ bitsOf 0 0) 0 Ow4 0 33 h_w (by decide) (by decide) (by decide)).mono ?_
  rintro e w5 ⟨Ow5, rfl, h_w', hsub, hp⟩
  have o_w' := grow_from o_w hsub hb.size
  have hb' := hb.trans (hp.below o_w hb.size)
  clear hsub hp
  clear h_w o_w hb
  have h_w := h_w'; clear h_w'
  have o_w := o_w'; clear o_w'
  have hb := hb'; clear hb'
  go_wp2_with fail
  go_at_call 11
  refine (D.putBad w5 v_w ([] ++ bitsOf 4294967295 32 ++ bitsOf 0 0) 0 Ow5 0 (-1) h_w (by decide) (by decide) (by decide)).mono ?_
  rintro e w6 ⟨Ow6, rfl, h_w', hsub, hp⟩
  have o_w' := grow_from o_w hsub hb.size
  have hb' := hb.trans (hp.below o_w hb.size)
  clear hsub hp
  clear h_w o_w hb
  have h_w := h_w'; clear h_w'
  have o_w := o_w'; clear o_w'
  have hb := hb'; clear hb'
  go_wp2_with fail
  go_at_call 11
  refine (D.put w6 v_w ([] ++ bitsOf 4294967295 32 ++ bitsOf 0 0) 0 Ow6 1 1 h_w (by decide +kernel) (by decide) (by decide)).mono ?_
  rintro e w7 ⟨Ow7, rfl, h_w', hsub, hp⟩
  have o_w' := grow_from o_w hsub hb.size
  have hb' := hb.trans (hp.below o_w hb.size)
  clear hsub hp
  clear h_w o_w hb
  have h_w := h_w'; clear h_w'
  have o_w := o_w'; clear o_w'
  have hb := hb'; clear hb'
  go_wp2_with fail
  go_at_call 11
  refine (D.put w7 v_w ([] ++ bitsOf 4294967295 32 ++ bitsOf 0 0 ++ bitsOf 1 1) 0 Ow7 4294967295 32 h_w (by decide +kernel) (by decide) (by decide)).mono ?_
  rintro e w8 ⟨Ow8, rfl, h_w', hsub, hp⟩
  rw [HM0.out] at h_w'
  have o_w' := grow_from o_w hsub hb.size
  have hb' := hb.trans (hp.below o_w hb.size)
  clear hsub hp
  clear h_w o_w hb
  have h_w := h_w'; clear h_w'
  have o_w := o_w'; clear o_w'
  have hb := hb'; clear hb'
  go_wp2_with fail
  go_at_call 12
  refine (D.bits w8 v_w M 0 Ow8 h_w).mono ?_
  rintro e w9 ⟨Ow9, rfl, h_w', hsub, hp⟩
  rw [HM.out.1]
  have o_w' := grow_from o_w hsub hb.size
  have hb' := hb.trans (hp.below o_w hb.size)
  clear hsub hp
  clear h_w o_w hb
  have h_w := h_w'; clear h_w'
  have o_w := o_w'; clear o_w'
  have hb := hb'; clear hb'
  go_wp2_with fail
  go_at_call 13
  refine (D.take w9 v_w M 0 Ow9 h_w (by rw [HM.out.1]; decide) (Nat.zero_le _)).mono ?_
  rintro e w10 ⟨v_a, Ow10, rfl, l_a', f0, h_w', hsub, hp⟩
  rw [HM.out.1] at h_w'
  have e_w_a : ∀ k, Ow10 k → ¬ inBlock v_a k := fun k hk hi => (f0 k hi).2 hk
  clear f0
  rw [HM.out.1] at l_a'
  have l_a := l_a'; clear l_a'
  have o_w' := grow_from o_w hsub hb.size
  have hb' := hb.trans (hp.below o_w hb.size)
  clear hsub hp
  clear h_w o_w hb
  have h_w := h_w'; clear h_w'
  have o_w := o_w'; clear o_w'
  have hb := hb'; clear hb'
  have hlen := listed_len (P := Try.prog) (t := 28) (u := 3) rfl l_a
  rw [HM.out.2.1] at hlen
  clear l_a e_w_a
  go_wp2_with fail
  go_at_call 13
  refine (D.take w10 v_w M (65 / 8) Ow10 h_w (by rw [HM.out.1]; decide) (by rw [HM.out.1]; decide)).mono ?_
  rintro e w11 ⟨v_b, Ow11, rfl, l_b', f0, h_w', hsub, hp⟩
  clear hlen
  rw [HM.out.1] at h_w'
  have e_w_b : ∀ k, Ow11 k → ¬ inBlock v_b k := fun k hk hi => (f0 k hi).2 hk
  clear f0
  rw [HM.out.1, HM.out.2.2] at l_b'
  have l_b := l_b'; clear l_b'
  have o_w' := grow_from o_w hsub hb.size
  have hb' := hb.trans (hp.below o_w hb.size)
  clear hsub hp
  clear h_w o_w hb
  have h_w := h_w'; clear h_w'
  have o_w := o_w'; clear o_w'
  have hb := hb'; clear hb'
  have hlen := listed_len (P := Try.prog) (t := 28) (u := 3) rfl l_b
  clear l_b e_w_b
  go_wp2_with fail
  go_at_call 14
  refine (D.align w11 v_w M (65 / 8) Ow11 h_w (by rw [HM.out.1]; decide)).mono ?_
  rintro e w12 ⟨Ow12, rfl, h_w', hsub, hp⟩
  clear hlen
  rw [HG0.out] at h_w'
  have o_w' := grow_from o_w hsub hb.size
  have hb' := hb.trans (hp.below o_w hb.size)
  clear hsub hp
  clear h_w o_w hb
  have h_w := h_w'; clear h_w'
  have o_w := o_w'; clear o_w'
  have hb := hb'; clear hb'
  go_wp2_with fail
  go_at_call 14
  refine (D.align w12 v_w G (65 / 8) Ow12 h_w (by rw [HG.out.1]; decide)).mono ?_
  rintro e w13 ⟨Ow13, rfl, h_w', hsub, hp⟩
  rw [HG.out.2.1] at h_w'
  have o_w' := grow_from o_w hsub hb.size
  have hb' := hb.trans (hp.below o_w hb.size)
  clear hsub hp
  clear h_w o_w hb
  have h_w := h_w'; clear h_w'
  have o_w := o_w'; clear o_w'
  have hb := hb'; clear hb'
  go_wp2_with fail
  go_at_call 13
  refine (D.take w13 v_w G (65 / 8) Ow13 h_w (by rw [HG.out.1]; decide) (by rw [HG.out.1]; decide)).mono ?_
  rintro e w14 ⟨v_c, Ow14, rfl, l_c', f0, h_w', hsub, hp⟩
  rw [HG.out.1] at h_w'
  have e_w_c : ∀ k, Ow14 k → ¬ inBlock v_c k := fun k hk hi => (f0 k hi).2 hk
  clear f0
  rw [HG.out.1, HG.out.2.2] at l_c'
  have l_c := l_c'; clear l_c'
  have o_w' := grow_from o_w hsub hb.size
  have hb' := hb.trans (hp.below o_w hb.size)
  clear hsub hp
  clear h_w o_w hb
  have h_w := h_w'; clear h_w'
  have o_w := o_w'; clear o_w'
  have hb := hb'; clear hb'
  go_wp2_with fail
  go_at_call 15
  refine (same_one w14 v_c 1 _ l_c).mono ?_
  rintro e w15 ⟨rfl, hn⟩
  have h_w' := D.wkeep _ _ _ _ _ _ h_w hn.size (fun k hk => hn.block k (D.wlt _ _ _ _ _ h_w k hk))
  have l_c' := listed_on l_c hn
  have hb' := hb.trans (hn.mono hb.size)
  clear hn
  clear h_w l_c hb
  have h_w := h_w'; clear h_w'
  have l_c := l_c'; clear l_c'
  have hb := hb'; clear hb'
  clear l_c e_w_c
  go_wp2_with fail
  go_at_call 12
  refine (D.bits w15 v_w G _ Ow14 h_w).mono ?_
  rintro e w16 ⟨Ow15, rfl, h_w', hsub, hp⟩
  rw [HG.out.1]
  have o_w' := grow_from o_w hsub hb.size
  have hb' := hb.trans (hp.below o_w hb.size)
  clear hsub hp
  clear h_w o_w hb
  have h_w := h_w'; clear h_w'
  have o_w := o_w'; clear o_w'
  have hb := hb'; clear hb'
  clear h_w o_w
  have hg : W.heap.size ≤ w16.heap.size := hb.size
  go_wp2_with fail
  go_at_call 16
  refine (D.rnew _ _ [255, 255, 255, 255, 128] (five_listed w16 255 255 255 255 128 _) (by decide) (by decide)).mono ?_
  rintro e w17 ⟨v_r, Or1, rfl, h_r, o0, hn⟩
  rw [HF0.out] at h_r
  have hs : w16.heap.size < (w16.alloc (.cells #[.int .u8 255, .int .u8 255, .int .u8 255, .int .u8 255, .int .u8 128] 5)).heap.size := by show _ < (w16.heap.push _).size; simp
  have hcell : w17.cell? ⟨w16.heap.size, 0, none⟩ = some (.int .u8 255) := (hn.cell (p := ⟨w16.heap.size, 0, none⟩) hs).trans (by rw [World.cell?_alloc_mark]; rfl)
  have hfro : w17.frozen? ⟨w16.heap.size, 0, none⟩ = false := (hn.frozen (p := ⟨w16.heap.size, 0, none⟩) hs).trans (World.frozen?_alloc_at _ _ _ _ rfl)
  have o_r : ∀ k, Or1 k → W.heap.size ≤ k := fun k hk => Nat.le_trans hg (Nat.le_trans (Nat.le_of_lt hs) (o0 k hk))
  have h_r' := D.rkeep _ (w17.setCell ⟨w16.heap.size, 0, none⟩ (.int .u8 0)) _ _ _ _ h_r (by rw [World.size_setCell]; exact Nat.le_refl _) (fun k hk => Below.heap_setCell w17 ⟨w16.heap.size, 0, none⟩ _ k (Nat.ne_of_gt (Nat.lt_of_lt_of_le hs (o0 k hk))))
  have hb' := (hb.trans ((below_one hn).mono hg)).setCell (p := ⟨w16.heap.size, 0, none⟩) hg (.int .u8 0)
  clear o0 hn hs hg h_r hb
  have h_r := h_r'; clear h_r'
  have hb := hb'; clear hb'
  go_wp2_with fail
  generalize hw2 : w17.setCell ⟨w16.heap.size, 0, none⟩ (.int .u8 0) = w18 at *
  clear hcell hfro hw2
  go_wp2_with fail
  go_at_call 17
  refine (D.get w18 v_r F5 0 Or1 32 h_r (by decide) (by rw [HF.out.1]; decide) (by rw [HF.out.1]; decide)).mono ?_
  rintro e w19 ⟨Or2, rfl, h_r', hsub, hp⟩
  rw [HF.out.2.1]
  replace h_r' : isR _ v_r F5 32 _ := h_r'
  have o_r' := grow_from o_r hsub hb.size
  have hb' := hb.trans (hp.below o_r hb.size)
  clear hsub hp
  clear h_r o_r hb
  have h_r := h_r'; clear h_r'
  have o_r := o_r'; clear o_r'
  have hb := hb'; clear hb'
  go_wp2_with fail
  go_at_call 17
  refine (D.get w19 v_r F5 32 Or2 0 h_r (by decide) (by rw [HF.out.1]; decide) (by rw [HF.out.1]; decide)).mono ?_
  rintro e w20 ⟨Or3, rfl, h_r', hsub, hp⟩
  rw [HF.out.2.2.1]
  replace h_r' : isR _ v_r F5 32 _ := h_r'
  have o_r' := grow_from o_r hsub hb.size
  have hb' := hb.trans (hp.below o_r hb.size)
  clear hsub hp
  clear h_r o_r hb
  have h_r := h_r'; clear h_r'
  have o_r := o_r'; clear o_r'
  have hb := hb'; clear hb'
  go_wp2_with fail
  go_at_call 18
  refine (D.ralign w20 v_r F5 32 Or3 h_r (by rw [HF.out.1]; decide) (by rw [HF.out.1]; decide)).mono ?_
  rintro e w21 ⟨Or4, rfl, h_r', hsub, hp⟩
  replace h_r' : isR _ v_r F5 32 _ := h_r'
  have o_r' := grow_from o_r hsub hb.size
  have hb' := hb.trans (hp.below o_r hb.size)
  clear hsub hp
  clear h_r o_r hb
  have h_r := h_r'; clear h_r'
  have o_r := o_r'; clear o_r'
  have hb := hb'; clear hb'
  go_wp2_with fail
  go_at_call 17
  refine (D.get w21 v_r F5 32 Or4 7 h_r (by decide) (by rw [HF.out.1]; decide) (by rw [HF.out.1]; decide)).mono ?_
  rintro e w22 ⟨Or5, rfl, h_r', hsub, hp⟩
  rw [HF.out.2.2.2]
  replace h_r' : isR _ v_r F5 39 _ := h_r'
  have o_r' := grow_from o_r hsub hb.size
  have hb' := hb.trans (hp.below o_r hb.size)
  clear hsub hp
  clear h_r o_r hb
  have h_r := h_r'; clear h_r'
  have o_r := o_r'; clear o_r'
  have hb := hb'; clear hb'
  go_wp2_with fail
  go_at_call 18
  refine (D.ralign w22 v_r F5 39 Or5 h_r (by rw [HF.out.1]; decide) (by rw [HF.out.1]; decide)).mono ?_
  rintro e w23 ⟨Or6, rfl, h_r', hsub, hp⟩
  replace h_r' : isR _ v_r F5 40 _ := h_r'
  have o_r' := grow_from o_r hsub hb.size
  have hb' := hb.trans (hp.below o_r hb.size)
  clear hsub hp
  clear h_r o_r hb
  have h_r := h_r'; clear h_r'
  have o_r := o_r'; clear o_r'
  have hb := hb'; clear hb'
  go_wp2_with fail
  go_at_call 17
  refine (D.getShort w23 v_r F5 40 Or6 1 h_r (by decide) (by rw [HF.out.1]; decide) (by rw [HF.out.1]; decide)).mono ?_
  rintro e w24 ⟨Or7, rfl, h_r', hsub, hp⟩
  have o_r' := grow_from o_r hsub hb.size
  have hb' := hb.trans (hp.below o_r hb.size)
  clear hsub hp
  clear h_r o_r hb
  have h_r := h_r'; clear h_r'
  have o_r := o_r'; clear o_r'
  have hb := hb'; clear hb'
  go_wp2_with fail
  go_at_call 17
  refine (D.getBad w24 v_r F5 40 Or7 33 h_r (by decide) (by decide)).mono ?_
  rintro e w25 ⟨Or8, rfl, h_r', hsub, hp⟩
  have o_r' := grow_from o_r hsub hb.size
  have hb' := hb.trans (hp.below o_r hb.size)
  clear hsub hp
  clear h_r o_r hb
  have h_r := h_r'; clear h_r'
  have o_r := o_r'; clear o_r'
  have hb := hb'; clear hb'
  go_wp2_with fail
  go_at_call 17
  refine (D.getBad w25 v_r F5 40 Or8 (-1) h_r (by decide) (by decide)).mono ?_
  rintro e w26 ⟨Or9, rfl, h_r', hsub, hp⟩
  have o_r' := grow_from o_r hsub hb.size
  have hb' := hb.trans (hp.below o_r hb.size)
  clear hsub hp
  clear h_r o_r hb
  have h_r := h_r'; clear h_r'
  have o_r := o_r'; clear o_r'
  have hb := hb'; clear hb'
  go_wp2_with fail
  go_at_call 19
  refine (D.place w26 v_r F5 40 Or9 h_r).mono ?_
  rintro e w27 ⟨Or10, rfl, h_r', hsub, hp⟩
  have o_r' := grow_from o_r hsub hb.size
  have hb' := hb.trans (hp.below o_r hb.size)
  clear hsub hp
  clear h_r o_r hb
  have h_r := h_r'; clear h_r'
  have o_r := o_r'; clear o_r'
  have hb := hb'; clear hb'
  clear h_r o_r
  go_wp2_with fail
  go_at_call 20
  refine (awake_any D w27).mono ?_
  rintro e w28 ⟨rfl, hn⟩
  have hb' := hb.trans (hn.mono hb.size)
  clear hn
  clear hb
  have hb := hb'; clear hb'
  go_wp2_with fail
  all_goals (go_ret; exact ⟨rfl, hb⟩)
end Go.Proofs.Ytenaokijjancgaa.Fx
