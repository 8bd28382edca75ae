/-
  zlib's Write and End, as landed. The conditions stand in each.
  zlib's End, as landed; behind End; one that New did not make. The conditions stand in each.
-/
import Derived.Test.YtefdlidjdmlnaaaZlC
namespace Go.Proofs.Ytefdlidjdmlnaaa.Fx
open Go Go.RowKit Go.Joins
set_option linter.unusedVariables false
theorem set_heap (w : World) (a : Addr) (x : Value) (b : Nat) (h : b ≠ a.block) : (w.setCell a x).heap[b]? = w.heap[b]? := Below.heap_setCell _ _ _ b h
theorem past_set {O : Nat → Prop} {W w : World} {g j : Nat} {x : Value} (h : Past O W w) : Past (fun k => k = g ∨ O k) W (w.setCell ⟨g, j, none⟩ x) :=
  ⟨h.os, h.tape, h.output, by simpa using h.size, fun b hb hn => (set_heap w ⟨g, j, none⟩ x b (fun e => hn (.inl e))).trans (h.block b hb (fun ho => hn (.inr ho)))⟩
theorem past_more {O O' : Nat → Prop} {W w : World} (h : Past O W w) (hs : ∀ k, O k → O' k) : Past O' W w := ⟨h.os, h.tape, h.output, h.size, fun b hb hn => h.block b hb (fun ho => hn (hs b ho))⟩
theorem past_on {O : Nat → Prop} {W w w' : World} (h : Past O W w) (hb : Below w.heap.size w w') : Past O W w' := h.trans (Past.of_below hb : Past (fun _ => False) _ _) (fun _ h => h.elim)
theorem zpast_drew {O : Nat → Prop} {W w : World} (h : Past O W w) : Past O W w.drew := past_on h (Below.refl _ _).drew
/-- Between the calls: a writer's two boxes, what deflate has written. -/
structure ZMid (W w : World) (h g : Nat) (head dv : Value) (s : Nat) (all : List Nat) (OD OD1 : Nat → Prop) (u : Value) (xs : List Nat) (hs : List Nat) : Prop where
  box : w.heap[h]? = some (.cells #[.pointer (some ⟨g, 0, none⟩)] 84 (0, 0))
  own : w.heap[g]? = some (.cells (streamCells head dv s) 82 (0, 0))
  hd : bytesIn w head hs
  hdF : ∀ b, inBlock head b → ¬ OD1 b ∧ b ≠ h ∧ b ≠ g
  res : bytesIn w u xs
  resF : ∀ b, inBlock u b → ¬ OD1 b ∧ b ≠ h ∧ b ≠ g
  noh : ¬ OD1 h
  nog : ¬ OD1 g
  ne : h ≠ g
  sub : ∀ k, OD1 k → OD k ∨ W.heap.size ≤ k
  past : Past (fun k => k = g ∨ OD k) W w
theorem ZMid.set {W w : World} {h g : Nat} {head dv : Value} {s : Nat} {all : List Nat} {OD OD1 : Nat → Prop} {u : Value} {xs hs : List Nat} (m : ZMid W w h g head dv s all OD OD1 u xs hs) (t : Nat) :
    ZMid W (w.setCell ⟨g, 3, none⟩ (.int .u32 (t : Int))).drew h g head dv t all OD OD1 u xs hs where
  box := (set_heap w ⟨g, 3, none⟩ _ h m.ne).trans m.box
  own := block_setCell m.own _
  hd := listed_kept m.hd (Nat.le_of_eq (by simp)) (fun b hb => set_heap w ⟨g, 3, none⟩ _ b (m.hdF b hb).2.2)
  hdF := m.hdF
  res := listed_kept m.res (Nat.le_of_eq (by simp)) (fun b hb => set_heap w ⟨g, 3, none⟩ _ b (m.resF b hb).2.2)
  resF := m.resF
  noh := m.noh
  nog := m.nog
  ne := m.ne
  sub := m.sub
  past := past_more (zpast_drew (past_set m.past)) (fun k hk => hk.elim .inl (fun h => h))
theorem ZMid.take {W w : World} {h g : Nat} {head dv : Value} {s : Nat} {all : List Nat} {OD OD1 : Nat → Prop} {u : Value} {xs hs : List Nat} (m : ZMid W w h g head dv s all OD OD1 u xs hs) :
    ZMid W (w.setCell ⟨g, 0, none⟩ (.slice none 0 0)) h g (.slice none 0 0) dv s all OD OD1 u xs [] ∧ bytesIn (w.setCell ⟨g, 0, none⟩ (.slice none 0 0)) head hs :=
  ⟨{ box := (set_heap w ⟨g, 0, none⟩ _ h m.ne).trans m.box
     own := block_setCell m.own _
     hd := listed_none _ _
     hdF := fun b hb => absurd hb (not_nilBlock b)
     res := listed_kept m.res (Nat.le_of_eq (by simp)) (fun b hb => set_heap w ⟨g, 0, none⟩ _ b (m.resF b hb).2.2)
     resF := m.resF
     noh := m.noh
     nog := m.nog
     ne := m.ne
     sub := m.sub
     past := past_more (past_set m.past) (fun k hk => hk.elim .inl (fun h => h)) },
   listed_kept m.hd (Nat.le_of_eq (by simp)) (fun b hb => set_heap w ⟨g, 0, none⟩ _ b (m.hdF b hb).2.2)⟩
theorem ZMid.dw {W w w' : World} {h g : Nat} {head dv : Value} {s : Nat} {all : List Nat} {OD OD1 : Nat → Prop} {u : Value} {xs hs : List Nat} {j : Nat} {x : Value} (m : ZMid W w h g head dv s all OD OD1 u xs hs) (k : isDW w dv all OD1) : isDW (w.setCell ⟨g, j, none⟩ x) dv all OD1 :=
  isDW_keep _ _ _ _ _ k (Nat.le_of_eq (by simp)) (fun b hb => set_heap w ⟨g, j, none⟩ x b (fun e => m.nog ((show b = g from e) ▸ hb)))
theorem ZMid.de {W w w' : World} {h g : Nat} {head dv : Value} {s : Nat} {all : List Nat} {OD OD1 : Nat → Prop} {u : Value} {xs hs : List Nat} {j : Nat} {x : Value} (m : ZMid W w h g head dv s all OD OD1 u xs hs) (k : isDE w dv OD1) : isDE (w.setCell ⟨g, j, none⟩ x) dv OD1 :=
  isDE_keep _ _ _ _ k (fun b hb => set_heap w ⟨g, j, none⟩ x b (fun e => m.nog ((show b = g from e) ▸ hb)))
theorem ZMid.done {W w w' : World} {h g : Nat} {head dv : Value} {all p : List Nat} {begun : Bool} {OD OD1 : Nat → Prop} {u : Value} {xs hs : List Nat} (m : ZMid W w h g (.slice none 0 0) dv (sumOf all) p OD OD1 u xs hs) (k : isDW w dv all OD1) (hb : Below w.heap.size w w') :
    isZW w' (.pointer (some ⟨h, 0, none⟩)) all true (fun k => k = h ∨ k = g ∨ inBlock (.slice none 0 0) k ∨ OD1 k) := by
  refine isZW_keep (w := w) ⟨h, g, _, dv, OD1, rfl, m.box, m.own, listed_none _ _, fun b hb => absurd hb (not_nilBlock b), k, m.noh, m.nog, m.ne, rfl⟩ hb.size (fun q hq => hb.block q ?_)
  rcases hq with rfl | rfl | hq | hq
  · exact (Array.getElem?_eq_some_iff.1 m.box).1
  · exact (Array.getElem?_eq_some_iff.1 m.own).1
  · exact absurd hq (not_nilBlock q)
  · exact isDW_lt _ _ _ _ k q hq
theorem ZMid.over {W w w' : World} {h g : Nat} {head dv : Value} {s : Nat} {p : List Nat} {OD OD1 : Nat → Prop} {u : Value} {xs hs : List Nat} (m : ZMid W w h g head dv s p OD OD1 u xs hs) (k : isDE w dv OD1) (hb : Below w.heap.size w w') :
    isZE w' (.pointer (some ⟨h, 0, none⟩)) (fun k => k = h ∨ k = g ∨ OD1 k) := by
  refine isZE_keep (w := w) ⟨h, g, head, dv, s, OD1, rfl, m.box, m.own, k, rfl⟩ (fun q hq => hb.block q ?_)
  rcases hq with rfl | rfl | hq
  · exact (Array.getElem?_eq_some_iff.1 m.box).1
  · exact (Array.getElem?_eq_some_iff.1 m.own).1
  · exact isDE_lt _ _ _ k q hq
set_option maxHeartbeats 4000000 in
set_option maxRecDepth 100000 in
theorem zwrite_code (W : World) (v bv : Value) (all zs : List Nat) (begun : Bool) (O : Nat → Prop) (hd : isZW W v all begun O) (hb : bytesIn W bv zs) (h8 : ∀ x ∈ all ++ zs, x < 256) (hbO : ∀ b, inBlock bv b → ¬ O b) (hl : (all ++ zs).length ≤ 100000000) :
    Calls Try.prog 47 #[v, bv] W (ZWrote W O v all zs begun) := by
  obtain ⟨h, g, head, dv, OD, rfl, hh, hg, hhd, hap, hdw, hnh, hng, hne, rfl⟩ := hd
  obtain ⟨va, rfl⟩ := isDW_ptr hdw
  obtain ⟨ho, hc, ehd⟩ := listed_length hhd
  subst ehd
  obtain ⟨bo, bc, ebv⟩ := listed_length hb
  subst ebv
  have KW := write_code W (.pointer va) _ all zs OD hdw hb h8 (fun b hb' ho => hbO b hb' (.inr (.inr (.inr ho)))) hl
  have q0 : W.cell? ⟨h, 0, none⟩ = some (.pointer (some ⟨g, 0, none⟩)) := cell_of_block hh 0
  have q1 : W.cell? ⟨g, 1, none⟩ = some (.func (.func 36) #[.pointer va] #[]) := cell_of_block hg 1
  have hbD : ∀ b, inBlock (.slice bo zs.length bc) b → ¬ OD b := fun b hb' ho => hbO b hb' (.inr (.inr (.inr ho)))
  have HH := Lib.hid hh
  have HG := Lib.hid hg
  have HHD := Lib.hid hhd
  have HAP := Lib.hid hap
  have HNO := Lib.hid (And.intro hnh (And.intro hng hne))
  have HB := Lib.hid hb
  have HBD := Lib.hid hbD
  have HBO := Lib.hid hbO
  have H8 := Lib.hid h8
  have HL := Lib.hid hl
  have HSM := Lib.hid (sumOf_more all zs)
  have bS := sumOf_below all
  have bS2 := sumOf_below (all ++ zs)
  have HDL := Lib.hid (isDW_lt _ _ _ _ hdw)
  obtain ⟨N, eN⟩ : ∃ N, zs.length = N := ⟨_, rfl⟩
  obtain ⟨M, eM⟩ : ∃ N, (headOf begun).length = N := ⟨_, rfl⟩
  rw [eN] at KW HB HBD HBO
  rw [eN]
  rw [eM] at HHD HG HAP
  have HN := Lib.hid eN
  clear hh hg hhd hap hdw hnh hng hne hb hbD hbO h8 hl eN eM
  go_enter Try.func47, Try.ntmps47
  go_wp2_with fail
  go_at_call 36
  refine KW.mono ?_
  clear KW
  rintro e w1 ⟨u, OD1, rfl, j1, j2, j3, j4, j5⟩
  have j1 : bytesIn w1 u (nextOf all zs) := j1
  obtain ⟨uo, uc, eu⟩ := listed_length j1
  have hX := nextOf_length all zs HL.out
  obtain ⟨X, eXX⟩ : ∃ x, nextOf all zs = x := ⟨_, rfl⟩
  have HXX := Lib.hid eXX
  rw [eXX] at j1 eu hX
  clear eXX
  have e1h := (j5.block h (Array.getElem?_eq_some_iff.1 HH.out).1 HNO.out.1).trans HH.out
  have e1g := (j5.block g (Array.getElem?_eq_some_iff.1 HG.out).1 HNO.out.2.1).trans HG.out
  have b1 : bytesIn w1 (.slice bo N bc) zs := listed_past HB.out j5 HBD.out
  have d1 : bytesIn w1 (.slice ho M hc) (headOf begun) := listed_past HHD.out j5 (fun b hb => (HAP.out b hb).1)
  have KA : ∀ w' : World, w'.heap = w1.heap → Calls Try.prog 62 #[.int .u32 (sumOf all : Int), .slice bo N bc] w' fun e w'' => e = .returned (.int .u32 (sumOf (all ++ zs) : Int)) ∧ w'' = w' := fun w' hw => by
    have h := Ad.code (sumOf all) _ zs w' bS (listed_kept b1 (by rw [hw]; exact Nat.le_refl _) (fun b _ => by rw [hw])) (fun x hx => H8.out x (List.mem_append.2 (.inr hx))) (by have := HL.out; rw [List.length_append] at this; omega)
    rw [HSM.out] at h
    exact h.mono fun e w'' ⟨h1, h2⟩ => ⟨h1, h2.symm⟩
  obtain ⟨XL, eX⟩ : ∃ n, X.length = n := ⟨_, rfl⟩
  obtain ⟨S, eS⟩ : ∃ n, sumOf all = n := ⟨_, rfl⟩
  obtain ⟨T, eT⟩ : ∃ n, sumOf (all ++ zs) = n := ⟨_, rfl⟩
  rw [eX] at eu
  subst eu
  rw [eS] at e1g KA bS
  rw [eT] at KA bS2
  rw [eX] at hX
  have p0 : w1.cell? ⟨h, 0, none⟩ = some (.pointer (some ⟨g, 0, none⟩)) := cell_of_block e1h 0
  have p3 : w1.cell? ⟨g, 3, none⟩ = some (.int .u32 (S : Int)) := cell_of_block e1g 3
  have f3 := unfrozen_of_block e1g 3
  have hltg := (Array.getElem?_eq_some_iff.1 HG.out).1
  have hlth := (Array.getElem?_eq_some_iff.1 HH.out).1
  have M1 : Hid (ZMid W w1 h g (.slice ho M hc) (.pointer va) S (all ++ zs) OD OD1 (.slice uo XL uc) X (headOf begun)) := {
    box := e1h
    own := e1g
    hd := d1
    hdF := fun b hb => ⟨fun ho => (j4 b ho).elim (HAP.out b hb).1 (fun h' => by have := inBlock_lt HHD.out hb; omega), (HAP.out b hb).2⟩
    res := j1
    resF := fun b hb => ⟨(j2 b hb).2, fun e => (j2 b hb).1.elim (fun h' => HNO.out.1 (e ▸ h')) (fun h' => by omega), fun e => (j2 b hb).1.elim (fun h' => HNO.out.2.1 (e ▸ h')) (fun h' => by omega)⟩
    noh := fun h' => (j4 _ h').elim HNO.out.1 (fun h2 => by omega)
    nog := fun h' => (j4 _ h').elim HNO.out.2.1 (fun h2 => by omega)
    ne := HNO.out.2.2
    sub := j4
    past := past_more j5 (fun k hk => .inr hk) }
  have J3 := Lib.hid j3
  have HT := Lib.hid eT
  have HXL := Lib.hid eX
  clear j1 j2 j3 j4 j5 b1 d1 eS eT eX e1h q0 q1 e1g hltg hlth
  go_upto_region 6 with fail
  go_wp2_with fail
  refine wp_region_still_tail 15 (by kernel_rfl) (by kernel_rfl) ?_
  simp only [List.take_succ_cons, List.take_zero, List.drop_succ_cons, List.drop_zero]
  repeat still_step
  still_call (KA _ rfl)
  repeat still_step
  refine wpStill_nil ?_
  change wpList _ _ _ _ _ w1.drew
  go_upto_region 7 with fail
  have M2 : Hid (ZMid W (w1.setCell ⟨g, 3, none⟩ (.int .u32 (T : Int))).drew h g (.slice ho M hc) (.pointer va) T (all ++ zs) OD OD1 (.slice uo XL uc) X (headOf begun)) := M1.out.set T
  have J4 : Hid (isDW (w1.setCell ⟨g, 3, none⟩ (.int .u32 (T : Int))).drew (.pointer va) (all ++ zs) OD1) := isDW_keep _ _ _ _ _ (M1.out.dw (w' := w1) J3.out) (Nat.le_refl _) (fun _ _ => rfl)
  obtain ⟨w2, ew2⟩ : ∃ w2, w2 = (w1.setCell ⟨g, 3, none⟩ (.int .u32 (T : Int))).drew := ⟨_, rfl⟩
  rw [← ew2] at M2 J4 ⊢
  clear ew2 p0 p3 f3 KA M1 J3
  have r0 : w2.cell? ⟨h, 0, none⟩ = some (.pointer (some ⟨g, 0, none⟩)) := cell_of_block M2.out.box 0
  have KT := takeHead_code g (.pointer va) ho M hc T w2 M2.out.own
  go_wp2_with fail
  go_at_call 63
  refine KT.mono ?_
  clear KT
  rintro e w3 ⟨rfl, e3⟩
  obtain ⟨m3, h3⟩ := M2.out.take
  have J5 : Hid (isDW w3 (.pointer va) (all ++ zs) OD1) := by
    rw [e3]
    exact M2.out.dw (w' := w2) J4.out
  rw [← e3] at m3 h3
  have M3 := Lib.hid m3
  have H3 := Lib.hid h3
  clear e3 m3 h3 r0 M2 J4
  go_wp2_with fail
  go_at_call 33
  refine (concats_code _ [headOf begun, X] _ (lists_two H3.out M3.out.res) (by
    have := headOf_two begun
    simp only [List.flatten_cons, List.flatten_nil, List.length_append, List.length_nil]
    rw [HXL.out]
    omega) (by simp)).mono ?_
  rintro e w5 ⟨u5, rfl, k1, k2, k3, k4⟩
  have hb5 : Below w3.heap.size w3 w5 := (below_alloc1 w3 _).trans (k3.mono (by show _ ≤ (w3.heap.push _).size; simp))
  have hfr : ∀ b, inBlock u5 b → w3.heap.size ≤ b := fun b hb => Nat.le_trans (by show _ ≤ (w3.heap.push _).size; simp) (k2 b hb)
  obtain ⟨u5o, u5c, eu5⟩ := listed_length k1
  have hfl : [headOf begun, X].flatten = headOf begun ++ nextOf all zs := by
    rw [HXX.out]
    simp
  rw [hfl] at k1 k4
  have hk4 : w5.ownsRow w3.heap.size 5 1 u5 (headOf begun ++ nextOf all zs).length ((headOf begun ++ nextOf all zs).map byteVal) := ownsRow_le k4 (by show _ ≤ (w3.heap.push _).size; simp)
  have HK4 := Lib.hid hk4
  have HK := Lib.hid k1
  have HF := Lib.hid hfr
  have HB5 := Lib.hid hb5
  clear k1 k2 k3 k4 hk4 hfr hb5 hfl
  generalize [headOf begun, X].flatten.length = L5 at *
  subst eu5
  go_wp2_with fail
  refine bodyPost_ret (v := .tuple #[.slice u5o L5 u5c, .int .i64 0]) (by simp [results, Try.results47, asAddr, go_sem]) rfl ?_
  have hT := HT.out
  have hmid := M3.out
  rw [← hT] at hmid
  have hps := hmid.past.size
  refine ⟨_, _, rfl, HK.out, fun b hb => ⟨Nat.le_trans hps (HF.out b hb), fun ho => ?_⟩, hmid.done (begun := begun) (head := .pointer va) J5.out HB5.out, fun b hb => ?_, past_on (past_more hmid.past (fun k hk => hk.elim (fun h' => .inr (.inl h')) (fun h' => .inr (.inr (.inr h'))))) HB5.out, ownsRow_le HK4.out hps, fun b hb ho => ?_⟩
  · have h1 := HF.out b hb
    rcases ho with rfl | rfl | ho | ho
    · have := (Array.getElem?_eq_some_iff.1 hmid.box).1; omega
    · have := (Array.getElem?_eq_some_iff.1 hmid.own).1; omega
    · exact not_nilBlock b ho
    · have := isDW_lt _ _ _ _ J5.out b ho; omega
  · rcases hb with rfl | rfl | hb | hb
    · exact .inl (.inl rfl)
    · exact .inl (.inr (.inl rfl))
    · exact absurd hb (not_nilBlock b)
    · exact (hmid.sub b hb).elim (fun h' => .inl (.inr (.inr (.inr h')))) .inr
  · have h1 := (HK4.out.lt b hb).1
    rcases ho with rfl | rfl | ho | ho
    · have := (Array.getElem?_eq_some_iff.1 hmid.box).1; omega
    · have := (Array.getElem?_eq_some_iff.1 hmid.own).1; omega
    · exact not_nilBlock b ho
    · have := isDW_lt _ _ _ _ J5.out b ho; omega
end Go.Proofs.Ytefdlidjdmlnaaa.Fx
namespace Go.Proofs.Ytefdlidjdmlnaaa.Fx
open Go Go.RowKit Go.Joins
set_option linter.unusedVariables false
/-- A writer that New did not make: none, or one without a stream. -/
def noZW (w : World) (v : Value) : Prop := v = .pointer none ∨ ∃ h, v = .pointer (some ⟨h, 0, none⟩) ∧ w.cell? ⟨h, 0, none⟩ = some (.pointer none)
theorem zend_fin {W w3 w5 : World} {h g : Nat} {head dv : Value} {s : Nat} {all : List Nat} {begun : Bool} {OD OD1 : Nat → Prop} {u v5 : Value} {xs hs : List Nat} {hd0 : Value} (m : ZMid W w3 h g head dv s all OD OD1 u xs hs) (k : isDE w3 dv OD1) (ks : ∀ k, OD1 k → OD k) (h1 : bytesIn w5 v5 (headOf begun ++ restOf all ++ fourOf (sumOf all))) (h2 : ∀ b, inBlock v5 b → w3.heap.size ≤ b) (h3 : Below w3.heap.size w3 w5) :
    ZEnded W (fun k => k = h ∨ k = g ∨ inBlock hd0 k ∨ OD k) (.pointer (some ⟨h, 0, none⟩)) all begun (.returned (.tuple #[v5, .int .i64 0])) w5 := by
  refine ⟨v5, _, rfl, h1, fun b hb => ⟨Nat.le_trans m.past.size (h2 b hb), fun ho => ?_⟩, m.over k h3, fun b hb => ?_, past_on (past_more m.past (fun k hk => hk.elim (fun h' => .inr (.inl h')) (fun h' => .inr (.inr (.inr h'))))) h3⟩
  · have := h2 b hb
    rcases ho with rfl | rfl | ho
    · have := (Array.getElem?_eq_some_iff.1 m.box).1; omega
    · have := (Array.getElem?_eq_some_iff.1 m.own).1; omega
    · have := isDE_lt _ _ _ k b ho; omega
  · rcases hb with rfl | rfl | hb
    · exact .inl rfl
    · exact .inr (.inl rfl)
    · exact .inr (.inr (.inr (ks b hb)))
set_option maxHeartbeats 4000000 in
set_option maxRecDepth 100000 in
theorem zend_code (W : World) (v : Value) (all : List Nat) (begun : Bool) (O : Nat → Prop) (hd : isZW W v all begun O) (h8 : ∀ x ∈ all, x < 256) (hl : all.length ≤ 100000000) :
    Calls Try.prog 49 #[v] W (ZEnded W O v all begun) := by
  obtain ⟨h, g, head, dv, OD, rfl, hh, hg, hhd, hap, hdw, hnh, hng, hne, rfl⟩ := hd
  obtain ⟨va, rfl⟩ := isDW_ptr hdw
  obtain ⟨ho, hc, ehd⟩ := listed_length hhd
  subst ehd
  have KW := end_code W (.pointer va) all OD hdw h8 hl
  have q0 : W.cell? ⟨h, 0, none⟩ = some (.pointer (some ⟨g, 0, none⟩)) := cell_of_block hh 0
  have q1 : W.cell? ⟨g, 2, none⟩ = some (.func (.func 37) #[.pointer va] #[]) := cell_of_block hg 2
  have HH := Lib.hid hh
  have HG := Lib.hid hg
  have HHD := Lib.hid hhd
  have HAP := Lib.hid hap
  have HNO := Lib.hid (And.intro hnh (And.intro hng hne))
  have HL := Lib.hid hl
  have bS := sumOf_below all
  obtain ⟨M, eM⟩ : ∃ N, (headOf begun).length = N := ⟨_, rfl⟩
  rw [eM] at HHD HG HAP
  clear hh hg hhd hap hdw hnh hng hne h8 hl eM
  go_enter Try.func49, Try.ntmps49
  go_wp2_with fail
  go_at_call 37
  refine KW.mono ?_
  clear KW
  rintro e w1 ⟨u, OD1, rfl, j1, j2, j3, j4, j5⟩
  have j1 : bytesIn w1 u (restOf all) := j1
  obtain ⟨uo, uc, eu⟩ := listed_length j1
  have hX := restOf_length all HL.out
  obtain ⟨X, eXX⟩ : ∃ x, restOf all = x := ⟨_, rfl⟩
  have HXX := Lib.hid eXX
  rw [eXX] at j1 eu hX
  clear eXX
  have e1h := (j5.block h (Array.getElem?_eq_some_iff.1 HH.out).1 HNO.out.1).trans HH.out
  have e1g := (j5.block g (Array.getElem?_eq_some_iff.1 HG.out).1 HNO.out.2.1).trans HG.out
  have d1 : bytesIn w1 (.slice ho M hc) (headOf begun) := listed_past HHD.out j5 (fun b hb => (HAP.out b hb).1)
  obtain ⟨XL, eX⟩ : ∃ n, X.length = n := ⟨_, rfl⟩
  obtain ⟨S, eS⟩ : ∃ n, sumOf all = n := ⟨_, rfl⟩
  rw [eX] at eu
  subst eu
  rw [eS] at e1g bS
  rw [eX] at hX
  have p0 : w1.cell? ⟨h, 0, none⟩ = some (.pointer (some ⟨g, 0, none⟩)) := cell_of_block e1h 0
  have p3 : w1.cell? ⟨g, 3, none⟩ = some (.int .u32 (S : Int)) := cell_of_block e1g 3
  have hltg := (Array.getElem?_eq_some_iff.1 HG.out).1
  have hlth := (Array.getElem?_eq_some_iff.1 HH.out).1
  have M1 : Hid (ZMid W w1 h g (.slice ho M hc) (.pointer va) S all OD OD1 (.slice uo XL uc) X (headOf begun)) := {
    box := e1h
    own := e1g
    hd := d1
    hdF := fun b hb => ⟨fun ho => (HAP.out b hb).1 (j4 b ho), (HAP.out b hb).2⟩
    res := j1
    resF := fun b hb => ⟨(j2 b hb).2, fun e => (j2 b hb).1.elim (fun h' => HNO.out.1 (e ▸ h')) (fun h' => by omega), fun e => (j2 b hb).1.elim (fun h' => HNO.out.2.1 (e ▸ h')) (fun h' => by omega)⟩
    noh := fun h' => HNO.out.1 (j4 _ h')
    nog := fun h' => HNO.out.2.1 (j4 _ h')
    ne := HNO.out.2.2
    sub := fun k hk => .inl (j4 k hk)
    past := past_more j5 (fun k hk => .inr hk) }
  have J3 := Lib.hid (And.intro j3 j4)
  have HS := Lib.hid eS
  have HXL := Lib.hid eX
  have KT : Hid (∀ w' : World, w' = w1.drew → Calls Try.prog 63 #[.pointer (some ⟨g, 0, none⟩)] w' fun e w3 => e = .returned (.slice ho M hc) ∧ Hid (ZMid W w3 h g (.slice none 0 0) (.pointer va) S all OD OD1 (.slice uo XL uc) X [] ∧ bytesIn w3 (.slice ho M hc) (headOf begun) ∧ isDE w3 (.pointer va) OD1)) := by
    rintro w' rfl
    have mD : ZMid W w1.drew h g (.slice ho M hc) (.pointer va) S all OD OD1 (.slice uo XL uc) X (headOf begun) := { M1.out with
      hd := listed_kept M1.out.hd (Nat.le_refl _) (fun _ _ => rfl)
      res := listed_kept M1.out.res (Nat.le_refl _) (fun _ _ => rfl)
      past := zpast_drew M1.out.past }
    refine (takeHead_code g (.pointer va) ho M hc S w1.drew mD.own).mono ?_
    rintro e w3 ⟨rfl, rfl⟩
    obtain ⟨m3, h3⟩ := mD.take
    exact ⟨rfl, m3, h3, mD.de (w' := w1) (isDE_keep _ _ _ _ J3.out.1 (fun _ _ => rfl))⟩
  have KC : Hid (∀ (w3 w4 : World) (s4 : Value), ZMid W w3 h g (.slice none 0 0) (.pointer va) S all OD OD1 (.slice uo XL uc) X [] → bytesIn w3 (.slice ho M hc) (headOf begun) → bytesIn w4 s4 (fourOf S) → Below w3.heap.size w3 w4 → Calls Try.prog 33 #[.slice (some ⟨w4.heap.size, 0, none⟩) 3 3] (w4.alloc (.cells #[.slice ho M hc, .slice uo XL uc, s4] 36)) fun e w5 => ∃ o n c, e = .returned (.slice o n c) ∧ Hid (bytesIn w5 (.slice o n c) (headOf begun ++ restOf all ++ fourOf (sumOf all)) ∧ (∀ b, inBlock (.slice o n c) b → w3.heap.size ≤ b) ∧ Below w3.heap.size w3 w5)) := by
    intro w3 w4 s4 m3 h3 hs4 hb4
    refine (concats_code _ [headOf begun, X, fourOf S] _ (lists_three (listed_on h3 hb4) (listed_on m3.res hb4) hs4) (by
      have := headOf_two begun
      simp only [List.flatten_cons, List.flatten_nil, List.length_append, List.length_nil]
      rw [HXL.out, fourOf_length]
      omega) (by simp)).mono ?_
    rintro e w5 ⟨u5, rfl, k1, k2, k3, _⟩
    obtain ⟨o, c, eu5⟩ := listed_length k1
    subst eu5
    have hfl : [headOf begun, X, fourOf S].flatten = headOf begun ++ restOf all ++ fourOf (sumOf all) := by
      rw [HXX.out, HS.out]
      simp
    have hsz := hb4.size
    refine ⟨o, _, c, rfl, by rw [← hfl]; exact k1, fun b hb => ?_, (hb4.trans ((below_alloc1 w4 _).mono hsz)).trans (k3.mono (Nat.le_trans hsz (by show _ ≤ (w4.heap.push _).size; simp)))⟩
    have h1 := k2 b hb
    have h2 : w4.heap.size ≤ (w4.alloc (.cells #[.slice ho M hc, .slice uo XL uc, s4] 36)).heap.size := by show _ ≤ (w4.heap.push _).size; simp
    omega
  have hS0 := Lib.hid (And.intro p0 p3)
  clear j1 j2 j3 j4 j5 d1 eS eX e1h q0 q1 e1g hltg hlth
  go_upto_region 6 with fail
  go_region_held3 (fun w' => w'.cell? ⟨h, 0, none⟩ = some (.pointer (some ⟨g, 0, none⟩)) ∧ w'.cell? ⟨g, 3, none⟩ = some (.int .u32 (S : Int))) (first | exact hS0.out | exact hS3.out | exact hS4.out | exact hS4b.out _ | exact hS5.out) (first | (go_at_call 63; refine (KT.out _ rfl).mono ?_; rintro e w3 ⟨rfl, HM⟩; have hS3 : Hid (w3.cell? ⟨h, 0, none⟩ = some (.pointer (some ⟨g, 0, none⟩)) ∧ w3.cell? ⟨g, 3, none⟩ = some (.int .u32 (S : Int))) := ⟨cell_of_block HM.out.1.box 0, cell_of_block HM.out.1.own 3⟩) | (go_at_call 64; refine (sumBytes_code S _ bS).mono ?_; rintro e w4 ⟨s4, rfl, s1, s2, s3⟩; obtain ⟨s4o, s4c, es4⟩ := listed_length s1; rw [fourOf_length] at es4; subst es4; have HS4 := Lib.hid (And.intro s1 (And.intro s2 s3)); have hS4 : Hid (w4.cell? ⟨h, 0, none⟩ = some (.pointer (some ⟨g, 0, none⟩)) ∧ w4.cell? ⟨g, 3, none⟩ = some (.int .u32 (S : Int))) := ⟨(s3.cell (p := ⟨h, 0, none⟩) (World.block_lt_of_cell? _ ⟨h, 0, none⟩ hS3.out.1)).trans hS3.out.1, (s3.cell (p := ⟨g, 3, none⟩) (World.block_lt_of_cell? _ ⟨g, 3, none⟩ hS3.out.2)).trans hS3.out.2⟩; have hS4b : Hid (∀ c, (w4.alloc c).cell? ⟨h, 0, none⟩ = some (.pointer (some ⟨g, 0, none⟩)) ∧ (w4.alloc c).cell? ⟨g, 3, none⟩ = some (.int .u32 (S : Int))) := fun c => ⟨((below_alloc1 w4 c).cell (p := ⟨h, 0, none⟩) (World.block_lt_of_cell? _ ⟨h, 0, none⟩ hS4.out.1)).trans hS4.out.1, ((below_alloc1 w4 c).cell (p := ⟨g, 3, none⟩) (World.block_lt_of_cell? _ ⟨g, 3, none⟩ hS4.out.2)).trans hS4.out.2⟩; clear s1 s2 s3) | (go_at_call 33; refine (KC.out _ _ _ HM.out.1 HM.out.2.1 HS4.out.1 HS4.out.2.2).mono ?_; rintro e w5 ⟨o5, n5, c5, rfl, HC⟩; have hS5 : Hid (w5.cell? ⟨h, 0, none⟩ = some (.pointer (some ⟨g, 0, none⟩)) ∧ w5.cell? ⟨g, 3, none⟩ = some (.int .u32 (S : Int))) := ⟨(HC.out.2.2.cell (p := ⟨h, 0, none⟩) (World.block_lt_of_cell? _ ⟨h, 0, none⟩ hS3.out.1)).trans hS3.out.1, (HC.out.2.2.cell (p := ⟨g, 3, none⟩) (World.block_lt_of_cell? _ ⟨g, 3, none⟩ hS3.out.2)).trans hS3.out.2⟩))
  all_goals go_wp2_with fail
  all_goals refine bodyPost_ret (v := .tuple #[.slice o5 n5 c5, .int .i64 0]) (by simp [results, Try.results49, asAddr, go_sem]) rfl ?_
  all_goals exact zend_fin HM.out.1 HM.out.2.2 J3.out.2 HC.out.1 HC.out.2.1 HC.out.2.2
theorem noZW_ptr {w : World} {v : Value} (h : noZW w v) : ∃ a, v = .pointer a := by
  rcases h with rfl | ⟨h, rfl, _⟩ <;> exact ⟨_, rfl⟩
theorem zwriteNone_code (W : World) (v bv : Value) (hv : noZW W v) : Calls Try.prog 47 #[v, bv] W fun e w' => e = .returned (.tuple #[.slice none 0 0, .int .i64 1]) ∧ W = w' := by
  rcases hv with rfl | ⟨h, rfl, hh⟩
  · go_enter Try.func47, Try.ntmps47
    go_wp2_with fail
    exact bodyPost_ret (v := .tuple #[.slice none 0 0, .int .i64 1]) (by simp [results, Try.results47, asAddr, go_sem]) rfl ⟨rfl, rfl⟩
  · go_enter Try.func47, Try.ntmps47
    go_wp2_with fail
    exact bodyPost_ret (v := .tuple #[.slice none 0 0, .int .i64 1]) (by simp [results, Try.results47, asAddr, go_sem]) rfl ⟨rfl, rfl⟩
theorem zendNone_code (W : World) (v : Value) (hv : noZW W v) : Calls Try.prog 49 #[v] W fun e w' => e = .returned (.tuple #[.slice none 0 0, .int .i64 1]) ∧ W = w' := by
  rcases hv with rfl | ⟨h, rfl, hh⟩
  · go_enter Try.func49, Try.ntmps49
    go_wp2_with fail
    exact bodyPost_ret (v := .tuple #[.slice none 0 0, .int .i64 1]) (by simp [results, Try.results49, asAddr, go_sem]) rfl ⟨rfl, rfl⟩
  · go_enter Try.func49, Try.ntmps49
    go_wp2_with fail
    exact bodyPost_ret (v := .tuple #[.slice none 0 0, .int .i64 1]) (by simp [results, Try.results49, asAddr, go_sem]) rfl ⟨rfl, rfl⟩
theorem zwriteOver_code (W : World) (v bv : Value) (O : Nat → Prop) (hd : isZE W v O) : Calls Try.prog 47 #[v, bv] W fun e w' => e = .returned (.tuple #[.slice none 0 0, .int .i64 23]) ∧ W = w' := by
  obtain ⟨h, g, head, dv, s, OD, rfl, hh, hg, hde, rfl⟩ := hd
  obtain ⟨va, rfl⟩ := isDE_ptr hde
  have KW := fun bv => writeOver_code W (.pointer va) bv OD hde
  have q0 : W.cell? ⟨h, 0, none⟩ = some (.pointer (some ⟨g, 0, none⟩)) := cell_of_block hh 0
  have q1 : W.cell? ⟨g, 1, none⟩ = some (.func (.func 36) #[.pointer va] #[]) := cell_of_block hg 1
  clear hh hg hde
  go_enter Try.func47, Try.ntmps47
  go_wp2_with fail
  go_at_call 36
  refine (KW _).mono ?_
  rintro e w' ⟨rfl, rfl⟩
  go_wp2_with fail
  exact bodyPost_ret (v := .tuple #[.slice none 0 0, .int .i64 23]) (by simp [results, Try.results47, asAddr, go_sem]) rfl ⟨rfl, rfl⟩
theorem zendOver_code (W : World) (v : Value) (O : Nat → Prop) (hd : isZE W v O) : Calls Try.prog 49 #[v] W fun e w' => e = .returned (.tuple #[.slice none 0 0, .int .i64 23]) ∧ W = w' := by
  obtain ⟨h, g, head, dv, s, OD, rfl, hh, hg, hde, rfl⟩ := hd
  obtain ⟨va, rfl⟩ := isDE_ptr hde
  have KW := endOver_code W (.pointer va) OD hde
  have q0 : W.cell? ⟨h, 0, none⟩ = some (.pointer (some ⟨g, 0, none⟩)) := cell_of_block hh 0
  have q1 : W.cell? ⟨g, 2, none⟩ = some (.func (.func 37) #[.pointer va] #[]) := cell_of_block hg 2
  clear hh hg hde
  go_enter Try.func49, Try.ntmps49
  go_wp2_with fail
  go_at_call 37
  refine KW.mono ?_
  rintro e w' ⟨rfl, rfl⟩
  go_wp2_with fail
  exact bodyPost_ret (v := .tuple #[.slice none 0 0, .int .i64 23]) (by simp [results, Try.results49, asAddr, go_sem]) rfl ⟨rfl, rfl⟩
end Go.Proofs.Ytefdlidjdmlnaaa.Fx
