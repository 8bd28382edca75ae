/-
  A deflate writer, as landed: what it is, what its calls do to a packer. The conditions stand in each.
-/
import Derived.Test.YtbhmjppnhlmefaaDoorWinM
import Derived.Test.YtbhmjppnhlmefaaDoorDeflW
namespace Go.Proofs.YtbhmjppnhlmefaaDoor.Fx
open Go Go.RowKit Go.Joins Go.Maps
set_option linter.unusedVariables false
/-! ### Blocks of a window are blocks of all bytes -/
theorem blockOf_drop (l : List Bool) (b : List Nat) (x a up last : Nat) (hx : x = 0 ∨ 32768 ≤ a) : blockOf l (b.drop x) a up last = blockOf l b (x + a) (x + up) last := by
  unfold blockOf
  have e : ((b.drop x).take up).drop a = (b.take (x + up)).drop (x + a) := by
    apply List.ext_getElem?
    intro i
    simp only [List.getElem?_drop, List.getElem?_take]
    by_cases h : a + i < up
    · rw [if_pos h, if_pos (by omega), Nat.add_assoc]
    · rw [if_neg h, if_neg (by omega)]
  rw [e, tokens_drop b x a up hx]
/-- From which place on the window has the bytes, when J blocks are done. -/
def firstOf (J : Nat) : Nat := 4096 * J - 32768
theorem block_next (all : List Nat) (J : Nat) (h : all.length = 4096 * (J + 1)) : blockOf (blocksOf all J) (all.drop (firstOf J)) ((all.drop (firstOf J)).length - (all.length - 4096 * J)) (all.drop (firstOf J)).length 0 = blocksOf all (J + 1) := by
  have hl : (all.drop (firstOf J)).length = all.length - firstOf J := List.length_drop ..
  have hf : firstOf J ≤ 4096 * J := by unfold firstOf; omega
  rw [hl, blockOf_drop _ _ _ _ _ _ (by unfold firstOf; omega), show firstOf J + (all.length - firstOf J - (all.length - 4096 * J)) = 4096 * J by omega, show firstOf J + (all.length - firstOf J) = 4096 * (J + 1) by omega]
  rfl
theorem block_last (all : List Nat) (J : Nat) (h : 4096 * J ≤ all.length) (l : List Bool) (last : Nat) : blockOf l (all.drop (firstOf J)) ((all.drop (firstOf J)).length - (all.length - 4096 * J)) (all.drop (firstOf J)).length last = blockOf l all (4096 * J) all.length last := by
  have hl : (all.drop (firstOf J)).length = all.length - firstOf J := List.length_drop ..
  have hf : firstOf J ≤ 4096 * J := by unfold firstOf; omega
  rw [hl, blockOf_drop _ _ _ _ _ _ (by unfold firstOf; omega), show firstOf J + (all.length - firstOf J - (all.length - 4096 * J)) = 4096 * J by omega, show firstOf J + (all.length - firstOf J) = all.length by omega]
theorem first_next (all : List Nat) (J : Nat) (h : all.length = 4096 * (J + 1)) : (all.drop (firstOf J)).drop ((all.drop (firstOf J)).length - 32768) = all.drop (firstOf (J + 1)) ∧ firstOf J + ((all.drop (firstOf J)).length - 32768) = firstOf (J + 1) := by
  have e : firstOf J + ((all.drop (firstOf J)).length - 32768) = firstOf (J + 1) := by
    rw [List.length_drop]
    unfold firstOf
    omega
  refine ⟨?_, e⟩
  rw [List.drop_drop, e]
/-! ### A packer since a world -/
def RunP (W : World) (O : Nat → Prop) (g : Nat) (v : Value) (t : Nat) (l : List Bool) (zs : List Nat) (first opn : Nat) (w : World) : Prop :=
  ∃ O', Pack w g v l t zs first opn O' ∧ (∀ b, O' b → O b ∨ W.heap.size ≤ b) ∧ Past O W w
theorem RunP.past {W w : World} {O : Nat → Prop} {g : Nat} {v : Value} {t : Nat} {l : List Bool} {zs : List Nat} {first opn : Nat} (h : RunP W O g v t l zs first opn w) : Past O W w := by
  obtain ⟨_, _, _, h⟩ := h
  exact h
theorem Pack.cells {w : World} {g : Nat} {v : Value} {l : List Bool} {t : Nat} {zs : List Nat} {first opn : Nat} {O : Nat → Prop} (h : Pack w g v l t zs first opn O) : w.cell? ⟨g, 0, none⟩ = some v ∧ w.cell? ⟨g, 5, none⟩ = some (.int .i64 (opn : Int)) ∧ w.cell? ⟨g, 6, none⟩ = some (.bool false) ∧ (∀ j, w.frozen? ⟨g, j, none⟩ = false) ∧ g < w.heap.size := by
  obtain ⟨OB, OK, h1, ⟨s, tv, mb, st, D, hk, _⟩, _⟩ := h
  obtain ⟨q0, q1, q2, q3, q4, q5, q6⟩ := hk.cells
  exact ⟨q0, q5, q6, fun j => unfrozen_of_block hk.blk j, hk.glt⟩
theorem RunP.cells {W w : World} {O : Nat → Prop} {g : Nat} {v : Value} {t : Nat} {l : List Bool} {zs : List Nat} {first opn : Nat} (h : RunP W O g v t l zs first opn w) : w.cell? ⟨g, 0, none⟩ = some v ∧ w.cell? ⟨g, 5, none⟩ = some (.int .i64 (opn : Int)) ∧ w.cell? ⟨g, 6, none⟩ = some (.bool false) ∧ (∀ j, w.frozen? ⟨g, j, none⟩ = false) ∧ g < w.heap.size := by
  obtain ⟨_, h, _⟩ := h
  exact h.cells
theorem RunP.on {W w w' : World} {O : Nat → Prop} {g : Nat} {v : Value} {t : Nat} {l : List Bool} {zs : List Nat} {first opn : Nat} {O1 O2 : Nat → Prop} (h1 : ∀ b, O1 b → O b ∨ W.heap.size ≤ b) (h2 : Past O W w) (k1 : Pack w' g v l t zs first opn O2) (k2 : ∀ b, O2 b → O1 b ∨ w.heap.size ≤ b) (k3 : Past O1 w w') : RunP W O g v t l zs first opn w' :=
  ⟨O2, k1, fun b hb => (k2 b hb).elim (fun h => h1 b h) (fun h => .inr (Nat.le_trans h2.size h)), h2.trans k3 h1⟩
theorem RunP.drew {W w : World} {O : Nat → Prop} {g : Nat} {v : Value} {t : Nat} {l : List Bool} {zs : List Nat} {first opn : Nat} (h : RunP W O g v t l zs first opn w) : RunP W O g v t l zs first opn w.drew := by
  obtain ⟨O1, ⟨OB, OK, h1, h2, h3, h4⟩, k2, k3⟩ := h
  exact ⟨O1, ⟨OB, OK, isW_keep _ _ _ _ _ _ h1 (Nat.le_refl _) (fun _ _ => rfl), isK_keep h2 (fun _ _ => rfl), h3, h4⟩, k2, ⟨k3.os, k3.tape, k3.output, k3.size, k3.block⟩⟩
theorem RunP.block {W w : World} {O : Nat → Prop} {g : Nat} {v : Value} {t : Nat} {l : List Bool} {zs : List Nat} {first opn : Nat} (h : RunP W O g v t l zs first opn w) (last : Nat) (h8 : ∀ x ∈ zs, x < 256) (ho : opn ≤ zs.length) (ho2 : opn ≤ 4096) (hz : zs.length ≤ 65536) (hl : l.length ≤ 1000000000000) (hf : first ≤ 1000000000000) (hlast : last < 2) :
    Calls Tryd.prog 23 #[.pointer (some ⟨g, 0, none⟩), .int .u32 (last : Int)] w fun e w' => e = .returned (.tuple #[]) ∧ RunP W O g v t (blockOf l zs (zs.length - opn) zs.length last) (zs.drop (zs.length - 32768)) (first + (zs.length - 32768)) 0 w' := by
  obtain ⟨O1, k1, k2, k3⟩ := h
  refine (block_code g v l t zs first opn last O1 w k1 h8 ho ho2 hz hl hf hlast).mono ?_
  rintro e w' ⟨rfl, O2, j1, j2, j3⟩
  exact ⟨rfl, RunP.on (l := blockOf l zs (zs.length - opn) zs.length last) k2 k3 j1 j2 j3⟩
theorem RunP.add {W w : World} {O : Nat → Prop} {g : Nat} {v : Value} {t : Nat} {l : List Bool} {zs : List Nat} {first opn : Nat} (h : RunP W O g v t l zs first opn w) (bv : Value) (xs : List Nat) (hb : bytesIn w bv xs) (h8 : ∀ x ∈ zs ++ xs, x < 256) (hbO : ∀ b, inBlock bv b → b < W.heap.size ∧ ¬ O b) (hl : (zs ++ xs).length ≤ 65536) (hf : first ≤ 1099511627776) :
    Calls Tryd.prog 24 #[.pointer (some ⟨g, 1, none⟩), bv] w fun e w' => e = .returned (.tuple #[]) ∧ RunP W O g v t l (zs ++ xs) first opn w' := by
  obtain ⟨O1, ⟨OB, OK, h1, h2, h3, rfl⟩, k2, k3⟩ := h
  refine (add_code g v bv zs xs first opn w OK h2 hb h8 (fun b hb h => (k2 b (.inr h)).elim (hbO b hb).2 (fun h => by have := (hbO b hb).1; omega)) hl hf).mono ?_
  rintro e w' ⟨rfl, O2, j1, j2, j3⟩
  have hlt := isW_lt _ _ _ _ _ h1
  refine ⟨rfl, _, ⟨OB, O2, isW_keep _ _ _ _ _ _ h1 j3.size (fun k hk => j3.block k (hlt k hk) (h3 k hk)), j1, fun k hk hk2 => (j2 k hk2).elim (h3 k hk) (fun h => by have := hlt k hk; omega), rfl⟩, fun b hb => ?_, k3.trans j3 (fun b hb => k2 b (.inr hb))⟩
  rcases hb with hb | hb
  · exact k2 b (.inl hb)
  · rcases j2 b hb with h | h
    · exact k2 b (.inr h)
    · exact .inr (Nat.le_trans k3.size h)
theorem RunP.open_ {W w : World} {O : Nat → Prop} {g : Nat} {v : Value} {t : Nat} {l : List Bool} {zs : List Nat} {first opn : Nat} (h : RunP W O g v t l zs first opn w) (n : Nat) : RunP W O g v t l zs first n (w.setCell ⟨g, 5, none⟩ (.int .i64 (n : Int))) := by
  obtain ⟨O1, ⟨OB, OK, h1, h2, h3, rfl⟩, k2, k3⟩ := h
  have hg := isK_g h2
  have hset : Past OK w (w.setCell ⟨g, 5, none⟩ (.int .i64 (n : Int))) := ⟨rfl, rfl, rfl, by simp, fun k hk hn => Below.heap_setCell _ _ _ k (fun e => hn (by have e : k = g := e; rw [e]; exact hg))⟩
  exact ⟨_, ⟨OB, OK, isW_keep _ _ _ _ _ _ h1 hset.size (fun k hk => hset.block k (isW_lt _ _ _ _ _ h1 k hk) (h3 k hk)), isK_open h2 n, h3, rfl⟩, k2, k3.trans hset (fun b hb => k2 b (.inr hb))⟩
/-! ### A writer's state -/
/-- A packer that has J blocks of all bytes out. -/
def Mid (W : World) (O : Nat → Prop) (g : Nat) (v : Value) (t : Nat) (all : List Nat) (J : Nat) (w : World) : Prop :=
  RunP W O g v t (blocksOf all J) (all.drop (firstOf J)) (firstOf J) (all.length - 4096 * J) w
theorem Mid.block {W w : World} {O : Nat → Prop} {g : Nat} {v : Value} {t : Nat} {all : List Nat} {J : Nat} (h : Mid W O g v t all J w) (h8 : ∀ x ∈ all, x < 256) (hJ : all.length = 4096 * (J + 1)) (hl : all.length ≤ 1000000000) :
    Calls Tryd.prog 23 #[.pointer (some ⟨g, 0, none⟩), .int .u32 0] w fun e w' => e = .returned (.tuple #[]) ∧ Mid W O g v t all (J + 1) w' := by
  have hb := blocksOf_length all J (by omega)
  have hdl : (all.drop (firstOf J)).length = all.length - firstOf J := List.length_drop ..
  have hf : firstOf J = 4096 * J - 32768 := rfl
  refine (RunP.block h 0 (fun x hx => h8 x (List.mem_of_mem_drop hx)) (by rw [hdl]; omega) (by omega) (by rw [hdl]; omega) (by omega) (by omega) (by decide)).mono ?_
  rintro e w' ⟨rfl, k⟩
  obtain ⟨n1, n2⟩ := first_next all J hJ
  rw [block_next all J hJ, n1, n2] at k
  refine ⟨rfl, ?_⟩
  unfold Mid
  rw [show all.length - 4096 * (J + 1) = 0 by omega]
  exact k
theorem Mid.last {W w : World} {O : Nat → Prop} {g : Nat} {v : Value} {t : Nat} {all : List Nat} {J : Nat} (h : Mid W O g v t all J w) (h8 : ∀ x ∈ all, x < 256) (hJ : 4096 * J ≤ all.length) (hJ2 : all.length ≤ 4096 * (J + 1)) (hl : all.length ≤ 1000000000) :
    Calls Tryd.prog 23 #[.pointer (some ⟨g, 0, none⟩), .int .u32 1] w fun e w' => e = .returned (.tuple #[]) ∧ ∃ zs f, RunP W O g v t (blockOf (blocksOf all J) all (4096 * J) all.length 1) zs f 0 w' := by
  have hb := blocksOf_length all J (by omega)
  have hdl : (all.drop (firstOf J)).length = all.length - firstOf J := List.length_drop ..
  have hf : firstOf J = 4096 * J - 32768 := rfl
  refine (RunP.block h 1 (fun x hx => h8 x (List.mem_of_mem_drop hx)) (by rw [hdl]; omega) (by omega) (by rw [hdl]; omega) (by omega) (by omega) (by decide)).mono ?_
  rintro e w' ⟨rfl, k⟩
  rw [block_last all J hJ] at k
  exact ⟨rfl, _, _, k⟩
theorem Mid.add {W w : World} {O : Nat → Prop} {g : Nat} {v : Value} {t : Nat} {all : List Nat} {J : Nat} (h : Mid W O g v t all J w) (bv : Value) (xs : List Nat) (hb : bytesIn w bv xs) (h8 : ∀ x ∈ all ++ xs, x < 256) (hbO : ∀ b, inBlock bv b → b < W.heap.size ∧ ¬ O b) (hJ : 4096 * J ≤ all.length) (hJ2 : all.length + xs.length ≤ 4096 * (J + 1)) (hl : all.length ≤ 1000000000) :
    Calls Tryd.prog 24 #[.pointer (some ⟨g, 1, none⟩), bv] w fun e w' => e = .returned (.tuple #[]) ∧ (w'.cell? ⟨g, 5, none⟩ = some (.int .i64 ((all.length - 4096 * J : Nat) : Int)) ∧ w'.frozen? ⟨g, 5, none⟩ = false) ∧ Past O W w' ∧ Mid W O g v t (all ++ xs) J (w'.setCell ⟨g, 5, none⟩ (.int .i64 (((all ++ xs).length - 4096 * J : Nat) : Int))) := by
  have hf : firstOf J = 4096 * J - 32768 := rfl
  have hd : (all ++ xs).drop (firstOf J) = all.drop (firstOf J) ++ xs := by rw [List.drop_append_of_le_length (by omega)]
  refine (RunP.add h bv xs hb (fun x hx => ?_) hbO ?_ (by omega)).mono ?_
  · rw [← hd] at hx
    exact h8 x (List.mem_of_mem_drop hx)
  · rw [← hd, List.length_drop, List.length_append]
    omega
  · rintro e w' ⟨rfl, k⟩
    obtain ⟨q0, q5, q6, fr, _⟩ := k.cells
    refine ⟨rfl, ⟨q5, fr 5⟩, k.past, ?_⟩
    have := k.open_ ((all ++ xs).length - 4096 * J)
    rw [← hd, ← blocksOf_local all xs J hJ] at this
    exact this
/-- A writer: all bytes that were written to it, in which blocks of memory it lies. -/
def isDW (w : World) (v : Value) (all : List Nat) (O : Nat → Prop) : Prop :=
  ∃ h g ov OP, v = .pointer (some ⟨h, 0, none⟩) ∧ w.heap[h]? = some (.cells #[.pointer (some ⟨g, 0, none⟩)] 59 (0, 0)) ∧ Mid w OP g ov ((outOf all).length / 8) all (fullOf all.length) w ∧ Pack w g ov (outOf all) ((outOf all).length / 8) (all.drop (firstOf (fullOf all.length))) (firstOf (fullOf all.length)) (all.length - 4096 * fullOf all.length) OP ∧ ¬ OP h ∧ O = fun k => k = h ∨ OP k
/-- A writer that has ended. -/
def isDE (w : World) (v : Value) (O : Nat → Prop) : Prop :=
  ∃ h g, v = .pointer (some ⟨h, 0, none⟩) ∧ w.heap[h]? = some (.cells #[.pointer (some ⟨g, 0, none⟩)] 59 (0, 0)) ∧ (∃ cs ty, w.heap[g]? = some (.cells cs ty (0, 0)) ∧ cs[6]? = some (.bool true)) ∧ O = fun k => k = h ∨ k = g
theorem Pack.lt {w : World} {g : Nat} {v : Value} {l : List Bool} {t : Nat} {zs : List Nat} {first opn : Nat} {O : Nat → Prop} (h : Pack w g v l t zs first opn O) : ∀ k, O k → k < w.heap.size := by
  obtain ⟨OB, OK, h1, h2, h3, rfl⟩ := h
  rintro k (hk | hk)
  · exact isW_lt _ _ _ _ _ h1 k hk
  · exact isK_lt h2 k hk
theorem Pack.keep {w w' : World} {g : Nat} {v : Value} {l : List Bool} {t : Nat} {zs : List Nat} {first opn : Nat} {O : Nat → Prop} (h : Pack w g v l t zs first opn O) (hs : w.heap.size ≤ w'.heap.size) (hk : ∀ k, O k → w'.heap[k]? = w.heap[k]?) : Pack w' g v l t zs first opn O := by
  obtain ⟨OB, OK, h1, h2, h3, rfl⟩ := h
  exact ⟨OB, OK, isW_keep _ _ _ _ _ _ h1 hs (fun k h => hk k (.inl h)), isK_keep h2 (fun k h => hk k (.inr h)), h3, rfl⟩
theorem Pack.run {w : World} {g : Nat} {v : Value} {l : List Bool} {t : Nat} {zs : List Nat} {first opn : Nat} {O : Nat → Prop} (h : Pack w g v l t zs first opn O) : RunP w O g v t l zs first opn w := ⟨O, h, fun b hb => .inl hb, Past.refl _ _⟩
theorem isDW_mk {w : World} {h g : Nat} {ov : Value} {all : List Nat} {OP : Nat → Prop} (h1 : w.heap[h]? = some (.cells #[.pointer (some ⟨g, 0, none⟩)] 59 (0, 0))) (h2 : Pack w g ov (outOf all) ((outOf all).length / 8) (all.drop (firstOf (fullOf all.length))) (firstOf (fullOf all.length)) (all.length - 4096 * fullOf all.length) OP) (h3 : ¬ OP h) : isDW w (.pointer (some ⟨h, 0, none⟩)) all (fun k => k = h ∨ OP k) :=
  ⟨h, g, ov, OP, rfl, h1, h2.run, h2, h3, rfl⟩
theorem isDW_lt (w : World) (v : Value) (all : List Nat) (O : Nat → Prop) (h : isDW w v all O) : ∀ k, O k → k < w.heap.size := by
  obtain ⟨h, g, ov, OP, _, h1, _, h2, _, rfl⟩ := h
  rintro k (rfl | hk)
  · exact (Array.getElem?_eq_some_iff.1 h1).1
  · exact h2.lt k hk
theorem isDW_keep (w w' : World) (v : Value) (all : List Nat) (O : Nat → Prop) (h : isDW w v all O) (hs : w.heap.size ≤ w'.heap.size) (hk : ∀ k, O k → w'.heap[k]? = w.heap[k]?) : isDW w' v all O := by
  obtain ⟨h, g, ov, OP, rfl, h1, _, h2, h3, rfl⟩ := h
  exact isDW_mk ((hk h (.inl rfl)).trans h1) (h2.keep hs (fun k hk' => hk k (.inr hk'))) h3
theorem isDE_lt (w : World) (v : Value) (O : Nat → Prop) (h : isDE w v O) : ∀ k, O k → k < w.heap.size := by
  obtain ⟨h, g, _, h1, ⟨cs, ty, h2, _⟩, rfl⟩ := h
  rintro k (rfl | rfl)
  · exact (Array.getElem?_eq_some_iff.1 h1).1
  · exact (Array.getElem?_eq_some_iff.1 h2).1
theorem isDE_keep (w w' : World) (v : Value) (O : Nat → Prop) (h : isDE w v O) (hk : ∀ k, O k → w'.heap[k]? = w.heap[k]?) : isDE w' v O := by
  obtain ⟨h, g, hv, h1, ⟨cs, ty, h2, h3⟩, rfl⟩ := h
  exact ⟨h, g, hv, (hk h (.inl rfl)).trans h1, ⟨cs, ty, (hk g (.inr rfl)).trans h2, h3⟩, rfl⟩
end Go.Proofs.YtbhmjppnhlmefaaDoor.Fx
