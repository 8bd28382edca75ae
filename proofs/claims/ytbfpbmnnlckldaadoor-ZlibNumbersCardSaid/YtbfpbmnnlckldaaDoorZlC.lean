/-
  zlib's writer, as landed: New, Write, End; behind End; one that New did not make. The conditions stand in each.
-/
import Derived.Deep.QuietTactic
import Derived.BigQuiet
import Derived.StillTailTactics
import Derived.Deep.RegionHeld3
import Derived.Test.YtbfpbmnnlckldaaDoorZlB
namespace Go.Proofs.YtbfpbmnnlckldaaDoor.Fx
open Go Go.RowKit Go.Joins
set_option linter.unusedVariables false
/-- What has not gone out of the head. -/
def headOf (begun : Bool) : List Nat := if begun then [] else [120, 1]
theorem headOf_two (b : Bool) : (headOf b).length ≤ 2 := by cases b <;> decide
/-- A writer's own block. -/
abbrev streamCells (head dv : Value) (s : Nat) : Array Value := #[head, .func (.func 23) #[dv] #[], .func (.func 24) #[dv] #[], .int .u32 (s : Int)]
/-- A writer: all bytes that were written to it, whether its head went out, in which blocks of memory it lies. -/
def isZW (w : World) (v : Value) (all : List Nat) (begun : Bool) (O : Nat → Prop) : Prop :=
  ∃ h g head dv OD, v = .pointer (some ⟨h, 0, none⟩) ∧ w.heap[h]? = some (.cells #[.pointer (some ⟨g, 0, none⟩)] 47 (0, 0)) ∧ w.heap[g]? = some (.cells (streamCells head dv (sumOf all)) 64 (0, 0)) ∧ bytesIn w head (headOf begun) ∧ (∀ b, inBlock head b → ¬ OD b ∧ b ≠ h ∧ b ≠ g) ∧ isDW w dv all OD ∧ ¬ OD h ∧ ¬ OD g ∧ h ≠ g ∧ O = fun k => k = h ∨ k = g ∨ inBlock head k ∨ OD k
/-- A writer that has ended. -/
def isZE (w : World) (v : Value) (O : Nat → Prop) : Prop :=
  ∃ h g head dv s OD, v = .pointer (some ⟨h, 0, none⟩) ∧ w.heap[h]? = some (.cells #[.pointer (some ⟨g, 0, none⟩)] 47 (0, 0)) ∧ w.heap[g]? = some (.cells (streamCells head dv s) 64 (0, 0)) ∧ isDE w dv OD ∧ O = fun k => k = h ∨ k = g ∨ OD k
theorem isZW_lt {w : World} {v : Value} {all : List Nat} {b : Bool} {O : Nat → Prop} (h : isZW w v all b O) : ∀ k, O k → k < w.heap.size := by
  obtain ⟨h, g, head, dv, OD, _, h1, h2, h3, _, h4, _, _, _, rfl⟩ := h
  rintro k (rfl | rfl | hk | hk)
  · exact (Array.getElem?_eq_some_iff.1 h1).1
  · exact (Array.getElem?_eq_some_iff.1 h2).1
  · exact inBlock_lt h3 hk
  · exact isDW_lt _ _ _ _ h4 k hk
theorem isZE_lt {w : World} {v : Value} {O : Nat → Prop} (h : isZE w v O) : ∀ k, O k → k < w.heap.size := by
  obtain ⟨h, g, head, dv, s, OD, _, h1, h2, h4, rfl⟩ := h
  rintro k (rfl | rfl | hk)
  · exact (Array.getElem?_eq_some_iff.1 h1).1
  · exact (Array.getElem?_eq_some_iff.1 h2).1
  · exact isDE_lt _ _ _ h4 k hk
theorem isZW_keep {w w' : World} {v : Value} {all : List Nat} {b : Bool} {O : Nat → Prop} (h : isZW w v all b O) (hs : w.heap.size ≤ w'.heap.size) (hk : ∀ k, O k → w'.heap[k]? = w.heap[k]?) : isZW w' v all b O := by
  obtain ⟨h, g, head, dv, OD, hv, h1, h2, h3, h5, h4, h6, h7, h8, rfl⟩ := h
  exact ⟨h, g, head, dv, OD, hv, (hk h (.inl rfl)).trans h1, (hk g (.inr (.inl rfl))).trans h2, listed_kept h3 hs (fun q hq => hk q (.inr (.inr (.inl hq)))), h5, isDW_keep _ _ _ _ _ h4 hs (fun q hq => hk q (.inr (.inr (.inr hq)))), h6, h7, h8, rfl⟩
theorem isZE_keep {w w' : World} {v : Value} {O : Nat → Prop} (h : isZE w v O) (hk : ∀ k, O k → w'.heap[k]? = w.heap[k]?) : isZE w' v O := by
  obtain ⟨h, g, head, dv, s, OD, hv, h1, h2, h4, rfl⟩ := h
  exact ⟨h, g, head, dv, s, OD, hv, (hk h (.inl rfl)).trans h1, (hk g (.inr (.inl rfl))).trans h2, isDE_keep _ _ _ _ h4 (fun q hq => hk q (.inr (.inr hq))), rfl⟩
theorem isDW_ptr {w : World} {v : Value} {all : List Nat} {O : Nat → Prop} (h : isDW w v all O) : ∃ a, v = .pointer a := by
  obtain ⟨h, _, _, _, rfl, _⟩ := h
  exact ⟨_, rfl⟩
theorem isDE_ptr {w : World} {v : Value} {O : Nat → Prop} (h : isDE w v O) : ∃ a, v = .pointer a := by
  obtain ⟨h, _, rfl, _⟩ := h
  exact ⟨_, rfl⟩
theorem not_nilBlock (b : Nat) : ¬ inBlock (.slice none 0 0) b := fun hb => by
  obtain ⟨_, _, _, h, _⟩ := hb
  simp at h
theorem make_fn (fn : Fn) (first cap : Array Value) (w : World) : (Instr.makeFunc fn first cap).run Tryd.prog w = .ok (.func fn first cap) w := rfl
theorem three_blocks (W : World) (x y z : Array Value) (tx ty tz : TypeId) : ∃ w1, w1 = ((W.alloc (.cells x tx)).alloc (.cells y ty)).alloc (.cells z tz) ∧ w1.heap[W.heap.size]? = some (.cells x tx (0, 0)) ∧ w1.heap[W.heap.size + 1]? = some (.cells y ty (0, 0)) ∧ w1.heap[W.heap.size + 2]? = some (.cells z tz (0, 0)) ∧ Below W.heap.size W w1 := by
  have hs0 : (W.alloc (.cells x tx)).heap.size = W.heap.size + 1 := by
    show (W.heap.push _).size = _
    simp
  have hs1 : ((W.alloc (.cells x tx)).alloc (.cells y ty)).heap.size = W.heap.size + 2 := by
    show ((W.alloc (.cells x tx)).heap.push _).size = _
    rw [Array.size_push, hs0]
  refine ⟨_, rfl, alloc_old (alloc_old (heap_alloc_new W _)), ?_, ?_, (((Below.refl _ _).alloc (Nat.le_refl _) _).alloc (by rw [hs0]; omega) _).alloc (by rw [hs1]; omega) _⟩
  · rw [← hs0]
    exact alloc_old (heap_alloc_new _ _)
  · rw [← hs1]
    exact heap_alloc_new _ _
theorem zw_new {W w1 : World} {dv : Value} {OD : Nat → Prop} (k1 : isDW w1 dv [] OD) (k2 : ∀ k, OD k → W.heap.size ≤ k) (k3 : Below W.heap.size W w1) (w' : World)
    (e : w' = ((w1.alloc (.cells #[.int .u8 120, .int .u8 1] 5)).alloc (.cells (streamCells (.slice (some ⟨w1.heap.size, 0, none⟩) 2 2) dv 1) 64)).alloc (.cells #[.pointer (some ⟨w1.heap.size + 1, 0, none⟩)] 47)) :
    ∃ O, isZW w' (.pointer (some ⟨w1.heap.size + 2, 0, none⟩)) [] false O ∧ (∀ k, O k → W.heap.size ≤ k) ∧ Below W.heap.size W w' := by
  obtain ⟨w2, e2, b0, b1, b2, hb⟩ := three_blocks w1 #[.int .u8 120, .int .u8 1] (streamCells (.slice (some ⟨w1.heap.size, 0, none⟩) 2 2) dv 1) #[.pointer (some ⟨w1.heap.size + 1, 0, none⟩)] 5 64 47
  rw [← e2] at e
  subst e
  have hs := k3.size
  have hlt := isDW_lt _ _ _ _ k1
  have hin : ∀ b, inBlock (.slice (some ⟨w1.heap.size, 0, none⟩) 2 2) b → b = w1.heap.size := by
    rintro b ⟨off, n, cap, e, _⟩
    simp only [Value.slice.injEq, Option.some.injEq, Addr.mk.injEq] at e
    exact e.1.1.symm
  refine ⟨_, ⟨w1.heap.size + 2, w1.heap.size + 1, .slice (some ⟨w1.heap.size, 0, none⟩) 2 2, dv, OD, rfl, b2, by rw [sumOf_nil]; exact b1, ?_, fun b hb' => ?_, isDW_keep _ _ _ _ _ k1 hb.size (fun k hk => hb.block k (hlt k hk)), fun h => by have := hlt _ h; omega, fun h => by have := hlt _ h; omega, by omega, rfl⟩, ?_, k3.trans (hb.mono hs)⟩
  · refine .inr ⟨w1.heap.size, 0, 2, rfl, (Array.getElem?_eq_some_iff.1 b0).1, Nat.le_refl _, fun j z hj => ?_⟩
    rw [Nat.zero_add, cell_of_block b0 j]
    match j, hj with
    | 0, hj => obtain rfl := Option.some.inj hj; rfl
    | 1, hj => obtain rfl := Option.some.inj hj; rfl
    | j + 2, hj => simp [headOf] at hj
  · have := hin b hb'
    exact ⟨fun h => by have := hlt b h; omega, by omega, by omega⟩
  · rintro k (rfl | rfl | hk | hk)
    · omega
    · omega
    · have := hin k hk; omega
    · exact k2 k hk
set_option maxHeartbeats 2000000 in
set_option maxRecDepth 100000 in
theorem znew_code (W : World) : Calls Tryd.prog 9 #[] W fun e w' => ∃ v O, e = .returned (.pointer v) ∧ isZW w' (.pointer v) [] false O ∧ (∀ k, O k → W.heap.size ≤ k) ∧ Below W.heap.size W w' := by
  have hmf := make_fn
  go_enter Tryd.func9, Tryd.ntmps9
  go_wp2_with fail
  go_at_call 22
  refine (new_code W).mono ?_
  rintro e w1 ⟨dv, OD, rfl, k1, k2, k3⟩
  obtain ⟨va, rfl⟩ := isDW_ptr k1
  have HZ := Lib.hid (zw_new k1 k2 k3)
  clear k1 k2 k3
  go_wp2_with fail
  go_ret
  obtain ⟨O, h1, h2, h3⟩ := HZ.out _ rfl
  exact ⟨_, O, rfl, h1, h2, h3⟩
set_option maxHeartbeats 1000000 in
set_option maxRecDepth 100000 in
theorem takeHead_code (g : Nat) (dv : Value) (o : Option Addr) (n c s : Nat) (w : World) (hg : w.heap[g]? = some (.cells (streamCells (.slice o n c) dv s) 64 (0, 0))) :
    Calls Tryd.prog 27 #[.pointer (some ⟨g, 0, none⟩)] w fun e w' => e = .returned (.slice o n c) ∧ w' = w.setCell ⟨g, 0, none⟩ (.slice none 0 0) := by
  have q0 : w.cell? ⟨g, 0, none⟩ = some (.slice o n c) := cell_of_block hg 0
  have f0 := unfrozen_of_block hg 0
  clear hg
  go_enter Tryd.func27, Tryd.ntmps27
  go_wp2_with fail
  go_ret
  exact ⟨rfl, rfl⟩
theorem lists_two {w : World} {a b : Value} {xs ys : List Nat} (ha : bytesIn w a xs) (hb : bytesIn w b ys) : listsIn (w.alloc (.cells #[a, b] 24)) (.slice (some ⟨w.heap.size, 0, none⟩) 2 2) [xs, ys] := by
  have hn : Below w.heap.size w (w.alloc (.cells #[a, b] 24)) := (Below.refl _ _).alloc (Nat.le_refl _) _
  refine ⟨[a, b], .inr ⟨w.heap.size, 0, 2, rfl, ?_, Nat.le_refl _, fun j z hj => ?_⟩, rfl, fun j u zs h1 h2 => ?_⟩
  · show _ < (w.heap.push _).size
    simp
  · rw [Nat.zero_add, cell_of_block (heap_alloc_new w _) j, ← Array.getElem?_toList]
    exact hj
  · match j, h1, h2 with
    | 0, h1, h2 => obtain rfl := Option.some.inj h1; obtain rfl := Option.some.inj h2; exact listed_on ha hn
    | 1, h1, h2 => obtain rfl := Option.some.inj h1; obtain rfl := Option.some.inj h2; exact listed_on hb hn
    | j + 2, h1, h2 => simp at h1
theorem lists_three {w : World} {a b c : Value} {xs ys zs : List Nat} (ha : bytesIn w a xs) (hb : bytesIn w b ys) (hc : bytesIn w c zs) : listsIn (w.alloc (.cells #[a, b, c] 24)) (.slice (some ⟨w.heap.size, 0, none⟩) 3 3) [xs, ys, zs] := by
  have hn : Below w.heap.size w (w.alloc (.cells #[a, b, c] 24)) := (Below.refl _ _).alloc (Nat.le_refl _) _
  refine ⟨[a, b, c], .inr ⟨w.heap.size, 0, 3, rfl, ?_, Nat.le_refl _, fun j z hj => ?_⟩, rfl, fun j u zs' h1 h2 => ?_⟩
  · show _ < (w.heap.push _).size
    simp
  · rw [Nat.zero_add, cell_of_block (heap_alloc_new w _) j, ← Array.getElem?_toList]
    exact hj
  · match j, h1, h2 with
    | 0, h1, h2 => obtain rfl := Option.some.inj h1; obtain rfl := Option.some.inj h2; exact listed_on ha hn
    | 1, h1, h2 => obtain rfl := Option.some.inj h1; obtain rfl := Option.some.inj h2; exact listed_on hb hn
    | 2, h1, h2 => obtain rfl := Option.some.inj h1; obtain rfl := Option.some.inj h2; exact listed_on hc hn
    | j + 3, h1, h2 => simp at h1
/-- What Write tells behind the head. -/
def nextOf (all zs : List Nat) : List Nat := bytesAt (outOf (all ++ zs)) ((outOf all).length / 8) ((outOf (all ++ zs)).length / 8 - (outOf all).length / 8)
def restOf (all : List Nat) : List Nat := bytesAt (endOf all) ((outOf all).length / 8) ((endOf all).length / 8 - (outOf all).length / 8)
def ZWrote (W : World) (O : Nat → Prop) (v : Value) (all zs : List Nat) (begun : Bool) (e : Ending) (w' : World) : Prop :=
  ∃ u O', e = .returned (.tuple #[u, .int .i64 0]) ∧ bytesIn w' u (headOf begun ++ nextOf all zs) ∧ (∀ b, inBlock u b → W.heap.size ≤ b ∧ ¬ O' b) ∧ isZW w' v (all ++ zs) true O' ∧ (∀ b, O' b → O b ∨ W.heap.size ≤ b) ∧ Past O W w' ∧ w'.ownsRow W.heap.size 5 1 u (headOf begun ++ nextOf all zs).length ((headOf begun ++ nextOf all zs).map byteVal) ∧ (∀ k, u.ownBlock = some k → ¬ O' k)
def ZEnded (W : World) (O : Nat → Prop) (v : Value) (all : List Nat) (begun : Bool) (e : Ending) (w' : World) : Prop :=
  ∃ u O', e = .returned (.tuple #[u, .int .i64 0]) ∧ bytesIn w' u (headOf begun ++ restOf all ++ fourOf (sumOf all)) ∧ (∀ b, inBlock u b → W.heap.size ≤ b ∧ ¬ O' b) ∧ isZE w' v O' ∧ (∀ b, O' b → O b) ∧ Past O W w'
theorem nextOf_length (all zs : List Nat) (h : (all ++ zs).length ≤ 100000000) : (nextOf all zs).length ≤ 200000000 := by
  unfold nextOf
  rw [bytesAt_length]
  have := outOf_len (all ++ zs)
  omega
theorem restOf_length (all : List Nat) (h : all.length ≤ 100000000) : (restOf all).length ≤ 200000000 := by
  unfold restOf
  rw [bytesAt_length]
  have := end_len all
  omega
end Go.Proofs.YtbfpbmnnlckldaaDoor.Fx
