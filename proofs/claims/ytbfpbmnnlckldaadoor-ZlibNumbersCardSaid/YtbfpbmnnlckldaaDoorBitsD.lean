/-
  What the calls of package bits do, whatever an object's memory looks like: the statements' walks lean on this alone. The conditions stand in each.
-/
import Derived.Laws.BytesArg
import Derived.Test.YtbfpbmnnlckldaaDoorBitsT
namespace Go.Proofs.YtbfpbmnnlckldaaDoor.Fx
open Go Go.RowKit Go.Joins
set_option linter.unusedVariables false
/-- Only blocks of O, and new ones, are other ones. -/
structure Past (O : Nat → Prop) (w w' : World) : Prop where
  os : w'.os = w.os
  tape : w'.tape = w.tape
  output : w'.output = w.output
  size : w.heap.size ≤ w'.heap.size
  block : ∀ k, k < w.heap.size → ¬ O k → w'.heap[k]? = w.heap[k]?
theorem Past.below {O : Nat → Prop} {w w' : World} {B : Nat} (h : Past O w w') (hO : ∀ k, O k → B ≤ k) (hB : B ≤ w.heap.size) : Below B w w' :=
  ⟨h.os, h.tape, h.output, h.size, fun k hk => h.block k (Nat.lt_of_lt_of_le hk hB) (fun ho => by have := hO k ho; omega)⟩
theorem Past.of_below {O : Nat → Prop} {w w' : World} (h : Below w.heap.size w w') : Past O w w' := ⟨h.os, h.tape, h.output, h.size, fun k hk _ => h.block k hk⟩
theorem Past.refl (O : Nat → Prop) (w : World) : Past O w w := ⟨rfl, rfl, rfl, Nat.le_refl _, fun _ _ _ => rfl⟩
theorem Past.trans {O O' : Nat → Prop} {w w' w'' : World} (h : Past O w w') (k : Past O' w' w'') (hO : ∀ b, O' b → O b ∨ w.heap.size ≤ b) : Past O w w'' :=
  ⟨k.os.trans h.os, k.tape.trans h.tape, k.output.trans h.output, Nat.le_trans h.size k.size, fun b hb hn => (k.block b (Nat.lt_of_lt_of_le hb h.size) (fun ho => by rcases hO b ho with h1 | h1; exact hn h1; omega)).trans (h.block b hb hn)⟩
theorem listed_past {α : Type} {c : α → Value} {O : Nat → Prop} {w w' : World} {v : Value} {zs : List α} (h : listed c w v zs) (hp : Past O w w') (hO : ∀ b, inBlock v b → ¬ O b) : listed c w' v zs := by
  refine listed_kept h hp.size (fun b hb => ?_)
  have hlt : b < w.heap.size := by
    obtain ⟨off, n, cap, rfl, hn⟩ := hb
    rcases h with ⟨⟨o, c', h, _⟩, _⟩ | ⟨b', off', cap', h, hlt, _⟩
    · simp only [Value.slice.injEq] at h
      omega
    · simp only [Value.slice.injEq, Option.some.injEq, Addr.mk.injEq] at h
      obtain ⟨⟨rfl, _⟩, _⟩ := h
      exact hlt
  exact hp.block b hlt (hO b hb)
/-- A writer: its bits, how many of its bytes were taken, the blocks that are its own. A reader: its bits, how many were taken. -/
structure Does (isW : World → Value → List Bool → Nat → (Nat → Prop) → Prop) (isR : World → Value → List Bool → Nat → (Nat → Prop) → Prop) : Prop where
  wlt : ∀ w v l t O, isW w v l t O → ∀ k, O k → k < w.heap.size
  wkeep : ∀ w w' v l t O, isW w v l t O → w.heap.size ≤ w'.heap.size → (∀ k, O k → w'.heap[k]? = w.heap[k]?) → isW w' v l t O
  wnew : ∀ w, Calls Tryd.prog 37 #[] w fun e w' => ∃ v O, e = .returned v ∧ isW w' v [] 0 O ∧ (∀ k, O k → w.heap.size ≤ k) ∧ Below w.heap.size w w'
  put : ∀ w v l t O (n k : Nat), isW w v l t O → l.length ≤ 1099511627776 → k ≤ 32 → n < 2 ^ k →
    Calls Tryd.prog 55 #[v, .int .u32 (n : Int), .int .i64 (k : Int)] w fun e w' => ∃ O', e = .returned (.int .i64 0) ∧ isW w' v (l ++ bitsOf n k) t O' ∧ (∀ b, O' b → O b ∨ w.heap.size ≤ b) ∧ Past O w w'
  putBad : ∀ w v l t O (n k : Int), isW w v l t O → 0 ≤ n ∧ n ≤ 4294967295 → -9223372036854775808 ≤ k ∧ k ≤ 9223372036854775807 → (k < 0 ∨ 32 < k ∨ 2 ^ k.toNat ≤ n) →
    Calls Tryd.prog 55 #[v, .int .u32 n, .int .i64 k] w fun e w' => ∃ O', e = .returned (.int .i64 2) ∧ isW w' v l t O' ∧ (∀ b, O' b → O b ∨ w.heap.size ≤ b) ∧ Past O w w'
  align : ∀ w v l t O, isW w v l t O → l.length ≤ 1099511627776 →
    Calls Tryd.prog 43 #[v] w fun e w' => ∃ O', e = .returned (.int .i64 0) ∧ isW w' v (aligned l) t O' ∧ (∀ b, O' b → O b ∨ w.heap.size ≤ b) ∧ Past O w w'
  take : ∀ w v l t O, isW w v l t O → l.length ≤ 1099511627776 → 8 * t ≤ l.length →
    Calls Tryd.prog 42 #[v] w fun e w' => ∃ u O', e = .returned u ∧ bytesIn w' u (bytesAt l t (l.length / 8 - t)) ∧ (∀ b, inBlock u b → (O b ∨ w.heap.size ≤ b) ∧ ¬ O' b) ∧ isW w' v l (l.length / 8) O' ∧ (∀ b, O' b → O b ∨ w.heap.size ≤ b) ∧ Past O w w'
  bits : ∀ w v l t O, isW w v l t O → Calls Tryd.prog 77 #[v] w fun e w' => ∃ O', e = .returned (.int .i64 (l.length : Int)) ∧ isW w' v l t O' ∧ (∀ b, O' b → O b ∨ w.heap.size ≤ b) ∧ Past O w w'
  rlt : ∀ w v l t O, isR w v l t O → ∀ k, O k → k < w.heap.size
  rkeep : ∀ w w' v l t O, isR w v l t O → w.heap.size ≤ w'.heap.size → (∀ k, O k → w'.heap[k]? = w.heap[k]?) → isR w' v l t O
  rnew : ∀ w b zs, bytesIn w b zs → (∀ x ∈ zs, x < 256) → zs.length ≤ 34359738368 →
    Calls Tryd.prog 48 #[b] w fun e w' => ∃ v O, e = .returned v ∧ isR w' v (bitsOfBytes zs) 0 O ∧ (∀ k, O k → w.heap.size ≤ k) ∧ Below w.heap.size w w'
  get : ∀ w v l t O (k : Nat), isR w v l t O → k ≤ 32 → t + k ≤ l.length → l.length ≤ 1099511627776 →
    Calls Tryd.prog 86 #[v, .int .i64 (k : Int)] w fun e w' => ∃ O', e = .returned (.tuple #[.int .u32 (numAt l t k : Nat), .int .i64 0]) ∧ isR w' v l (t + k) O' ∧ (∀ b, O' b → O b ∨ w.heap.size ≤ b) ∧ Past O w w'
  getShort : ∀ w v l t O (k : Nat), isR w v l t O → k ≤ 32 → l.length < t + k → l.length ≤ 1099511627776 →
    Calls Tryd.prog 86 #[v, .int .i64 (k : Int)] w fun e w' => ∃ O', e = .returned (.tuple #[.int .u32 0, .int .i64 12]) ∧ isR w' v l t O' ∧ (∀ b, O' b → O b ∨ w.heap.size ≤ b) ∧ Past O w w'
  getBad : ∀ w v l t O (k : Int), isR w v l t O → -9223372036854775808 ≤ k ∧ k ≤ 9223372036854775807 → (k < 0 ∨ 32 < k) →
    Calls Tryd.prog 86 #[v, .int .i64 k] w fun e w' => ∃ O', e = .returned (.tuple #[.int .u32 0, .int .i64 2]) ∧ isR w' v l t O' ∧ (∀ b, O' b → O b ∨ w.heap.size ≤ b) ∧ Past O w w'
  ralign : ∀ w v l t O, isR w v l t O → l.length ≤ 1099511627776 → t ≤ l.length →
    Calls Tryd.prog 95 #[v] w fun e w' => ∃ O', e = .returned (.int .i64 0) ∧ isR w' v l ((t + 7) / 8 * 8) O' ∧ (∀ b, O' b → O b ∨ w.heap.size ≤ b) ∧ Past O w w'
  place : ∀ w v l t O, isR w v l t O → Calls Tryd.prog 50 #[v] w fun e w' => ∃ O', e = .returned (.int .i64 (t : Int)) ∧ isR w' v l t O' ∧ (∀ b, O' b → O b ∨ w.heap.size ≤ b) ∧ Past O w w'
/-! ### Lists of bytes that are alike -/
def strOf (zs : List Nat) : ByteArray := strOfNums (zs.map fun (n : Nat) => (n : Int))
theorem convert_listed {w : World} {v : Value} {zs : List Nat} (h : bytesIn w v zs) : (convert 24 9 v).run Tryd.prog w = .ok (.string (strOf zs)) w := by
  rcases h with ⟨⟨o, cap, rfl, ho⟩, rfl⟩ | ⟨b, off, cap, rfl, hlt, hle, hc⟩
  · cases o with
    | none => exact run_convert_bytes_nil w 24 5 Tryd.underlying24 Tryd.underlying5 0 cap 9 Tryd.underlying9
    | some a =>
      have hl : (loadCells a 0).run Tryd.prog w = .ok (([] : List Int).map (Value.int .u8)).toArray w := run_loadCells_list (P := Tryd.prog) w a [] (fun j v hj => by simp at hj)
      rw [run_convert_bytes_string w 24 9 5 (some a) 0 cap Tryd.underlying24 Tryd.underlying5 Tryd.underlying9, run_bytesToString w a 0 cap [] hl]
      rfl
  · refine run_convert_bytes_arg w 24 5 Tryd.underlying24 Tryd.underlying5 b off zs.length cap (zs.map fun (n : Nat) => (n : Int)) (by simp) (fun i hi => ?_) 9 Tryd.underlying9
    have := hc i zs[i] (List.getElem?_eq_getElem hi)
    rw [this]
    simp [byteVal, List.getD, hi]
theorem same_listed (p q : Value) (zs : List Nat) (w : World) (hp : bytesIn w p zs) (hq : bytesIn w q zs) :
    Calls Tryd.prog 12 #[p, q] w fun e w' => e = .returned (.bool true) ∧ w = w' := by
  have c1 := convert_listed hp
  have c2 := convert_listed hq
  clear hp hq
  generalize strOf zs = S at *
  go_enter Tryd.func12, Tryd.ntmps12
  go_wp2
  go_ret
  first | exact ⟨rfl, rfl⟩ | simp
end Go.Proofs.YtbfpbmnnlckldaaDoor.Fx
