/-
  What the calls of package bits do, whatever an object's memory looks like: the statements' walks lean on this alone. The conditions stand in each.
-/
import Derived.Laws.BytesArg
import Derived.Test.YtggkmbnogdikkaaBitsT
namespace Go.Proofs.Ytggkmbnogdikkaa.Fx
open Go Go.RowKit Go.Joins
set_option linter.unusedVariables false
/-- Only blocks of O, and new ones, are other ones. -/
structure Past (O : Nat → Prop) (w w' : World) : Prop where
  os : w'.os = w.os
  tape : w'.tape = w.tape
  output : w'.output = w.output
  size : w.heap.size ≤ w'.heap.size
  block : ∀ k, k < w.heap.size → ¬ O k → w'.heap[k]? = w.heap[k]?
theorem Past.below {O : Nat → Prop} {w w' : World} {B : Nat} (h : Past O w w') (hO : ∀ k, O k → B ≤ k) (hB : B ≤ w.heap.size) : Below B w w' :=
  ⟨h.os, h.tape, h.output, h.size, fun k hk => h.block k (Nat.lt_of_lt_of_le hk hB) (fun ho => by have := hO k ho; omega)⟩
theorem Past.of_below {O : Nat → Prop} {w w' : World} (h : Below w.heap.size w w') : Past O w w' := ⟨h.os, h.tape, h.output, h.size, fun k hk _ => h.block k hk⟩
theorem Past.refl (O : Nat → Prop) (w : World) : Past O w w := ⟨rfl, rfl, rfl, Nat.le_refl _, fun _ _ _ => rfl⟩
theorem Past.trans {O O' : Nat → Prop} {w w' w'' : World} (h : Past O w w') (k : Past O' w' w'') (hO : ∀ b, O' b → O b ∨ w.heap.size ≤ b) : Past O w w'' :=
  ⟨k.os.trans h.os, k.tape.trans h.tape, k.output.trans h.output, Nat.le_trans h.size k.size, fun b hb hn => (k.block b (Nat.lt_of_lt_of_le hb h.size) (fun ho => by rcases hO b ho with h1 | h1; exact hn h1; omega)).trans (h.block b hb hn)⟩
theorem listed_past {α : Type} {c : α → Value} {O : Nat → Prop} {w w' : World} {v : Value} {zs : List α} (h : listed c w v zs) (hp : Past O w w') (hO : ∀ b, inBlock v b → ¬ O b) : listed c w' v zs := by
  refine listed_kept h hp.size (fun b hb => ?_)
  have hlt : b < w.heap.size := by
    obtain ⟨off, n, cap, rfl, hn⟩ := hb
    rcases h with ⟨⟨o, c', h, _⟩, _⟩ | ⟨b', off', cap', h, hlt, _⟩
    · simp only [Value.slice.injEq] at h
      omega
    · simp only [Value.slice.injEq, Option.some.injEq, Addr.mk.injEq] at h
      obtain ⟨⟨rfl, _⟩, _⟩ := h
      exact hlt
  exact hp.block b hlt (hO b hb)
/-! ### Lists of bytes that are alike -/
def strOf (zs : List Nat) : ByteArray := strOfNums (zs.map fun (n : Nat) => (n : Int))
theorem convert_listed {w : World} {v : Value} {zs : List Nat} (h : bytesIn w v zs) : (convert 25 9 v).run Try.prog w = .ok (.string (strOf zs)) w := by
  rcases h with ⟨⟨o, cap, rfl, ho⟩, rfl⟩ | ⟨b, off, cap, rfl, hlt, hle, hc⟩
  · cases o with
    | none => exact run_convert_bytes_nil w 25 5 Try.underlying25 Try.underlying5 0 cap 9 Try.underlying9
    | some a =>
      have hl : (loadCells a 0).run Try.prog w = .ok (([] : List Int).map (Value.int .u8)).toArray w := run_loadCells_list (P := Try.prog) w a [] (fun j v hj => by simp at hj)
      rw [run_convert_bytes_string w 25 9 5 (some a) 0 cap Try.underlying25 Try.underlying5 Try.underlying9, run_bytesToString w a 0 cap [] hl]
      rfl
  · refine run_convert_bytes_arg w 25 5 Try.underlying25 Try.underlying5 b off zs.length cap (zs.map fun (n : Nat) => (n : Int)) (by simp) (fun i hi => ?_) 9 Try.underlying9
    have := hc i zs[i] (List.getElem?_eq_getElem hi)
    rw [this]
    simp [byteVal, List.getD, hi]
theorem same_listed (p q : Value) (zs : List Nat) (w : World) (hp : bytesIn w p zs) (hq : bytesIn w q zs) :
    Calls Try.prog 9 #[p, q] w fun e w' => e = .returned (.bool true) ∧ w = w' := by
  have c1 := convert_listed hp
  have c2 := convert_listed hq
  clear hp hq
  generalize strOf zs = S at *
  go_enter Try.func9, Try.ntmps9
  go_wp2
  go_ret
  first | exact ⟨rfl, rfl⟩ | simp
end Go.Proofs.Ytggkmbnogdikkaa.Fx
