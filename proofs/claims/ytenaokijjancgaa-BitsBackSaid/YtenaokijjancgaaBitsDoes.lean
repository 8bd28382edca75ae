/-
  What the calls of package bits do, as landed. No condition.
-/
import Derived.Test.YtenaokijjancgaaBitsCt
namespace Go.Proofs.Ytenaokijjancgaa.Fx
open Go Go.RowKit Go.Joins
set_option linter.unusedVariables false
theorem does : Does isW isR where
  wlt := isW_lt
  wkeep := isW_keep
  wnew := wnew_any
  put := fun w v l t O n k => put_code w v l t O n k
  putBad := fun w v l t O n k h hn hk hb => putBad_code w v l t O n k h hn hk hb
  align := align_code
  take := take_code
  bits := bits_code
  rlt := isR_lt
  rkeep := isR_keep
  rnew := rnew_code
  get := fun w v l t O k h hk hs hl => get_code w v l t O k h hk hs hl
  getShort := fun w v l t O k h hk hs hl => getShort_code w v l t O k h hk hs hl
  getBad := fun w v l t O k h hk hb => getBad_code w v l t O k h hk hb
  ralign := ralign_code
  place := place_code
theorem bits_same (w : World) (v : Value) (l : List Bool) (t : Nat) (O : Nat → Prop) (h : isW w v l t O) : Calls Try.prog 12 #[v] w fun e w' => e = .returned (.int .i64 (l.length : Int)) ∧ w = w' := by
  obtain ⟨g, g', s, hh, _⟩ := h
  obtain ⟨rfl, h1, h2, h3⟩ := hh
  have q0 := cell_of_block h1 0
  have q1 := cell_of_block h2 1
  clear h1 h2 h3
  generalize l.length = n at *
  go_enter Try.func12, Try.ntmps12
  go_wp2_with fail
  go_ret
  first | exact ⟨rfl, rfl⟩ | simp
theorem at_same (w : World) (v : Value) (l : List Bool) (t : Nat) (O : Nat → Prop) (h : isR w v l t O) : Calls Try.prog 19 #[v] w fun e w' => e = .returned (.int .i64 (t : Int)) ∧ w = w' := by
  obtain ⟨g, g', s, zs, hh, _⟩ := h
  obtain ⟨rfl, h1, h2, h3⟩ := hh
  have q0 := cell_of_block h1 0
  have q1 := cell_of_block h2 1
  clear h1 h2 h3
  go_enter Try.func19, Try.ntmps19
  go_wp2_with fail
  go_ret
  first | exact ⟨rfl, rfl⟩ | simp
end Go.Proofs.Ytenaokijjancgaa.Fx
