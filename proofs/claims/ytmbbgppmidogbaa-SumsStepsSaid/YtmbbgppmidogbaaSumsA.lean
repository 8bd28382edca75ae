/-
  The examples that each statement asks (awake). The condition is what both calls do.
-/
import Derived.Test.YtmbbgppmidogbaaSumsL
namespace Go.Proofs.Ytmbbgppmidogbaa.Fx
open Go Go.RowKit
set_option linter.unusedVariables false
theorem reads_new (w : World) (zs : List Nat) (t : TypeId) (fr : Nat × Nat) (cap : Nat) (hle : zs.length ≤ cap) : reads (w.alloc (.cells (cells zs).toArray t fr)) (.slice (some ⟨w.heap.size, 0, none⟩) zs.length cap) zs := by
  refine .inr ⟨w.heap.size, 0, cap, rfl, hle, ?_, fun j hj => ?_⟩
  · show w.heap.size < (w.heap.push _).size
    simp
  · rw [Nat.zero_add, World.cell?_alloc_mark]
    rw [List.getElem?_toArray]
    exact cells_get zs j hj
theorem reads_none (w : World) : reads w (.slice none 0 0) [] := .inl ⟨⟨none, 0, rfl, fun _ => rfl⟩, rfl⟩
theorem bytes_none : bytes [] := fun b hb => by cases hb
theorem crc_nine (D : Does) (w : World) : Calls Try.prog 11 #[.int .u32 0, .slice (some ⟨w.heap.size, 0, none⟩) 9 9] (w.alloc (.cells #[.int .u8 49, .int .u8 50, .int .u8 51, .int .u8 52, .int .u8 53, .int .u8 54, .int .u8 55, .int .u8 56, .int .u8 57] 5 (9, 10))) fun e w' => e = .returned (.int .u32 3421780262) ∧ Below w.heap.size w w' := by
  have h := D.crc 0 _ _ _ (by omega) (reads_new w [49, 50, 51, 52, 53, 54, 55, 56, 57] 5 (9, 10) 9 (by decide)) (by unfold bytes; decide) (by decide)
  rw [crc_example] at h
  exact h.mono fun e w' ⟨he, hb⟩ => ⟨he, ((Below.refl w.heap.size w).alloc (Nat.le_refl _) _).trans (hb.mono (by show _ ≤ (w.heap.push _).size; simp))⟩
theorem adler_nine (D : Does) (w : World) : Calls Try.prog 9 #[.int .u32 1, .slice (some ⟨w.heap.size, 0, none⟩) 9 9] (w.alloc (.cells #[.int .u8 87, .int .u8 105, .int .u8 107, .int .u8 105, .int .u8 112, .int .u8 101, .int .u8 100, .int .u8 105, .int .u8 97] 5 (9, 10))) fun e w' => e = .returned (.int .u32 300286872) ∧ Below w.heap.size w w' := by
  have h := D.adler 1 _ _ _ (by omega) (reads_new w [87, 105, 107, 105, 112, 101, 100, 105, 97] 5 (9, 10) 9 (by decide)) (by unfold bytes; decide) (by decide)
  rw [adler_example] at h
  exact h.mono fun e w' ⟨he, hb⟩ => ⟨he, ((Below.refl w.heap.size w).alloc (Nat.le_refl _) _).trans (hb.mono (by show _ ≤ (w.heap.push _).size; simp))⟩
theorem crc_empty (D : Does) (w : World) : Calls Try.prog 11 #[.int .u32 0, .slice none 0 0] w fun e w' => e = .returned (.int .u32 0) ∧ Below w.heap.size w w' := by
  have h := D.crc 0 _ _ w (by omega) (reads_none w) bytes_none (by decide)
  rw [empty_example.1] at h
  exact h
theorem adler_empty (D : Does) (w : World) : Calls Try.prog 9 #[.int .u32 1, .slice none 0 0] w fun e w' => e = .returned (.int .u32 1) ∧ Below w.heap.size w w' := by
  have h := D.adler 1 _ _ w (by omega) (reads_none w) bytes_none (by decide)
  rw [empty_example.2] at h
  exact h
set_option maxHeartbeats 1000000 in
theorem awake_any (D : Does) (w : World) :
    Calls Try.prog 13 #[] w fun e w' => e = .returned (.bool true) ∧ Below w.heap.size w w' := by
  have kc := fun (w : World) (C : Array Value) (n c : Nat) => Lib.run_convert_bytes_const (P := Try.prog) w 22 5 C n c Try.underlying22 Try.underlying5
  go_enter Try.func13, Try.ntmps13
  go_wp2_with fail
  go_at_call 11
  refine (crc_nine D w).mono ?_
  rintro e w1 ⟨rfl, hb⟩
  go_wp2_with fail
  go_at_call 11
  refine (crc_empty D w1).mono ?_
  rintro e w2 ⟨rfl, hb2⟩
  replace hb := hb.trans (hb2.mono hb.size)
  clear hb2
  go_wp2_with fail
  go_at_call 9
  refine (adler_nine D w2).mono ?_
  rintro e w3 ⟨rfl, hb2⟩
  replace hb := hb.trans (hb2.mono hb.size)
  clear hb2
  go_wp2_with fail
  go_at_call 9
  refine (adler_empty D w3).mono ?_
  rintro e w4 ⟨rfl, hb2⟩
  replace hb := hb.trans (hb2.mono hb.size)
  clear hb2
  go_wp2
  go_ret
  exact ⟨rfl, hb⟩
end Go.Proofs.Ytmbbgppmidogbaa.Fx
