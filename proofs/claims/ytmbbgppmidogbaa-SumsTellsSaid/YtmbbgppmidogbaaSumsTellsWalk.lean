/-
  The walk of SumsTells. The conditions are that the numbers are of their kinds and the list reads as bytes.
-/
import Derived.Test.YtmbbgppmidogbaaSumsA
namespace Go.Proofs.Ytmbbgppmidogbaa.Fx
open Go Go.RowKit
set_option linter.unusedVariables false
set_option maxHeartbeats 1000000 in
theorem tells_walk (D : Does) (s : Nat) (v : Value) (zs : List Nat) (hs : s ≤ 4294967295) (W : World) (hr : reads W v zs) (h8 : bytes zs) :
    Calls Try.prog 4 #[.int .u32 (s : Int), v] W fun e w' => e = .returned (.bool true) ∧ Below W.heap.size W w' := by
  have hbl := Below.refl W.heap.size W
  have hlen := len_reads hr
  by_cases hl : zs.length ≤ 4000
  · have hd : decide ((4000 : Int) < (zs.length : Int)) = false := decide_eq_false (by omega)
    have HL := Lib.hid hl
    generalize hn : zs.length = n at *
    have HN := Lib.hid hn
    clear hl hn
    go_enter Try.func4, Try.ntmps4
    go_wp2_with fail
    go_at_call 14
    refine (copy_any v zs W hr (by rw [HN.out]; have := HL.out; omega)).mono ?_
    rintro e w1 ⟨u, rfl, hown, hb9⟩
    replace hbl := hbl.trans (hb9.mono hbl.size); clear hb9
    have hru := own_reads hown
    clear hown
    have hbi := Below.refl w1.heap.size w1
    have hlz : zs.length ≤ 140737488355328 := by rw [HN.out]; have := HL.out; omega
    have t1 : ((crc s zs : Int) == (crc s zs : Int)) = true := by simp
    have t2 : ((adler s zs : Int) == (adler s zs : Int)) = true := by simp
    go_wp2_with (first | (go_at_call 11; refine (D.crc s u zs _ hs (reads_on hbi hru) h8 hlz).mono ?_; rintro e w9 ⟨rfl, hb9⟩; replace hbl := hbl.trans (hb9.mono hbl.size); replace hbi := hbi.trans (hb9.mono hbi.size); clear hb9) | (go_at_call 9; refine (D.adler s u zs _ hs (reads_on hbi hru) h8 hlz).mono ?_; rintro e w9 ⟨rfl, hb9⟩; replace hbl := hbl.trans (hb9.mono hbl.size); replace hbi := hbi.trans (hb9.mono hbi.size); clear hb9) | (go_at_call 12; refine (rcrc_any s v zs _ hs (reads_on hbl hr) h8 hlz).mono ?_; rintro e w9 ⟨rfl, rfl⟩) | (go_at_call 10; refine (radler_any s v zs _ hs (reads_on hbl hr) h8 hlz).mono ?_; rintro e w9 ⟨rfl, rfl⟩) | (go_at_call 15; refine (same_any u v zs _ (reads_on hbi hru) (reads_on hbl hr)).mono ?_; rintro e w9 ⟨rfl, rfl⟩) | (go_at_call 13; refine (awake_any D _).mono ?_; rintro e w9 ⟨rfl, hb9⟩; replace hbl := hbl.trans (hb9.mono hbl.size); replace hbi := hbi.trans (hb9.mono hbi.size); clear hb9))
    go_ret
    exact ⟨rfl, hbl⟩
  · have hd : decide ((4000 : Int) < (zs.length : Int)) = true := decide_eq_true (by omega)
    clear hl
    generalize zs.length = n at *
    go_enter Try.func4, Try.ntmps4
    go_wp2_with (go_at_call 13; refine (awake_any D _).mono ?_; rintro e w9 ⟨rfl, hb9⟩; replace hbl := hbl.trans (hb9.mono hbl.size); clear hb9)
    go_ret
    exact ⟨rfl, hbl⟩
theorem tells_law (D : Does) (W : World) (s : Nat) (v : Value) (zs : List Nat) (hs : s ≤ 4294967295) (hr : reads W v zs) (h8 : bytes zs) (_h : ∀ b off len cap, v = .slice (some ⟨b, off, none⟩) len cap → len ≤ cap) :
    Calls Try.prog 4 #[.int .u32 (s : Int), v] W fun e w' => e = .returned (.bool true) ∧ Below W.heap.size W w' := tells_walk D s v zs hs W hr h8
end Go.Proofs.Ytmbbgppmidogbaa.Fx
