/-
  The walk of SumsNumbers. The condition is what both calls do.
-/
import Derived.Test.YtmbbgppmidogbaaSumsStepsWalk
namespace Go.Proofs.Ytmbbgppmidogbaa.Fx
open Go Go.RowKit
set_option linter.unusedVariables false
/-- Some bytes of 255. -/
def longs (n : Nat) : List Nat := List.replicate n 255
theorem longs_length (n : Nat) : (longs n).length = n := List.length_replicate
theorem longs_bytes (n : Nat) : bytes (longs n) := fun b hb => by
  have := List.eq_of_mem_replicate hb
  omega
theorem longs_next (n : Nat) : cells (longs (n + 1)) = cells (longs n) ++ [.int .u8 255] := by
  unfold cells longs
  rw [List.replicate_succ', List.map_append]
  rfl
theorem reads_take {w : World} {b off cap n : Nat} {zs : List Nat} (h : reads w (.slice (some ⟨b, off, none⟩) n cap) zs) (m : Nat) (hm : m ≤ zs.length) : reads w (.slice (some ⟨b, off, none⟩) m cap) (zs.take m) := by
  rcases h with ⟨⟨o, cap', h, _⟩, rfl⟩ | ⟨b', off', cap', h, hle, hlt, hc⟩
  · have hm0 : m = 0 := by simpa using hm
    subst hm0
    exact .inl ⟨⟨_, _, rfl, fun h => by cases h⟩, rfl⟩
  · simp only [Value.slice.injEq, Option.some.injEq, Addr.mk.injEq] at h
    obtain ⟨⟨rfl, rfl, _⟩, _, rfl⟩ := h
    have hl : (zs.take m).length = m := by rw [List.length_take]; omega
    refine .inr ⟨b, off, cap, by rw [hl], by rw [hl]; omega, hlt, fun j hj => ?_⟩
    rw [hl] at hj
    rw [hc j (by omega)]
    simp [List.getD, hj]
theorem slice_to (b off n cap h : Nat) (i : Int) (hi : (h : Int) = i) (hh : h ≤ cap) (hc : 0 < cap) (w : World) :
    (Instr.slice 22 (.slice (some ⟨b, off, none⟩) n cap) none (some (.int .i64 i)) none).run Try.prog w = .ok (.slice (some ⟨b, off, none⟩) h cap) w := by
  subst hi
  have hs : (sizeOf (Try.prog.elem 22)).run Try.prog w = .ok 1 w := by rfl
  rw [run_slice_h w 22 (some ⟨b, off, none⟩) n cap Try.underlying22 .i64 h (by omega) (by omega), hs]
  have hadd : (⟨b, off, none⟩ : Addr).add 0 = ⟨b, off, none⟩ := by unfold Addr.add; split <;> simp_all
  have hne : ¬ cap = 0 := by omega
  simp [sliced, Result.andThen, hadd, hne]
theorem adler_at (D : Does) (s : Nat) (i : Int) (hi : (s : Int) = i) (v : Value) (zs : List Nat) (w : World) (hs : s ≤ 4294967295) (hr : reads w v zs) (h8 : bytes zs) (hl : zs.length ≤ 140737488355328) :
    Calls Try.prog 9 #[.int .u32 i, v] w fun e w' => e = .returned (.int .u32 (adler s zs : Nat)) ∧ Below w.heap.size w w' := by
  subst hi
  exact D.adler s v zs w hs hr h8 hl
theorem crc_at (D : Does) (s : Nat) (i : Int) (hi : (s : Int) = i) (v : Value) (zs : List Nat) (w : World) (hs : s ≤ 4294967295) (hr : reads w v zs) (h8 : bytes zs) (hl : zs.length ≤ 140737488355328) :
    Calls Try.prog 11 #[.int .u32 i, v] w fun e w' => e = .returned (.int .u32 (crc s zs : Nat)) ∧ Below w.heap.size w w' := by
  subst hi
  exact D.crc s v zs w hs hr h8 hl
theorem radler_at (D : Does) (s : Nat) (i : Int) (hi : (s : Int) = i) (v : Value) (zs : List Nat) (w : World) (hs : s ≤ 4294967295) (hr : reads w v zs) (h8 : bytes zs) (hl : zs.length ≤ 140737488355328) :
    Calls Try.prog 10 #[.int .u32 i, v] w fun e w' => e = .returned (.int .u32 (adler s zs : Nat)) ∧ w = w' := by
  subst hi
  exact radler_any s v zs w hs hr h8 hl
theorem rcrc_at (D : Does) (s : Nat) (i : Int) (hi : (s : Int) = i) (v : Value) (zs : List Nat) (w : World) (hs : s ≤ 4294967295) (hr : reads w v zs) (h8 : bytes zs) (hl : zs.length ≤ 140737488355328) :
    Calls Try.prog 12 #[.int .u32 i, v] w fun e w' => e = .returned (.int .u32 (crc s zs : Nat)) ∧ w = w' := by
  subst hi
  exact rcrc_any s v zs w hs hr h8 hl
set_option maxHeartbeats 4000000 in
set_option maxRecDepth 100000 in
theorem numbers_walk (D : Does) (w : World) :
    Calls Try.prog 3 #[] w fun e w' => e = .returned (.bool true) ∧ Below w.heap.size w w' := by
  obtain ⟨i0, hi, hz0, hz1, hz2⟩ := info_parts info8
  go_enter Try.func3, Try.ntmps3
  go_wp2_with fail
  go_loopw [1, 2] (fun v i wr => ∃ k : Nat, k ≤ 20000 ∧ i = .int .i64 k ∧ wr.ownsRow w.heap.size 5 1 v k (cells (longs k)) ∧ Below w.heap.size w wr) (fun _ i _ => 20000 - (intOf i).toNat)
  case atStart => exact ⟨0, Nat.zero_le _, rfl, World.ownsRow_nil _ _ _ _, Below.refl _ _⟩
  case round =>
    obtain ⟨k, hk, rfl, hown, hbl⟩ := hrel
    have hsz := hbl.size
    by_cases hkl : k < 20000
    · have hd : decide ((k : Int) < 20000) = true := decide_eq_true (by omega)
      have HS := Lib.hid (longs_next k)
      go_wp2_with (at_builtin; refine wpList_append_own _ rfl _ _ 22 rfl w.heap.size 5 i0 (.int .u8 0) 1 1 Try.underlying22 hi hz0 hz1 hz2 rfl (by decide) _ _ _ rfl (hown.alloc _) ⟨wr.heap.size, 0, none⟩ 1 1 [.int .u8 255] rfl rfl ?c1 ?c2 ?c3 ?c4 ?c5 ?_)
      case c1 =>
        intro j u hj
        match j, hj with
        | 0, hj => simp at hj; subst hj; simp [Addr.add]
      case c2 => intro u hu; simp at hu; subst hu; rfl
      case c3 => unfold maxLen; omega
      case c4 => omega
      case c5 => simp; omega
      · intro v' w1 hown' hgrow _
        have hb1 : Below w.heap.size w w1 := (hbl.alloc hsz _).grown hgrow (by simp; omega) (fun q hq => (hown.lt q hq).1)
        have hown2 : w1.ownsRow w.heap.size 5 1 v' (k + 1) (cells (longs (k + 1))) := by rw [HS.out]; exact hown'
        clear hown' hgrow hown hbl
        go_wp2
        go_roundw
        case rel => exact ⟨k + 1, by omega, by go_num, hown2, hb1⟩
        case measure => simp [intOf]; omega
    · obtain rfl : k = 20000 := by omega
      have hd : decide ((20000 : Int) < 20000) = false := by decide
      have hru := own_reads hown
      obtain ⟨g, cap, cur, rfl, hg, _, hcap, _, _, _⟩ : ∃ g cap cur, _ := (hown.2.resolve_left (fun h => absurd h.2 (by decide)))
      clear hown
      have hrt := reads_take hru 5552 (by rw [longs_length]; omega)
      have hlz : (longs 20000).length ≤ 140737488355328 := by rw [longs_length]; omega
      have hlt2 : ((longs 20000).take 5552).length ≤ 140737488355328 := by rw [List.length_take]; omega
      have h8 := longs_bytes 20000
      have h82 : bytes ((longs 20000).take 5552) := bytes_take h8 5552
      have hsl := slice_to g 0 20000 cap 5552 5552 rfl (by omega) (by omega)
      have A1 := Lib.hid (fun (w' : World) (hb : Below wr.heap.size wr w') => adler_at D 1 1 rfl _ _ w' (by omega) (reads_on hb hru) h8 hlz)
      have B1 := Lib.hid (fun (w' : World) (hb : Below wr.heap.size wr w') => radler_at D 1 1 rfl _ _ w' (by omega) (reads_on hb hru) h8 hlz)
      have A2 := Lib.hid (fun (w' : World) (hb : Below wr.heap.size wr w') => adler_at D 4294967295 4294967295 rfl _ _ w' (by omega) (reads_on hb hrt) h82 hlt2)
      have B2 := Lib.hid (fun (w' : World) (hb : Below wr.heap.size wr w') => radler_at D 4294967295 4294967295 rfl _ _ w' (by omega) (reads_on hb hrt) h82 hlt2)
      have A3 := Lib.hid (fun (w' : World) => adler_at D 4294967295 4294967295 rfl _ _ w' (by omega) (reads_none w') bytes_none (by decide))
      have B3 := Lib.hid (fun (w' : World) => radler_at D 4294967295 4294967295 rfl _ _ w' (by omega) (reads_none w') bytes_none (by decide))
      have A4 := Lib.hid (fun (w' : World) => crc_at D 4294967295 4294967295 rfl _ _ w' (by omega) (reads_none w') bytes_none (by decide))
      have A5 := Lib.hid (fun (w' : World) (hb : Below wr.heap.size wr w') => crc_at D 0 0 rfl _ _ w' (by omega) (reads_on hb hru) h8 hlz)
      have B5 := Lib.hid (fun (w' : World) (hb : Below wr.heap.size wr w') => rcrc_at D 0 0 rfl _ _ w' (by omega) (reads_on hb hru) h8 hlz)
      rw [crc_nil (show 4294967295 < 4294967296 by decide)] at A4
      have A4 : Hid (∀ w' : World, Calls Try.prog 11 #[.int .u32 4294967295, .slice none 0 0] w' fun e w'' => e = .returned (.int .u32 4294967295) ∧ Below w'.heap.size w' w'') := A4.out
      generalize adler 1 (longs 20000) = R1 at *
      generalize adler 4294967295 ((longs 20000).take 5552) = R2 at *
      generalize adler 4294967295 [] = R3 at *
      generalize crc 0 (longs 20000) = R5 at *
      clear h8 h82 hlz hlt2 hrt hru hk hkl
      have t1 : ((R1 : Int) == (R1 : Int)) = true := by simp
      have t2 : ((R2 : Int) == (R2 : Int)) = true := by simp
      have t3 : ((R3 : Int) == (R3 : Int)) = true := by simp
      have t5 : ((R5 : Int) == (R5 : Int)) = true := by simp
      have hq := Below.refl wr.heap.size wr
      go_wp2_with fail
      go_region_held3 (fun w' => Below wr.heap.size wr w') (first | (with_reducible assumption) | exact Below.drew (by with_reducible assumption) | exact below_keep (by with_reducible assumption) hnew) (first | (go_at_call 9; with_reducible refine (A1.out _ (by with_reducible assumption)).mono ?_; rintro e w' ⟨rfl, hnew⟩) | (go_at_call 9; with_reducible refine (A2.out _ (by with_reducible assumption)).mono ?_; rintro e w' ⟨rfl, hnew⟩) | (go_at_call 9; with_reducible refine (A3.out _).mono ?_; rintro e w' ⟨rfl, hnew⟩) | (go_at_call 10; with_reducible refine (B1.out _ (by with_reducible assumption)).mono ?_; rintro e w' ⟨rfl, rfl⟩) | (go_at_call 10; with_reducible refine (B2.out _ (by with_reducible assumption)).mono ?_; rintro e w' ⟨rfl, rfl⟩) | (go_at_call 10; with_reducible refine (B3.out _).mono ?_; rintro e w' ⟨rfl, rfl⟩) | (go_at_call 11; with_reducible refine (A4.out _).mono ?_; rintro e w' ⟨rfl, hnew⟩) | (go_at_call 11; with_reducible refine (A5.out _ (by with_reducible assumption)).mono ?_; rintro e w' ⟨rfl, hnew⟩) | (go_at_call 12; with_reducible refine (B5.out _ (by with_reducible assumption)).mono ?_; rintro e w' ⟨rfl, rfl⟩) | (go_at_call 13; refine (awake_any D _).mono ?_; rintro e w' ⟨rfl, hnew⟩))
      have hb2 : Below wr.heap.size wr w' := by with_reducible assumption
      go_simp
      go_wp2
      go_ret
      exact ⟨rfl, below_keep hbl hb2⟩
end Go.Proofs.Ytmbbgppmidogbaa.Fx
