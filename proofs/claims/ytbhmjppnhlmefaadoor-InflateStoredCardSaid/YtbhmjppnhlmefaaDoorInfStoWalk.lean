/-
  The walk of InflateStored. The conditions are that the list reads as lists of bytes, and that the order lies as the text lays it.
-/
import Derived.Test.YtbhmjppnhlmefaaDoorInfZ
import Derived.Test.YtbhmjppnhlmefaaDoorInfS
import Derived.Test.YtbhmjppnhlmefaaDoorInfCutWalk
namespace Go.Proofs.YtbhmjppnhlmefaaDoor.Fx
open Go Go.RowKit Go.Joins
set_option linter.unusedVariables false
set_option maxHeartbeats 4000000 in
set_option maxRecDepth 100000 in
theorem sto_main (W : World) (lo : Option Addr) (lc N : Nat) (us : List Value) (zss : List (List Nat)) (hus : listed (fun u : Value => u) W (.slice lo N lc) us) (hN : us.length = N) (hul : us.length = zss.length) (hel : ∀ (j : Nat) (u : Value) (zs : List Nat), us[j]? = some u → zss[j]? = some zs → bytesIn W u zs) (h8 : ∀ zs ∈ zss, ∀ x ∈ zs, x < 256) (hlen : N ≤ 20) (hl : LaidOrder W) :
    Calls Tryd.prog 5 #[.slice lo N lc] W fun e w' => e = .returned (.bool true) ∧ Below W.heap.size W w' := by
  have HP := Lib.hid (piece_at hus hN hul hel)
  have H8 := Lib.hid h8
  have HL := Lib.hid hl
  have HNZ : Hid (zss.length = N) := hul.symm.trans hN
  have d0 : decide ((20 : Int) < (N : Int)) = false := decide_eq_false (by omega)
  clear hus hN hul hel h8 hl
  go_enter Tryd.func5, Tryd.ntmps5
  go_wp2_with fail
  go_loopw [3, 4, 5] (fun bv av i wr => ∃ k : Nat, k ≤ N ∧ i = .int .i64 k ∧ Hid (∀ z ∈ zss.take k, z.length ≤ 300) ∧ Hid (Two W bv av (stoAll (zss.take k)) (zss.take k).flatten wr)) (fun _ _ i _ => N - (intOf i).toNat)
  case atStart => exact ⟨0, Nat.zero_le _, rfl, fun z hz => by simp at hz, two_start W⟩
  case round =>
    obtain ⟨k, hk, rfl, HZ, HT⟩ := hrel
    have HBW : Hid (Below W.heap.size W wr) := HT.out.2.2.2.2
    by_cases hkl : k < N
    · have d1 : decide ((k : Int) < (N : Int)) = true := decide_eq_true (by omega)
      have d1' : decide (k < N) = true := decide_eq_true hkl
      obtain ⟨b, off, uo, uc, zs, elo, hblt, hcell, hzs, hget⟩ := HP.out k hkl
      subst elo
      obtain ⟨L, eL⟩ : ∃ L, zs.length = L := ⟨_, rfl⟩
      rw [eL] at hcell hzs
      have HEL := Lib.hid eL
      have HS := Lib.hid hzs
      have HG := Lib.hid hget
      have HC := Lib.hid hcell
      have HLT : Hid (b < W.heap.size) := hblt
      have hcr := (HBW.out.cell (p := ⟨b, off + k, none⟩) hblt).trans hcell
      clear eL hzs hget hcell
      by_cases hL : L ≤ 300
      · have d3 : decide ((300 : Int) < (L : Int)) = false := decide_eq_false (by omega)
        have d3' : decide (300 < L) = false := decide_eq_false (by omega)
        obtain ⟨A, eA⟩ : ∃ A, L % 256 = A := ⟨_, rfl⟩
        obtain ⟨B, eB⟩ : ∃ B, L / 256 = B := ⟨_, rfl⟩
        have hA : A < 256 := by omega
        have hB : B < 256 := by omega
        have wA : IntKind.u8.wrap (L : Int) = (A : Int) := by
          simp [IntKind.wrap, IntKind.signed, IntKind.bits]
          omega
        have wB : IntKind.u8.wrap ((L : Int) / 256) = (B : Int) := by
          simp [IntKind.wrap, IntKind.signed, IntKind.bits]
          omega
        have xA : bits .xor .u8 (if IntKind.u8.signed = true then -1 else IntKind.u8.max) (A : Int) = ((255 - A : Nat) : Int) := not8 A hA
        have xB : bits .xor .u8 (if IntKind.u8.signed = true then -1 else IntKind.u8.max) (B : Int) = ((255 - B : Nat) : Int) := not8 B hB
        have HE : Hid (stoHead 0 zs.length = [0, A, B, 255 - A, 255 - B]) := by
          show _ = _
          unfold stoHead
          rw [HEL.out, eA, eB]
        obtain ⟨C, eC⟩ : ∃ C, 255 - A = C := ⟨_, rfl⟩
        obtain ⟨D, eD⟩ : ∃ D, 255 - B = D := ⟨_, rfl⟩
        rw [eC] at xA HE
        rw [eD] at xB HE
        have HLS : Hid ((zss.take k).flatten.length ≤ 300 * 20 ∧ (stoAll (zss.take k)).length ≤ 305 * 20) := by
          have h := sto_len (zss.take k) HZ.out
          rw [List.length_take] at h
          have : min k zss.length ≤ 20 := by omega
          refine ⟨?_, ?_⟩ <;> omega
        have HST := Lib.hid (sto_take zss k zs HG.out)
        clear eA eB eC eD hA hB
        go_wp2_with (at_builtin; refine wpList_append_to (c := byteVal) rfl _ _ 22 rfl 5 (.int .u8 0) 1 Tryd.underlying22 infoByte rfl (fun _ => rfl) u3 (stoAll (zss.take k)).length (stoAll (zss.take k)) rfl (two_alloc HT.out _).1 (.slice (some ⟨wr.heap.size, 0, none⟩) 5 5) [0, A, B, C, D] rfl (row_new (w := wr) (vals := #[.int .u8 0, .int .u8 (A : Int), .int .u8 (B : Int), .int .u8 (C : Int), .int .u8 (D : Int)]) (zs := [0, A, B, C, D]) (n := 5) (.inl rfl) rfl rfl).1 (by have := HLS.out; simp only [List.length_cons, List.length_nil]; unfold maxLen; omega) (by have := HLS.out; simp only [List.length_cons, List.length_nil]; omega) ?_)
        intro bv2 w2 j1 j2 j3
        have HT2 : Hid (Two W bv2 u4 (stoAll (zss.take k) ++ [0, A, B, C, D]) (zss.take k).flatten w2) := two_first (two_alloc HT.out _) List.length_append.symm (by simpa using j1) j2 (fun k hk => (j3 k hk).elim .inl (fun h => .inr (by simpa using h)))
        have HC2 : w2.cell? ⟨b, off + k, none⟩ = some (.slice uo L uc) := (HT2.out.2.2.2.2.cell (p := ⟨b, off + k, none⟩) HLT.out).trans HC.out
        have HS2 : Hid (bytesIn w2 (.slice uo L uc) zs) := listed_on HS.out HT2.out.2.2.2.2
        clear j1 j2 j3 hcr
        go_wp2_with (at_builtin; refine wpList_append_to (c := byteVal) rfl _ _ 22 rfl 5 (.int .u8 0) 1 Tryd.underlying22 infoByte rfl (fun _ => rfl) bv2 _ (stoAll (zss.take k) ++ [0, A, B, C, D]) rfl HT2.out.1 (.slice uo L uc) zs rfl HS2.out (by have := HLS.out; have := HEL.out; simp only [List.length_append, List.length_cons, List.length_nil]; unfold maxLen; omega) (by have := HLS.out; have := HEL.out; simp only [List.length_append, List.length_cons, List.length_nil]; omega) ?_)
        intro bv3 w3 j1 j2 j3
        have HT3 : Hid (Two W bv3 u4 (stoAll (zss.take k) ++ [0, A, B, C, D] ++ zs) (zss.take k).flatten w3) := two_first HT2.out List.length_append.symm (by simpa using j1) j2 (fun k hk => (j3 k hk).elim .inl (fun h => .inr (by simpa using h)))
        have HC3 : w3.cell? ⟨b, off + k, none⟩ = some (.slice uo L uc) := (HT3.out.2.2.2.2.cell (p := ⟨b, off + k, none⟩) HLT.out).trans HC.out
        have HS3 : Hid (bytesIn w3 (.slice uo L uc) zs) := listed_on HS.out HT3.out.2.2.2.2
        clear j1 j2 j3 HC2
        go_wp2_with (at_builtin; refine wpList_append_to (c := byteVal) rfl _ _ 22 rfl 5 (.int .u8 0) 1 Tryd.underlying22 infoByte rfl (fun _ => rfl) u4 _ (zss.take k).flatten rfl HT3.out.2.1 (.slice uo L uc) zs rfl HS3.out (by have := HLS.out; have := HEL.out; unfold maxLen; omega) (by have := HLS.out; have := HEL.out; omega) ?_)
        intro av4 w4 j1 j2 j3
        have HT4 : Hid (Two W bv3 av4 (stoAll (zss.take (k + 1))) (zss.take (k + 1)).flatten w4) := by
          have h := two_second HT3.out List.length_append.symm (by simpa using j1) j2 (fun k hk => (j3 k hk).elim .inl (fun h => .inr (by simpa using h)))
          rw [List.append_assoc, ← HE.out, ← HST.out.1, ← HST.out.2] at h
          exact h
        have HZ4 : Hid (∀ z ∈ zss.take (k + 1), z.length ≤ 300) := by
          intro z hz
          rw [List.take_add_one, HG.out] at hz
          rcases List.mem_append.1 hz with h | h
          · exact HZ.out z h
          · simp at h
            subst h
            rw [HEL.out]
            exact hL
        clear j1 j2 j3 HC3
        go_wp2_with fail
        go_roundw
        case rel => exact ⟨k + 1, by omega, by go_num, HZ4, HT4⟩
        case measure => simp [intOf]; omega
      · have d3 : decide ((300 : Int) < (L : Int)) = true := decide_eq_true (by omega)
        have d3' : decide (300 < L) = true := decide_eq_true (by omega)
        go_wp2_with fail
        go_at_call 7
        refine (awakeInf_any wr (HL.out.below HBW.out)).mono ?_
        rintro e w9 ⟨rfl, hb9⟩
        have HB9 : Hid (Below W.heap.size W w9) := HBW.out.trans (hb9.mono HBW.out.size)
        clear hb9
        go_wp2_with fail
        go_ret
        exact ⟨rfl, HB9.out⟩
    · have d1 : decide ((k : Int) < (N : Int)) = false := decide_eq_false (by omega)
      have d1' : decide (k < N) = false := decide_eq_false hkl
      have hT : zss.take k = zss := List.take_of_length_le (by rw [HNZ.out]; omega)
      rw [hT] at HZ HT
      have HZ8 : Hid (∀ z ∈ zss, z.length ≤ 300 ∧ ∀ x ∈ z, x < 256) := fun z hz => ⟨HZ.out z hz, H8.out z hz⟩
      have HLS : Hid (zss.flatten.length ≤ 300 * 20 ∧ (stoAll zss).length ≤ 305 * 20) := by
        have h := sto_len zss HZ.out
        rw [HNZ.out] at h
        refine ⟨?_, ?_⟩ <;> omega
      clear hT
      go_wp2_with (at_builtin; refine wpList_append_to (c := byteVal) rfl _ _ 22 rfl 5 (.int .u8 0) 1 Tryd.underlying22 infoByte rfl (fun _ => rfl) u3 _ (stoAll zss) rfl (two_alloc HT.out _).1 (.slice (some ⟨wr.heap.size, 0, none⟩) 5 5) (stoHead 1 0) rfl (row_new (w := wr) (vals := #[.int .u8 1, .int .u8 0, .int .u8 0, .int .u8 255, .int .u8 255]) (zs := stoHead 1 0) (n := 5) (.inl rfl) rfl rfl).1 (by have := HLS.out; have : (stoHead 1 0).length = 5 := rfl; unfold maxLen; omega) (by have := HLS.out; have : (stoHead 1 0).length = 5 := rfl; omega) ?_)
      intro bv2 w2 j1 j2 j3
      have ht2 : Two W bv2 u4 (stoAll zss ++ stoHead 1 0) zss.flatten w2 := two_first (two_alloc HT.out _) List.length_append.symm (by simpa using j1) j2 (fun k hk => (j3 k hk).elim .inl (fun h => .inr (by simpa using h)))
      obtain ⟨T, eT⟩ : ∃ T, zss.flatten.length = T := ⟨_, rfl⟩
      obtain ⟨K, eK⟩ : ∃ K, (stoAll zss ++ stoHead 1 0).length = K := ⟨_, rfl⟩
      have hK : K ≤ 10000 := by
        have := HLS.out
        have e5 : (stoHead 1 0).length = 5 := rfl
        rw [List.length_append, e5] at eK
        omega
      have hT : T ≤ 6000 := by have := HLS.out; omega
      obtain ⟨bo2, bc2, eb2⟩ := row_shape ht2.1
      obtain ⟨ao2, ac2, ea2⟩ := row_shape ht2.2.1
      rw [eK] at eb2
      rw [eT] at ea2
      subst eb2 ea2
      have HBB : Hid (bytesIn w2 (.slice bo2 K bc2) (stoAll zss ++ stoHead 1 0)) := own_listed (c := byteVal) ht2.1
      have HAA : Hid (bytesIn w2 (.slice ao2 T ac2) zss.flatten) := own_listed (c := byteVal) ht2.2.1
      have HB2 : Hid (Below W.heap.size W w2) := ht2.2.2.2.2
      have HKK := Lib.hid eK
      have HTT := Lib.hid eT
      clear j1 j2 j3 ht2 eK eT
      go_wp2_with fail
      go_at_call 13
      refine (infl_any w2 _ (stoAll zss ++ stoHead 1 0) T HBB.out (sto_low zss HZ8.out) (by rw [HKK.out]; omega) (HL.out.below HB2.out) (by omega)).mono ?_
      rintro e w3 h3
      have hsay := stored_told zss HZ8.out
      rw [HTT.out, HKK.out] at hsay
      obtain ⟨out, rfl, hout, hb3⟩ := told_row hsay h3
      have hq : (8 * K + 7) / 8 = K := by omega
      simp only at hout ⊢
      rw [hq]
      have HOUT := Lib.hid hout
      have HB3 : Hid (Below W.heap.size W w3) := HB2.out.trans (hb3.mono HB2.out.size)
      have HAA3 : Hid (bytesIn w3 (.slice ao2 T ac2) zss.flatten) := listed_on HAA.out hb3
      clear h3 hsay hout hb3 hq
      go_wp2_with fail
      go_at_call 14
      refine (same_yes out _ zss.flatten w3 HOUT.out HAA3.out).mono ?_
      rintro e w4 ⟨rfl, rfl⟩
      go_wp2_with fail
      go_at_call 7
      refine (awakeInf_any w3 (HL.out.below HB3.out)).mono ?_
      rintro e w9 ⟨rfl, hb9⟩
      have HB9 : Hid (Below W.heap.size W w9) := HB3.out.trans (hb9.mono HB3.out.size)
      clear hb9
      go_wp2_with fail
      go_ret
      exact ⟨rfl, HB9.out⟩
theorem sto_law (W : World) (hl : LaidOrder W) (lv : Value) (zss : List (List Nat)) (hr : listsIn W lv zss) (h8 : ∀ zs ∈ zss, ∀ x ∈ zs, x < 256) :
    Calls Tryd.prog 5 #[lv] W fun e w' => e = .returned (.bool true) ∧ Below W.heap.size W w' := by
  obtain ⟨us, hus, hul, hel⟩ := hr
  obtain ⟨lo, lc, elv⟩ := listed_length hus
  subst elv
  by_cases hlen : us.length ≤ 20
  · exact sto_main W lo lc us.length us zss hus rfl hul hel h8 hlen hl
  · have d0 : decide ((20 : Int) < (us.length : Int)) = true := decide_eq_true (by omega)
    clear hus hul hel h8 hlen
    generalize us.length = N at *
    go_enter Tryd.func5, Tryd.ntmps5
    go_wp2_with fail
    go_at_call 7
    refine (awakeInf_any W hl).mono ?_
    rintro e w9 ⟨rfl, hb9⟩
    go_wp2_with fail
    go_ret
    exact ⟨rfl, hb9⟩
end Go.Proofs.YtbhmjppnhlmefaaDoor.Fx
