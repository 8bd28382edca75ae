/-
  The walk of ZlibCut. The conditions are that the list reads as bytes, and that the order lies as the text lays it.
-/
import Derived.Test.YtbfpbmnnlckldaaDoorZlY
namespace Go.Proofs.YtbfpbmnnlckldaaDoor.Fx
open Go Go.RowKit Go.Joins
set_option linter.unusedVariables false
set_option maxHeartbeats 2000000 in
set_option maxRecDepth 100000 in
theorem zcut_main (W : World) (bv : Value) (zs : List Nat) (C M : Nat) (hb : bytesIn W bv zs) (h8 : ∀ z ∈ zs, z < 256) (hlen : zs.length ≤ 3000) (hC : C ≤ 65535) (hM : M ≤ 65535) (hl : LaidOrder W) :
    Calls Tryd.prog 7 #[bv, .int .u16 (C : Int), .int .u16 (M : Int)] W fun e w' => e = .returned (.bool true) ∧ Below W.heap.size W w' := by
  have KS := zstream_code W bv zs hb h8 (by omega)
  obtain ⟨bo, bc, ebv⟩ := listed_length hb
  subst ebv
  obtain ⟨N, eN⟩ : ∃ n, zs.length = n := ⟨_, rfl⟩
  have HN := Lib.hid eN
  have HB := Lib.hid hb
  have H8 := Lib.hid h8
  have HL := Lib.hid hl
  rw [eN] at HB hlen KS ⊢
  have d1 : decide ((3000 : Int) < (N : Int)) = false := decide_eq_false (by omega)
  have wC : IntKind.i64.wrap (C : Int) = (C : Int) := by rw [IntKind.wrap_i64]; omega
  have wM : IntKind.i64.wrap (M : Int) = (M : Int) := by rw [IntKind.wrap_i64]; omega
  have wNM : IntKind.i64.wrap ((N : Int) + (M : Int)) = ((N + M : Nat) : Int) := by rw [IntKind.wrap_i64]; omega
  have HM := Lib.hid (streamOf_most zs)
  have HS8 := Lib.hid (streamOf_bytes zs)
  have HCUT : Hid (∀ q, q < (streamOf zs).length → OpenSays ((streamOf zs).take q) N (.fault 12)) := fun q hq => open_cut zs N q h8 (by omega) hq
  have HYES : Hid (OpenSays (streamOf zs) (N + M) (.bytes zs)) := open_back zs (N + M) h8 (by omega)
  have HLESS : Hid (∀ r, r < N → OpenSays (streamOf zs) r (.fault 3)) := fun r hr => open_less zs r h8 (by omega)
  clear hb h8 hl eN
  go_enter Tryd.func7, Tryd.ntmps7
  go_wp2_with fail
  go_at_call 21
  refine KS.mono ?_
  clear KS
  rintro e w1 ⟨o1, n1, c1, rfl, HLN, HOW, HB1⟩
  have hn7 : 7 ≤ n1 := by have := HM.out.2; rw [HLN.out] at this; exact this
  have hn8 : n1 ≤ 10000 := by have := HM.out.1; rw [HLN.out, HN.out] at this; omega
  have HR : Hid (bytesIn w1 (.slice o1 n1 c1) (streamOf zs)) := own_listed HOW.out
  have d2 : decide ((n1 : Int) < 2) = false := decide_eq_false (by omega)
  have d2' : decide (n1 < 2) = false := decide_eq_false (by omega)
  have z1 : ((n1 : Int) == 0) = false := by simp; omega
  have z2 : decide ((n1 : Int) = 0) = false := decide_eq_false (by omega)
  have z3 : decide (n1 = 0) = false := decide_eq_false (by omega)
  obtain ⟨q, eq⟩ : ∃ q, C % n1 = q := ⟨_, rfl⟩
  have hqn : q < n1 := by rw [← eq]; exact Nat.mod_lt _ (by omega)
  have htm : (C : Int).tmod (n1 : Int) = (q : Int) := by
    rw [Int.tmod_eq_emod_of_nonneg (by omega), ← eq]
    omega
  have wq : IntKind.i64.wrap (q : Int) = (q : Int) := by rw [IntKind.wrap_i64]; omega
  obtain ⟨uq, hsq, huq, _⟩ := listed_take bytes_type bytes_one HR.out q (by rw [HLN.out]; omega)
  have HUQ := Lib.hid huq
  have HC := Lib.hid (HCUT.out q (by rw [HLN.out]; exact hqn))
  have HNM : Hid (N + M ≤ 100000) := by show _ ≤ _; omega
  have HN3 : Hid (N ≤ 3000) := hlen
  clear huq eq HOW HCUT
  go_wp2_with fail
  go_at_call 20
  refine (opens_fault w1 uq _ N 12 HC.out HUQ.out (fun z hz => HS8.out z (List.mem_of_mem_take hz)) (by rw [List.length_take, HLN.out]; omega) (HL.out.below HB1.out) (by have := HN3.out; omega)).mono ?_
  rintro e w2 ⟨rfl, HB2'⟩
  have HB2 : Hid (Below W.heap.size W w2) := HB1.out.trans (HB2'.out.mono HB1.out.size)
  have HR2 : Hid (bytesIn w2 (.slice o1 n1 c1) (streamOf zs)) := listed_on HR.out HB2'.out
  clear HB2' hsq HR
  obtain ⟨NM, eNM⟩ : ∃ x, N + M = x := ⟨_, rfl⟩
  rw [eNM] at wNM HYES HNM
  clear eNM
  go_wp2_with fail
  go_at_call 20
  refine (opens_bytes w2 _ _ zs NM HYES.out HR2.out HS8.out (by rw [HLN.out]; omega) (HL.out.below HB2.out) (by have := HNM.out; omega)).mono ?_
  rintro e w3 ⟨v, rfl, HV, HB3'⟩
  have HB3 : Hid (Below W.heap.size W w3) := HB2.out.trans (HB3'.out.mono HB2.out.size)
  have HR3 : Hid (bytesIn w3 (.slice o1 n1 c1) (streamOf zs)) := listed_on HR2.out HB3'.out
  clear HB3' HR2
  go_wp2_with fail
  go_at_call 12
  refine (same_yes v _ zs w3 HV.out (listed_on HB.out HB3.out)).mono ?_
  rintro e w4 ⟨rfl, rfl⟩
  by_cases hN0 : 0 < N
  · have d3 : decide ((0 : Int) < (N : Int)) = true := decide_eq_true (by omega)
    have d3' : decide (0 < N) = true := decide_eq_true hN0
    have y1 : ((N : Int) == 0) = false := by simp; omega
    have y2 : decide ((N : Int) = 0) = false := decide_eq_false (by omega)
    have y3 : decide (N = 0) = false := decide_eq_false (by omega)
    obtain ⟨r, er⟩ : ∃ q, M % N = q := ⟨_, rfl⟩
    have hrn : r < N := by rw [← er]; exact Nat.mod_lt _ (by omega)
    have hrm : (M : Int).tmod (N : Int) = (r : Int) := by
      rw [Int.tmod_eq_emod_of_nonneg (by omega), ← er]
      omega
    have wr : IntKind.i64.wrap (r : Int) = (r : Int) := by rw [IntKind.wrap_i64]; omega
    have HLS := Lib.hid (HLESS.out r hrn)
    have HRN : Hid (r ≤ 3000) := by show _ ≤ _; omega
    clear er
    go_wp2_with fail
    go_at_call 20
    refine (opens_fault w3 _ _ r 3 HLS.out HR3.out HS8.out (by rw [HLN.out]; omega) (HL.out.below HB3.out) (by have := HRN.out; omega)).mono ?_
    rintro e w5 ⟨rfl, HB5'⟩
    have HB5 : Hid (Below W.heap.size W w5) := HB3.out.trans (HB5'.out.mono HB3.out.size)
    clear HB5'
    go_wp2_with fail
    go_at_call 15
    refine (zawake_any w5 (HL.out.below HB5.out)).mono ?_
    rintro e w6 ⟨rfl, HB6⟩
    go_wp2_with fail
    go_ret
    exact ⟨rfl, HB5.out.trans (HB6.out.mono HB5.out.size)⟩
  · have d3 : decide ((0 : Int) < (N : Int)) = false := decide_eq_false (by omega)
    have d3' : decide (0 < N) = false := decide_eq_false hN0
    go_wp2_with fail
    go_at_call 15
    refine (zawake_any w3 (HL.out.below HB3.out)).mono ?_
    rintro e w6 ⟨rfl, HB6⟩
    go_wp2_with fail
    go_ret
    exact ⟨rfl, HB3.out.trans (HB6.out.mono HB3.out.size)⟩
theorem zcut_law (W : World) (hl : LaidOrder W) (bv : Value) (zs : List Nat) (C M : Nat) (hb : bytesIn W bv zs) (h8 : ∀ z ∈ zs, z < 256) (hC : C ≤ 65535) (hM : M ≤ 65535) :
    Calls Tryd.prog 7 #[bv, .int .u16 (C : Int), .int .u16 (M : Int)] W fun e w' => e = .returned (.bool true) ∧ Below W.heap.size W w' := by
  by_cases hlen : zs.length ≤ 3000
  · exact zcut_main W bv zs C M hb h8 hlen hC hM hl
  · obtain ⟨bo, bc, ebv⟩ := listed_length hb
    subst ebv
    have hd0 : decide ((3000 : Int) < (zs.length : Int)) = true := decide_eq_true (by omega)
    clear hb h8 hlen
    generalize zs.length = N at *
    go_enter Tryd.func7, Tryd.ntmps7
    go_wp2_with fail
    go_at_call 15
    refine (zawake_any W hl).mono ?_
    rintro e w9 ⟨rfl, hb9⟩
    go_wp2_with fail
    go_ret
    exact ⟨rfl, hb9.out⟩
end Go.Proofs.YtbfpbmnnlckldaaDoor.Fx
