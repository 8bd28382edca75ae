/-
  The walk of ZlibHead. The conditions are that the list reads as bytes, and that the order lies as the text lays it.
-/
import Derived.Test.YtbfpbmnnlckldaaDoorZlY
namespace Go.Proofs.YtbfpbmnnlckldaaDoor.Fx
open Go Go.RowKit Go.Joins
set_option linter.unusedVariables false
theorem and15 : ∀ y : Fin 256, bits .and .u8 (y.val : Int) 15 = ((y.val % 16 : Nat) : Int) := by decide +kernel
/-- Two bytes of a row of the call's own are written over. -/
theorem two_set {w : World} {base g n cap : Nat} {x y : Nat} {zs : List Nat} (h : w.ownsRow base 5 1 (.slice (some ⟨g, 0, none⟩) n cap) n ((120 :: 1 :: zs).map byteVal)) :
    bytesIn ((w.setCell ⟨g, 0, none⟩ (.int .u8 (x : Int))).setCell ⟨g, 1, none⟩ (.int .u8 (y : Int))) (.slice (some ⟨g, 0, none⟩) n cap) (x :: y :: zs) := by
  have h1 := World.ownsRow.stored h 0 (.int .u8 (x : Int))
  have h2 := World.ownsRow.stored h1.1 1 (.int .u8 (y : Int))
  exact own_listed (c := byteVal) h2.1
set_option maxHeartbeats 2000000 in
set_option maxRecDepth 100000 in
theorem zhead_main (W : World) (bv : Value) (zs : List Nat) (x y : Nat) (hb : bytesIn W bv zs) (h8 : ∀ z ∈ zs, z < 256) (hlen : zs.length ≤ 300) (hx : x ≤ 255) (hy : y ≤ 255) (hl : LaidOrder W) :
    Calls Tryd.prog 8 #[bv, .int .u8 (x : Int), .int .u8 (y : Int)] W fun e w' => e = .returned (.bool true) ∧ Below W.heap.size W w' := by
  have KS := zstream_code W bv zs hb h8 (by omega)
  obtain ⟨bo, bc, ebv⟩ := listed_length hb
  subst ebv
  obtain ⟨N, eN⟩ : ∃ n, zs.length = n := ⟨_, rfl⟩
  have HN := Lib.hid eN
  have HB := Lib.hid hb
  have H8 := Lib.hid h8
  have HL := Lib.hid hl
  rw [eN] at HB hlen KS ⊢
  have d1 : decide ((300 : Int) < (N : Int)) = false := decide_eq_false (by omega)
  have HTH : Hid (OpenSays (x :: y :: (wholeOf zs ++ fourOf (sumOf zs))) N (if headOk x y then .bytes zs else .fault 10)) := by
    have h := open_head x y zs (fourOf (sumOf zs)) N h8 (by omega)
    rwa [sum_right] at h
  have HM := Lib.hid (streamOf_most zs)
  have HTAIL : Hid (∀ z ∈ wholeOf zs ++ fourOf (sumOf zs), z < 256) := fun z hz => streamOf_bytes zs z (by simp only [streamOf, List.mem_cons]; exact .inr (.inr hz))
  have HST : Hid (streamOf zs = 120 :: 1 :: (wholeOf zs ++ fourOf (sumOf zs))) := rfl
  have ha := and15 ⟨x, by omega⟩
  simp only at ha
  have hs : (x : Int) / 16 = ((x / 16 : Nat) : Int) := by omega
  have h4 := and32 ⟨y, by omega⟩
  simp only at h4
  have hsum : (x : Int) * 256 + (y : Int) = ((256 * x + y : Nat) : Int) := by omega
  have b3 : 256 * x + y ≤ 65535 := by omega
  have HH : Hid (headOk x y = (x % 16 == 8 && decide (x / 16 ≤ 7) && (256 * x + y) % 31 == 0 && y / 32 % 2 == 0)) := rfl
  obtain ⟨a, ea⟩ : ∃ a, x % 16 = a := ⟨_, rfl⟩
  obtain ⟨b, eb⟩ : ∃ a, x / 16 = a := ⟨_, rfl⟩
  obtain ⟨c, ec⟩ : ∃ a, 256 * x + y = a := ⟨_, rfl⟩
  obtain ⟨f, ef⟩ : ∃ a, y / 32 % 2 = a := ⟨_, rfl⟩
  rw [ea] at ha HH
  rw [eb] at hs HH
  rw [ec] at hsum b3 HH
  rw [ef] at h4 HH
  have t3 : (c : Int).tmod 31 = ((c % 31 : Nat) : Int) := by rw [Int.tmod_eq_emod_of_nonneg (by omega)]; omega
  obtain ⟨d, ed⟩ : ∃ a, c % 31 = a := ⟨_, rfl⟩
  rw [ed] at t3 HH
  have ba : a < 16 := by omega
  have bb : b < 16 := by omega
  have bd : d < 31 := by omega
  have w256 : IntKind.i64.wrap ((x : Int) * 256) = (x : Int) * 256 := by rw [IntKind.wrap_i64]; omega
  have wc : IntKind.i64.wrap (c : Int) = (c : Int) := by rw [IntKind.wrap_i64]; omega
  have wsum : IntKind.i64.wrap ((x : Int) * 256 + (y : Int)) = (c : Int) := by rw [IntKind.wrap_i64]; omega
  have hmay : ∀ (P : Prop), ((a = 8 ∧ b ≤ 7 ∧ d = 0 ∧ f = 0 → headOk x y = true → P) ∧ (¬ a = 8 → headOk x y = false → P) ∧ (a = 8 → ¬ b ≤ 7 → headOk x y = false → P) ∧ (a = 8 → b ≤ 7 → ¬ d = 0 → headOk x y = false → P) ∧ (a = 8 → b ≤ 7 → d = 0 → ¬ f = 0 → headOk x y = false → P)) → P := by
    rintro P ⟨p1, p2, p3, p4, p5⟩
    by_cases k1 : a = 8
    · by_cases k2 : b ≤ 7
      · by_cases k3 : d = 0
        · by_cases k4 : f = 0
          · exact p1 ⟨k1, k2, k3, k4⟩ (by rw [HH.out]; simp [k1, k2, k3, k4])
          · exact p5 k1 k2 k3 k4 (by rw [HH.out]; simp [k1, k2, k3, k4])
        · exact p4 k1 k2 k3 (by rw [HH.out]; simp [k3])
      · exact p3 k1 k2 (by rw [HH.out]; simp [k2])
    · exact p2 k1 (by rw [HH.out]; simp [k1])
  have HMAY := Lib.hid hmay
  clear hb h8 hl eN ea eb ec ed ef hmay
  go_enter Tryd.func8, Tryd.ntmps8
  go_wp2_with fail
  go_at_call 21
  refine KS.mono ?_
  clear KS
  rintro e w1 ⟨o1, n1, c1, rfl, HLN, HOW, HB1⟩
  have hn7 : 7 ≤ n1 := by have := HM.out.2; rw [HLN.out] at this; exact this
  have hn8 : n1 ≤ 1000 := by have := HM.out.1; rw [HLN.out, HN.out] at this; omega
  obtain ⟨g, rfl⟩ : ∃ g, o1 = some ⟨g, 0, none⟩ := by
    rcases HOW.out.2 with ⟨h, _⟩ | ⟨g, c, cur, h, _⟩
    · simp only [Value.slice.injEq] at h; omega
    · simp only [Value.slice.injEq] at h; exact ⟨g, h.1⟩
  have q0 : w1.cell? ⟨g, 0, none⟩ = some (byteVal 120) := by
    have := HOW.out.cells (g := g) rfl 0 (byteVal 120) rfl
    simpa [Addr.add] using this
  have q1 : w1.cell? ⟨g, 1, none⟩ = some (byteVal 1) := by
    have := HOW.out.cells (g := g) rfl 1 (byteVal 1) rfl
    simpa [Addr.add] using this
  unfold byteVal at q0 q1
  have f0 : w1.frozen? ⟨g, 0, none⟩ = false := own_unfrozen HOW.out 0
  have f1 : w1.frozen? ⟨g, 1, none⟩ = false := own_unfrozen HOW.out 1
  have hgW : W.heap.size ≤ g := (HOW.out.lt g rfl).1
  have d2 : decide ((n1 : Int) < 2) = false := decide_eq_false (by omega)
  have d2' : decide (n1 < 2) = false := decide_eq_false (by omega)
  have i0 : (0 : Int) < (n1 : Int) := by omega
  have i1 : (1 : Int) < (n1 : Int) := by omega
  go_upto_region 7 with fail
  obtain ⟨w2, ew2⟩ : ∃ w2, w2 = (w1.setCell ⟨g, 0, none⟩ (.int .u8 (x : Int))).setCell ⟨g, 1, none⟩ (.int .u8 (y : Int)) := ⟨_, rfl⟩
  have HROW : Hid (bytesIn w2 (.slice (some ⟨g, 0, none⟩) n1 c1) (x :: y :: (wholeOf zs ++ fourOf (sumOf zs)))) := by
    show bytesIn _ _ _
    rw [ew2]
    have h := HOW.out
    rw [HST.out] at h
    exact two_set h
  have HB2 : Hid (Below W.heap.size W w2) := by
    show Below _ _ _
    rw [ew2]
    exact (HB1.out.setCell (p := ⟨g, 0, none⟩) hgW _).setCell (p := ⟨g, 1, none⟩) hgW _
  rw [← ew2]
  clear ew2 q0 q1 f0 f1 HOW
  have HR8 : Hid (∀ z ∈ x :: y :: (wholeOf zs ++ fourOf (sumOf zs)), z < 256) := fun z hz => by
    rcases List.mem_cons.1 hz with rfl | hz
    · omega
    · rcases List.mem_cons.1 hz with rfl | hz
      · omega
      · exact HTAIL.out z hz
  have HRL : Hid ((x :: y :: (wholeOf zs ++ fourOf (sumOf zs))).length ≤ 1000) := by
    have h := HLN.out
    rw [HST.out] at h
    show _ ≤ _
    simp only [List.length_cons] at h ⊢
    omega
  have HNM : Hid (N ≤ 300) := hlen
  have no : headOk x y = false → Calls Tryd.prog 20 #[.slice (some ⟨g, 0, none⟩) n1 c1, .int .i64 (N : Int)] w2 fun e w' => e = .returned (.tuple #[.slice none 0 0, .int .i64 10]) ∧ Hid (Below w2.heap.size w2 w') := fun h => by
    have ht := HTH.out
    rw [h] at ht
    exact opens_fault w2 _ _ N 10 ht HROW.out HR8.out (by have := HRL.out; omega) (HL.out.below HB2.out) (by have := HNM.out; omega)
  have yes : headOk x y = true → Calls Tryd.prog 20 #[.slice (some ⟨g, 0, none⟩) n1 c1, .int .i64 (N : Int)] w2 fun e w' => ∃ v, e = .returned (.tuple #[v, .int .i64 0]) ∧ Hid (bytesIn w' v zs) ∧ Hid (Below w2.heap.size w2 w') := fun h => by
    have ht := HTH.out
    rw [h, if_pos rfl] at ht
    exact opens_bytes w2 _ _ _ N ht HROW.out HR8.out (by have := HRL.out; omega) (HL.out.below HB2.out) (by have := HNM.out; omega)
  have NO := Lib.hid no
  have YES := Lib.hid yes
  clear no yes
  refine HMAY.out _ ⟨?_, ?_, ?_, ?_, ?_⟩
  · rintro ⟨k1, k2, k3, k4⟩ hh
    have KO := YES.out hh
    clear hh
    have z4 : bits .and .u8 (y : Int) 32 = 0 := by rw [h4, if_pos k4]; rfl
    have e2 : decide ((b : Int) ≤ 7) = true := decide_eq_true (by omega)
    have e2' : decide (b ≤ 7) = true := decide_eq_true k2
    clear h4 k4
    subst k1 k3
    go_wp2_with fail
    go_at_call 20
    refine KO.mono ?_
    rintro e w3 ⟨v, rfl, HV, HB3⟩
    have HB4 : Hid (Below W.heap.size W w3) := HB2.out.trans (HB3.out.mono HB2.out.size)
    clear KO
    go_wp2_with fail
    go_at_call 12
    refine (same_yes v _ zs w3 HV.out (listed_on HB.out HB4.out)).mono ?_
    rintro e w4 ⟨rfl, rfl⟩
    go_wp2_with fail
    go_at_call 15
    refine (zawake_any w3 (HL.out.below HB4.out)).mono ?_
    rintro e w5 ⟨rfl, HB5⟩
    go_wp2_with fail
    go_ret
    exact ⟨rfl, HB4.out.trans (HB5.out.mono HB4.out.size)⟩
  · intro k1 hh
    have KO := NO.out hh
    clear hh h4
    have e1 : ((a : Int) == 8) = false := by simp; omega
    have e1' : decide ((a : Int) = 8) = false := decide_eq_false (by omega)
    have e1'' : decide (a = 8) = false := decide_eq_false k1
    go_wp2_with fail
    go_at_call 20
    refine KO.mono ?_
    rintro e w3 ⟨rfl, HB3⟩
    have HB4 : Hid (Below W.heap.size W w3) := HB2.out.trans (HB3.out.mono HB2.out.size)
    clear KO
    go_wp2_with fail
    go_at_call 15
    refine (zawake_any w3 (HL.out.below HB4.out)).mono ?_
    rintro e w5 ⟨rfl, HB5⟩
    go_wp2_with fail
    go_ret
    exact ⟨rfl, HB4.out.trans (HB5.out.mono HB4.out.size)⟩
  · intro k1 k2 hh
    have KO := NO.out hh
    clear hh h4
    subst k1
    have e2 : decide ((b : Int) ≤ 7) = false := decide_eq_false (by omega)
    have e2' : decide (b ≤ 7) = false := decide_eq_false k2
    go_wp2_with fail
    go_at_call 20
    refine KO.mono ?_
    rintro e w3 ⟨rfl, HB3⟩
    have HB4 : Hid (Below W.heap.size W w3) := HB2.out.trans (HB3.out.mono HB2.out.size)
    clear KO
    go_wp2_with fail
    go_at_call 15
    refine (zawake_any w3 (HL.out.below HB4.out)).mono ?_
    rintro e w5 ⟨rfl, HB5⟩
    go_wp2_with fail
    go_ret
    exact ⟨rfl, HB4.out.trans (HB5.out.mono HB4.out.size)⟩
  · intro k1 k2 k3 hh
    have KO := NO.out hh
    clear hh h4
    subst k1
    have e2 : decide ((b : Int) ≤ 7) = true := decide_eq_true (by omega)
    have e2' : decide (b ≤ 7) = true := decide_eq_true k2
    have e3 : ((d : Int) == 0) = false := by simp; omega
    have e3' : decide ((d : Int) = 0) = false := decide_eq_false (by omega)
    have e3'' : decide (d = 0) = false := decide_eq_false k3
    go_wp2_with fail
    go_at_call 20
    refine KO.mono ?_
    rintro e w3 ⟨rfl, HB3⟩
    have HB4 : Hid (Below W.heap.size W w3) := HB2.out.trans (HB3.out.mono HB2.out.size)
    clear KO
    go_wp2_with fail
    go_at_call 15
    refine (zawake_any w3 (HL.out.below HB4.out)).mono ?_
    rintro e w5 ⟨rfl, HB5⟩
    go_wp2_with fail
    go_ret
    exact ⟨rfl, HB4.out.trans (HB5.out.mono HB4.out.size)⟩
  · intro k1 k2 k3 k4 hh
    have KO := NO.out hh
    have z4 : bits .and .u8 (y : Int) 32 = 32 := by rw [h4, if_neg k4]; rfl
    have e2 : decide ((b : Int) ≤ 7) = true := decide_eq_true (by omega)
    have e2' : decide (b ≤ 7) = true := decide_eq_true k2
    clear hh h4
    subst k1 k3
    go_wp2_with fail
    go_at_call 20
    refine KO.mono ?_
    rintro e w3 ⟨rfl, HB3⟩
    have HB4 : Hid (Below W.heap.size W w3) := HB2.out.trans (HB3.out.mono HB2.out.size)
    clear KO
    go_wp2_with fail
    go_at_call 15
    refine (zawake_any w3 (HL.out.below HB4.out)).mono ?_
    rintro e w5 ⟨rfl, HB5⟩
    go_wp2_with fail
    go_ret
    exact ⟨rfl, HB4.out.trans (HB5.out.mono HB4.out.size)⟩
theorem zhead_law (W : World) (hl : LaidOrder W) (bv : Value) (zs : List Nat) (x y : Nat) (hb : bytesIn W bv zs) (h8 : ∀ z ∈ zs, z < 256) (hx : x ≤ 255) (hy : y ≤ 255) :
    Calls Tryd.prog 8 #[bv, .int .u8 (x : Int), .int .u8 (y : Int)] W fun e w' => e = .returned (.bool true) ∧ Below W.heap.size W w' := by
  by_cases hlen : zs.length ≤ 300
  · exact zhead_main W bv zs x y hb h8 hlen hx hy hl
  · obtain ⟨bo, bc, ebv⟩ := listed_length hb
    subst ebv
    have hd0 : decide ((300 : Int) < (zs.length : Int)) = true := decide_eq_true (by omega)
    clear hb h8 hlen
    generalize zs.length = N at *
    go_enter Tryd.func8, Tryd.ntmps8
    go_wp2_with fail
    go_at_call 15
    refine (zawake_any W hl).mono ?_
    rintro e w9 ⟨rfl, hb9⟩
    go_wp2_with fail
    go_ret
    exact ⟨rfl, hb9.out⟩
end Go.Proofs.YtbfpbmnnlckldaaDoor.Fx
