/-
  The walk of ZlibTells. The conditions are that the argument reads as lists of bytes, and that the order lies as the text lays it.
-/
import Derived.Test.YtbfpbmnnlckldaaDoorZlU
namespace Go.Proofs.YtbfpbmnnlckldaaDoor.Fx
open Go Go.RowKit Go.Joins
set_option linter.unusedVariables false
set_option maxHeartbeats 8000000 in
set_option maxRecDepth 100000 in
theorem ztells_law (W : World) (hl : LaidOrder W) (lv : Value) (zss : List (List Nat)) (hr : listsIn W lv zss) (h8 : ∀ zs ∈ zss, ∀ x ∈ zs, x < 256) :
    Calls Tryd.prog 4 #[lv] W fun e w' => e = .returned (.bool true) ∧ Below W.heap.size W w' := by
  obtain ⟨lo, lc, rfl⟩ : ∃ o c, lv = .slice o zss.length c := by
    obtain ⟨us, hus, hul, _⟩ := hr
    obtain ⟨o, c, e⟩ := listed_length hus
    exact ⟨o, c, by rw [e, hul]⟩
  have HG := Lib.hid (lists_get hr).2
  have H8 := Lib.hid h8
  have HLA := Lib.hid hl
  obtain ⟨N, eN⟩ : ∃ n, zss.length = n := ⟨_, rfl⟩
  rw [eN] at HG ⊢
  clear hr h8 hl eN
  go_enter Tryd.func4, Tryd.ntmps4
  go_wp2_with fail
  go_at_call 9
  refine (znew_code W).mono ?_
  rintro e w1 ⟨va, O1, rfl, k1, k2, k3⟩
  have hts := ztell_start k1 k2 k3
  clear k1 k2 k3
  go_upto_region 3 with fail
  obtain ⟨w2, ew2⟩ : ∃ x, x = w1.alloc (.cells #[.slice none 0 0, .int .i64 0, .slice none 0 0, .int .i64 0, .bool false, .bool false] 40) := ⟨_, rfl⟩
  unfold zzero at hts
  rw [← ew2] at hts ⊢
  obtain ⟨g, eg⟩ : ∃ g, w1.heap.size = g := ⟨_, rfl⟩
  rw [eg] at hts ⊢
  have HTS := Lib.hid hts
  clear hts ew2 eg
  go_wp2_with fail
  go_loopw [5, 6] (fun s i wr => ∃ k m : Nat, k ≤ 12 ∧ m ≤ 600 ∧ i = .int .i64 k ∧ s = .int .i64 m ∧ Hid (∃ (all : List Nat) (bp : Bool), all.length = m ∧ (∀ x ∈ all, x < 256) ∧ ZTellIs W (.pointer va) g all bp wr)) (fun _ i _ => 12 - (intOf i).toNat)
  case atStart => exact ⟨0, 0, by omega, by omega, rfl, rfl, [], false, rfl, fun x hx => (by cases hx), HTS.out⟩
  case round =>
    obtain ⟨k, m, hk, hm, rfl, rfl, HALL⟩ := hrel
    obtain ⟨all, bp, ALL⟩ := HALL.out
    have HT : Hid (ZTellIs W (.pointer va) g all bp wr ∧ (∀ x ∈ all, x < 256) ∧ all.length ≤ 600) := ⟨ALL.2.2, ALL.2.1, by rw [ALL.1]; exact hm⟩
    have HM := Lib.hid ALL.1
    have HBW : Hid (Below W.heap.size W wr) := by
      obtain ⟨_, _, _, h⟩ := ALL.2.2
      exact h.below
    clear ALL
    by_cases hgo : k < N ∧ k < 12
    · obtain ⟨hg1, hg2⟩ := hgo
      have d1 : decide ((k : Int) < (N : Int)) = true := decide_eq_true (by omega)
      have d2 : decide ((k : Int) < 12) = true := decide_eq_true (by omega)
      obtain ⟨b, off, uo, uc, zs, elo, hblt, hzs0, hcell, hzs⟩ := HG.out k hg1
      have HZ8 : Hid (∀ x ∈ zs, x < 256) := H8.out zs (List.mem_of_getElem? hzs0)
      subst elo
      obtain ⟨L, eL⟩ : ∃ L, zs.length = L := ⟨_, rfl⟩
      rw [eL] at hcell hzs
      have HEL := Lib.hid eL
      have HZ := Lib.hid hzs
      have hcr := (HBW.out.cell (p := ⟨b, off + k, none⟩) hblt).trans hcell
      have HC := Lib.hid hcell
      clear eL hzs hcell hzs0
      by_cases hL : L ≤ 600
      · have hwm : IntKind.i64.wrap ((m : Int) + (L : Int)) = ((m + L : Nat) : Int) := by rw [IntKind.wrap_i64]; omega
        have d3 : decide ((600 : Int) < (L : Int)) = false := decide_eq_false (by omega)
        have d3' : decide (600 < L) = false := decide_eq_false (by omega)
        obtain ⟨M, eM⟩ : ∃ M, m + L = M := ⟨_, rfl⟩
        rw [eM] at hwm
        by_cases hM : M ≤ 600
        · have d4 : decide ((600 : Int) < (M : Int)) = false := decide_eq_false (by omega)
          have d4' : decide (600 < M) = false := decide_eq_false (by omega)
          have HM4 := Lib.hid (And.intro hM d4)
          go_upto_region 9 with fail
          go_wp2_with fail
          go_at_call 10
          obtain ⟨O0, av0, lv0, hta0⟩ := HT.out.1
          have HP : Hid ((∀ x ∈ all ++ zs, x < 256) ∧ (all ++ zs).length = M) := by
            refine ⟨fun x hx => ?_, by rw [List.length_append, HEL.out, HM.out]; exact eM⟩
            rcases List.mem_append.1 hx with h | h
            · exact HT.out.2.1 x h
            · exact HZ8.out x h
          refine (ztell_write hta0 (listed_low HZ.out (fun q hq => inBlock_lt HZ.out hq) (Below.refl _ _) HBW.out) (fun q hq => inBlock_lt HZ.out hq) HP.out.1 (by rw [HP.out.2]; omega)).mono ?_
          clear hta0 hcr
          rintro e w4 ⟨x, O4, rfl, HW4⟩
          obtain ⟨hta, hx4, hxg⟩ := HW4.out
          obtain ⟨ao4, ac4, ea4⟩ := listed_length hta.all
          obtain ⟨lo4, lc4, el4⟩ := listed_length hta.out
          obtain ⟨xo4, xc4, ex4⟩ := listed_length hx4
          subst ea4 el4
          have HTA := Lib.hid hta
          have hbox := hta.box
          have hbe4 : Below W.heap.size W w4 := hta.below
          have hgl := hta.glt
          have hlvl : ∀ q, inBlock (.slice lo4 (outOf all).length lc4) q → q < w4.heap.size := fun q hq => bools_in hta.out hq
          have KR0 := fun (w' : World) (hb : Below w4.heap.size w4 w') => rzwrite_any _ _ (.slice uo L uc) all zs bp w' (listed_on hta.all hb) HP.out.1 (listed_on hta.out hb) (listed_on (listed_low HZ.out (fun q hq => inBlock_lt HZ.out hq) (Below.refl _ _) hbe4) hb) (by rw [HP.out.2]; omega)
          obtain ⟨X4, eX4⟩ : ∃ X, headOf bp ++ nextOf all zs = X := ⟨_, rfl⟩
          obtain ⟨A2, eA2⟩ : ∃ A, 4096 * fullOf (all ++ zs).length = A := ⟨_, rfl⟩
          obtain ⟨T2, eT2⟩ : ∃ A, (outOf (all ++ zs)).length / 8 = A := ⟨_, rfl⟩
          obtain ⟨A4, eA4⟩ : ∃ A, 4096 * fullOf all.length = A := ⟨_, rfl⟩
          obtain ⟨T4, eT4⟩ : ∃ A, (outOf all).length / 8 = A := ⟨_, rfl⟩
          obtain ⟨l4, el4⟩ : ∃ A, (outOf all).length = A := ⟨_, rfl⟩
          obtain ⟨m4, em4⟩ : ∃ A, all.length = A := ⟨_, rfl⟩
          rw [eX4] at hx4 ex4 KR0
          rw [eA2, eT2, eA4, eT4] at KR0
          rw [eA4, eT4] at hbox
          rw [em4] at hbox KR0
          rw [el4] at hbox KR0 hlvl
          obtain ⟨xl4, exl4⟩ : ∃ n, X4.length = n := ⟨_, rfl⟩
          rw [exl4] at ex4
          subst ex4
          have HX4 := Lib.hid (And.intro hx4 hxg)
          have KR : Hid (∀ w', Below w4.heap.size w4 w' → Calls Tryd.prog 16 #[.agg #[.slice ao4 m4 ac4, .int .i64 (A4 : Int), .slice lo4 l4 lc4, .int .i64 (T4 : Int), .bool false, .bool bp], .slice uo L uc] w' fun e w'' =>
              ∃ o1 n1 c1 o2 n2 c2 oy ny cy, e = .returned (.tuple #[.agg #[.slice o1 n1 c1, .int .i64 (A2 : Int), .slice o2 n2 c2, .int .i64 (T2 : Int), .bool false, .bool true], .slice oy ny cy, .int .i64 0]) ∧ Hid (bytesIn w'' (.slice o1 n1 c1) (all ++ zs) ∧ bools w'' (.slice o2 n2 c2) (outOf (all ++ zs)) ∧ bytesIn w'' (.slice oy ny cy) X4 ∧ (∀ q, inBlock (.slice o1 n1 c1) q → w'.heap.size ≤ q) ∧ (∀ q, inBlock (.slice o2 n2 c2) q → .slice o2 n2 c2 = Value.slice lo4 l4 lc4 ∨ w'.heap.size ≤ q) ∧ (∀ q, inBlock (.slice oy ny cy) q → w'.heap.size ≤ q) ∧ Below w'.heap.size w' w'')) := KR0
          have hx0 : w4.cell? ⟨g, 0, none⟩ = some (.slice ao4 m4 ac4) := cell_of_block hbox 0
          have hx1 : w4.cell? ⟨g, 1, none⟩ = some (.int .i64 (A4 : Int)) := cell_of_block hbox 1
          have hx2 : w4.cell? ⟨g, 2, none⟩ = some (.slice lo4 l4 lc4) := cell_of_block hbox 2
          have hx3 : w4.cell? ⟨g, 3, none⟩ = some (.int .i64 (T4 : Int)) := cell_of_block hbox 3
          have hx4' : w4.cell? ⟨g, 4, none⟩ = some (.bool false) := cell_of_block hbox 4
          have hx5 : w4.cell? ⟨g, 5, none⟩ = some (.bool bp) := cell_of_block hbox 5
          have hxc := (hbe4.cell (p := ⟨b, off + k, none⟩) hblt).trans HC.out
          have hbl4 : b < w4.heap.size := Nat.lt_of_lt_of_le hblt hbe4.size
          have HE4 := Lib.hid (And.intro eA2 (And.intro eT2 (And.intro eA4 eT4)))
          have HL4 := Lib.hid (And.intro el4 em4)
          have HBX4 := Lib.hid hbox
          have HBE4 := Lib.hid hbe4
          have HLV := Lib.hid hlvl
          have hd1 : Below w4.heap.size w4 w4.drew := (Below.refl _ _).drew
          have hd2 : Below w4.heap.size w4 (w4.alloc (.cells #[.slice none 0 0, .int .i64 0, .slice none 0 0, .int .i64 0, .bool false, .bool false] 40)).drew := ((Below.refl _ _).alloc (Nat.le_refl _) _).drew
          clear KR0 eX4 eA2 eT2 eA4 eT4 el4 em4 hbox hbe4 hlvl hta hx4 hxg exl4 HW4
          go_upto_region 10 with fail
          go_cut [9, 10, 11] from 18 to 73 (fun s9 s10 s11 wx => ∃ (g2 : Nat) (o1 : Option Addr) (n1 c1 : Nat) (o2 : Option Addr) (n2 c2 : Nat) (oy : Option Addr) (ny cy : Nat), s9 = .pointer (some ⟨g2, 0, none⟩) ∧ s10 = .slice oy ny cy ∧ s11 = .int .i64 0 ∧ Hid (ZLaid w4 g2 (.slice o1 n1 c1) (.slice o2 n2 c2) (.slice lo4 l4 lc4) (.slice oy ny cy) A2 T2 (all ++ zs) X4 wx))
          case first =>
            have HS := Lib.hid (And.intro hx0 (And.intro hx1 (And.intro hx2 (And.intro hx3 (And.intro hx4' (And.intro hx5 (And.intro hxc (Below.refl w4.heap.size w4))))))))
            have hS1 : Hid ((w4.drew).cell? ⟨g, 0, none⟩ = some (.slice ao4 m4 ac4) ∧ (w4.drew).cell? ⟨g, 1, none⟩ = some (.int .i64 (A4 : Int)) ∧ (w4.drew).cell? ⟨g, 2, none⟩ = some (.slice lo4 l4 lc4) ∧ (w4.drew).cell? ⟨g, 3, none⟩ = some (.int .i64 (T4 : Int)) ∧ (w4.drew).cell? ⟨g, 4, none⟩ = some (.bool false) ∧ (w4.drew).cell? ⟨g, 5, none⟩ = some (.bool bp) ∧ (w4.drew).cell? ⟨b, off + k, none⟩ = some (.slice uo L uc) ∧ Below w4.heap.size w4 (w4.drew)) := seven_keep HS.out (Below.refl _ _).drew
            have hS2 : Hid ((w4.alloc (.cells #[.slice none 0 0, .int .i64 0, .slice none 0 0, .int .i64 0, .bool false, .bool false] 40)).drew.cell? ⟨g, 0, none⟩ = some (.slice ao4 m4 ac4) ∧ (w4.alloc (.cells #[.slice none 0 0, .int .i64 0, .slice none 0 0, .int .i64 0, .bool false, .bool false] 40)).drew.cell? ⟨g, 1, none⟩ = some (.int .i64 (A4 : Int)) ∧ (w4.alloc (.cells #[.slice none 0 0, .int .i64 0, .slice none 0 0, .int .i64 0, .bool false, .bool false] 40)).drew.cell? ⟨g, 2, none⟩ = some (.slice lo4 l4 lc4) ∧ (w4.alloc (.cells #[.slice none 0 0, .int .i64 0, .slice none 0 0, .int .i64 0, .bool false, .bool false] 40)).drew.cell? ⟨g, 3, none⟩ = some (.int .i64 (T4 : Int)) ∧ (w4.alloc (.cells #[.slice none 0 0, .int .i64 0, .slice none 0 0, .int .i64 0, .bool false, .bool false] 40)).drew.cell? ⟨g, 4, none⟩ = some (.bool false) ∧ (w4.alloc (.cells #[.slice none 0 0, .int .i64 0, .slice none 0 0, .int .i64 0, .bool false, .bool false] 40)).drew.cell? ⟨g, 5, none⟩ = some (.bool bp) ∧ (w4.alloc (.cells #[.slice none 0 0, .int .i64 0, .slice none 0 0, .int .i64 0, .bool false, .bool false] 40)).drew.cell? ⟨b, off + k, none⟩ = some (.slice uo L uc) ∧ Below w4.heap.size w4 (w4.alloc (.cells #[.slice none 0 0, .int .i64 0, .slice none 0 0, .int .i64 0, .bool false, .bool false] 40)).drew) := seven_keep (seven_keep HS.out ((Below.refl _ _).alloc (Nat.le_refl _) _)) (Below.refl _ _).drew
            go_region_held3 (fun w' => w'.cell? ⟨g, 0, none⟩ = some (.slice ao4 m4 ac4) ∧ w'.cell? ⟨g, 1, none⟩ = some (.int .i64 (A4 : Int)) ∧ w'.cell? ⟨g, 2, none⟩ = some (.slice lo4 l4 lc4) ∧ w'.cell? ⟨g, 3, none⟩ = some (.int .i64 (T4 : Int)) ∧ w'.cell? ⟨g, 4, none⟩ = some (.bool false) ∧ w'.cell? ⟨g, 5, none⟩ = some (.bool bp) ∧ w'.cell? ⟨b, off + k, none⟩ = some (.slice uo L uc) ∧ Below w4.heap.size w4 w') (first | with_reducible exact hS1.out | with_reducible exact hS2.out | with_reducible exact hS5.out | with_reducible exact hS5a.out _ | with_reducible exact hS5s.out (.cells #[] 0) _ _ _ _ _ _ | with_reducible exact hS5s.out _ _ _ _ _ _ _) (first | (go_at_call 16; refine (KR.out w4.drew hd1).mono ?_; rintro e w5 ⟨o1, n1, c1, o2, n2, c2, oy, ny, cy, rfl, HV⟩; have hS5 : Hid (w5.cell? ⟨g, 0, none⟩ = some (.slice ao4 m4 ac4) ∧ w5.cell? ⟨g, 1, none⟩ = some (.int .i64 (A4 : Int)) ∧ w5.cell? ⟨g, 2, none⟩ = some (.slice lo4 l4 lc4) ∧ w5.cell? ⟨g, 3, none⟩ = some (.int .i64 (T4 : Int)) ∧ w5.cell? ⟨g, 4, none⟩ = some (.bool false) ∧ w5.cell? ⟨g, 5, none⟩ = some (.bool bp) ∧ w5.cell? ⟨b, off + k, none⟩ = some (.slice uo L uc) ∧ Below w4.heap.size w4 w5) := seven_keep hS1.out HV.out.2.2.2.2.2.2; have hS5a : Hid (∀ c, (w5.alloc c).cell? ⟨g, 0, none⟩ = some (.slice ao4 m4 ac4) ∧ (w5.alloc c).cell? ⟨g, 1, none⟩ = some (.int .i64 (A4 : Int)) ∧ (w5.alloc c).cell? ⟨g, 2, none⟩ = some (.slice lo4 l4 lc4) ∧ (w5.alloc c).cell? ⟨g, 3, none⟩ = some (.int .i64 (T4 : Int)) ∧ (w5.alloc c).cell? ⟨g, 4, none⟩ = some (.bool false) ∧ (w5.alloc c).cell? ⟨g, 5, none⟩ = some (.bool bp) ∧ (w5.alloc c).cell? ⟨b, off + k, none⟩ = some (.slice uo L uc) ∧ Below w4.heap.size w4 (w5.alloc c)) := fun c => seven_keep hS5.out (below_alloc1 w5 c); have hS5s : Hid (∀ c v0 v1 v2 v3 v4 v5, (((((((w5.alloc c).setCell ⟨w5.heap.size, 0, none⟩ v0).setCell ⟨w5.heap.size, 1, none⟩ v1).setCell ⟨w5.heap.size, 2, none⟩ v2).setCell ⟨w5.heap.size, 3, none⟩ v3).setCell ⟨w5.heap.size, 4, none⟩ v4).setCell ⟨w5.heap.size, 5, none⟩ v5).cell? ⟨g, 0, none⟩ = some (.slice ao4 m4 ac4) ∧ (((((((w5.alloc c).setCell ⟨w5.heap.size, 0, none⟩ v0).setCell ⟨w5.heap.size, 1, none⟩ v1).setCell ⟨w5.heap.size, 2, none⟩ v2).setCell ⟨w5.heap.size, 3, none⟩ v3).setCell ⟨w5.heap.size, 4, none⟩ v4).setCell ⟨w5.heap.size, 5, none⟩ v5).cell? ⟨g, 1, none⟩ = some (.int .i64 (A4 : Int)) ∧ (((((((w5.alloc c).setCell ⟨w5.heap.size, 0, none⟩ v0).setCell ⟨w5.heap.size, 1, none⟩ v1).setCell ⟨w5.heap.size, 2, none⟩ v2).setCell ⟨w5.heap.size, 3, none⟩ v3).setCell ⟨w5.heap.size, 4, none⟩ v4).setCell ⟨w5.heap.size, 5, none⟩ v5).cell? ⟨g, 2, none⟩ = some (.slice lo4 l4 lc4) ∧ (((((((w5.alloc c).setCell ⟨w5.heap.size, 0, none⟩ v0).setCell ⟨w5.heap.size, 1, none⟩ v1).setCell ⟨w5.heap.size, 2, none⟩ v2).setCell ⟨w5.heap.size, 3, none⟩ v3).setCell ⟨w5.heap.size, 4, none⟩ v4).setCell ⟨w5.heap.size, 5, none⟩ v5).cell? ⟨g, 3, none⟩ = some (.int .i64 (T4 : Int)) ∧ (((((((w5.alloc c).setCell ⟨w5.heap.size, 0, none⟩ v0).setCell ⟨w5.heap.size, 1, none⟩ v1).setCell ⟨w5.heap.size, 2, none⟩ v2).setCell ⟨w5.heap.size, 3, none⟩ v3).setCell ⟨w5.heap.size, 4, none⟩ v4).setCell ⟨w5.heap.size, 5, none⟩ v5).cell? ⟨g, 4, none⟩ = some (.bool false) ∧ (((((((w5.alloc c).setCell ⟨w5.heap.size, 0, none⟩ v0).setCell ⟨w5.heap.size, 1, none⟩ v1).setCell ⟨w5.heap.size, 2, none⟩ v2).setCell ⟨w5.heap.size, 3, none⟩ v3).setCell ⟨w5.heap.size, 4, none⟩ v4).setCell ⟨w5.heap.size, 5, none⟩ v5).cell? ⟨g, 5, none⟩ = some (.bool bp) ∧ (((((((w5.alloc c).setCell ⟨w5.heap.size, 0, none⟩ v0).setCell ⟨w5.heap.size, 1, none⟩ v1).setCell ⟨w5.heap.size, 2, none⟩ v2).setCell ⟨w5.heap.size, 3, none⟩ v3).setCell ⟨w5.heap.size, 4, none⟩ v4).setCell ⟨w5.heap.size, 5, none⟩ v5).cell? ⟨b, off + k, none⟩ = some (.slice uo L uc) ∧ Below w4.heap.size w4 (((((((w5.alloc c).setCell ⟨w5.heap.size, 0, none⟩ v0).setCell ⟨w5.heap.size, 1, none⟩ v1).setCell ⟨w5.heap.size, 2, none⟩ v2).setCell ⟨w5.heap.size, 3, none⟩ v3).setCell ⟨w5.heap.size, 4, none⟩ v4).setCell ⟨w5.heap.size, 5, none⟩ v5)) := fun c v0 v1 v2 v3 v4 v5 => seven_store (seven_store (seven_store (seven_store (seven_store (seven_store (hS5a.out c) hgl hbl4 hS5.out.2.2.2.2.2.2.2.size) hgl hbl4 hS5.out.2.2.2.2.2.2.2.size) hgl hbl4 hS5.out.2.2.2.2.2.2.2.size) hgl hbl4 hS5.out.2.2.2.2.2.2.2.size) hgl hbl4 hS5.out.2.2.2.2.2.2.2.size) hgl hbl4 hS5.out.2.2.2.2.2.2.2.size) | (go_at_call 16; refine (KR.out (w4.alloc (.cells #[.slice none 0 0, .int .i64 0, .slice none 0 0, .int .i64 0, .bool false, .bool false] 40)).drew hd2).mono ?_; rintro e w5 ⟨o1, n1, c1, o2, n2, c2, oy, ny, cy, rfl, HV⟩; have hS5 : Hid (w5.cell? ⟨g, 0, none⟩ = some (.slice ao4 m4 ac4) ∧ w5.cell? ⟨g, 1, none⟩ = some (.int .i64 (A4 : Int)) ∧ w5.cell? ⟨g, 2, none⟩ = some (.slice lo4 l4 lc4) ∧ w5.cell? ⟨g, 3, none⟩ = some (.int .i64 (T4 : Int)) ∧ w5.cell? ⟨g, 4, none⟩ = some (.bool false) ∧ w5.cell? ⟨g, 5, none⟩ = some (.bool bp) ∧ w5.cell? ⟨b, off + k, none⟩ = some (.slice uo L uc) ∧ Below w4.heap.size w4 w5) := seven_keep hS2.out HV.out.2.2.2.2.2.2; have hS5a : Hid (∀ c, (w5.alloc c).cell? ⟨g, 0, none⟩ = some (.slice ao4 m4 ac4) ∧ (w5.alloc c).cell? ⟨g, 1, none⟩ = some (.int .i64 (A4 : Int)) ∧ (w5.alloc c).cell? ⟨g, 2, none⟩ = some (.slice lo4 l4 lc4) ∧ (w5.alloc c).cell? ⟨g, 3, none⟩ = some (.int .i64 (T4 : Int)) ∧ (w5.alloc c).cell? ⟨g, 4, none⟩ = some (.bool false) ∧ (w5.alloc c).cell? ⟨g, 5, none⟩ = some (.bool bp) ∧ (w5.alloc c).cell? ⟨b, off + k, none⟩ = some (.slice uo L uc) ∧ Below w4.heap.size w4 (w5.alloc c)) := fun c => seven_keep hS5.out (below_alloc1 w5 c); have hS5s : Hid (∀ (c : Obj) v0 v1 v2 v3 v4 v5, ((((((w5.setCell ⟨w4.heap.size, 0, none⟩ v0).setCell ⟨w4.heap.size, 1, none⟩ v1).setCell ⟨w4.heap.size, 2, none⟩ v2).setCell ⟨w4.heap.size, 3, none⟩ v3).setCell ⟨w4.heap.size, 4, none⟩ v4).setCell ⟨w4.heap.size, 5, none⟩ v5).cell? ⟨g, 0, none⟩ = some (.slice ao4 m4 ac4) ∧ ((((((w5.setCell ⟨w4.heap.size, 0, none⟩ v0).setCell ⟨w4.heap.size, 1, none⟩ v1).setCell ⟨w4.heap.size, 2, none⟩ v2).setCell ⟨w4.heap.size, 3, none⟩ v3).setCell ⟨w4.heap.size, 4, none⟩ v4).setCell ⟨w4.heap.size, 5, none⟩ v5).cell? ⟨g, 1, none⟩ = some (.int .i64 (A4 : Int)) ∧ ((((((w5.setCell ⟨w4.heap.size, 0, none⟩ v0).setCell ⟨w4.heap.size, 1, none⟩ v1).setCell ⟨w4.heap.size, 2, none⟩ v2).setCell ⟨w4.heap.size, 3, none⟩ v3).setCell ⟨w4.heap.size, 4, none⟩ v4).setCell ⟨w4.heap.size, 5, none⟩ v5).cell? ⟨g, 2, none⟩ = some (.slice lo4 l4 lc4) ∧ ((((((w5.setCell ⟨w4.heap.size, 0, none⟩ v0).setCell ⟨w4.heap.size, 1, none⟩ v1).setCell ⟨w4.heap.size, 2, none⟩ v2).setCell ⟨w4.heap.size, 3, none⟩ v3).setCell ⟨w4.heap.size, 4, none⟩ v4).setCell ⟨w4.heap.size, 5, none⟩ v5).cell? ⟨g, 3, none⟩ = some (.int .i64 (T4 : Int)) ∧ ((((((w5.setCell ⟨w4.heap.size, 0, none⟩ v0).setCell ⟨w4.heap.size, 1, none⟩ v1).setCell ⟨w4.heap.size, 2, none⟩ v2).setCell ⟨w4.heap.size, 3, none⟩ v3).setCell ⟨w4.heap.size, 4, none⟩ v4).setCell ⟨w4.heap.size, 5, none⟩ v5).cell? ⟨g, 4, none⟩ = some (.bool false) ∧ ((((((w5.setCell ⟨w4.heap.size, 0, none⟩ v0).setCell ⟨w4.heap.size, 1, none⟩ v1).setCell ⟨w4.heap.size, 2, none⟩ v2).setCell ⟨w4.heap.size, 3, none⟩ v3).setCell ⟨w4.heap.size, 4, none⟩ v4).setCell ⟨w4.heap.size, 5, none⟩ v5).cell? ⟨g, 5, none⟩ = some (.bool bp) ∧ ((((((w5.setCell ⟨w4.heap.size, 0, none⟩ v0).setCell ⟨w4.heap.size, 1, none⟩ v1).setCell ⟨w4.heap.size, 2, none⟩ v2).setCell ⟨w4.heap.size, 3, none⟩ v3).setCell ⟨w4.heap.size, 4, none⟩ v4).setCell ⟨w4.heap.size, 5, none⟩ v5).cell? ⟨b, off + k, none⟩ = some (.slice uo L uc) ∧ Below w4.heap.size w4 ((((((w5.setCell ⟨w4.heap.size, 0, none⟩ v0).setCell ⟨w4.heap.size, 1, none⟩ v1).setCell ⟨w4.heap.size, 2, none⟩ v2).setCell ⟨w4.heap.size, 3, none⟩ v3).setCell ⟨w4.heap.size, 4, none⟩ v4).setCell ⟨w4.heap.size, 5, none⟩ v5)) := fun c v0 v1 v2 v3 v4 v5 => seven_store (seven_store (seven_store (seven_store (seven_store (seven_store (hS5.out) hgl hbl4 (Nat.le_refl _)) hgl hbl4 (Nat.le_refl _)) hgl hbl4 (Nat.le_refl _)) hgl hbl4 (Nat.le_refl _)) hgl hbl4 (Nat.le_refl _)) hgl hbl4 (Nat.le_refl _); have hlt9 : w4.heap.size < (w4.alloc (.cells #[.slice none 0 0, .int .i64 0, .slice none 0 0, .int .i64 0, .bool false, .bool false] 40)).drew.heap.size := (by show _ < (w4.heap.push _).size; simp); have hzz := (HV.out.2.2.2.2.2.2.block w4.heap.size hlt9).trans (heap_alloc_new w4 _); have r0 := cell_of_block hzz 0; have r6 := unfrozen_of_block hzz 0; have r1 := cell_of_block hzz 1; have r7 := unfrozen_of_block hzz 1; have r2 := cell_of_block hzz 2; have r8 := unfrozen_of_block hzz 2; have r3 := cell_of_block hzz 3; have r9 := unfrozen_of_block hzz 3; have r4 := cell_of_block hzz 4; have r10 := unfrozen_of_block hzz 4; have r5 := cell_of_block hzz 5; have r11 := unfrozen_of_block hzz 5))
            all_goals go_wp2_with fail
            all_goals go_meet
            all_goals first | with_reducible exact ⟨_, o1, n1, c1, o2, n2, c2, oy, ny, cy, rfl, rfl, rfl, Lib.hid (zlaid_new HV.out.1 HV.out.2.1 HV.out.2.2.1 HV.out.2.2.2.1 HV.out.2.2.2.2.1 HV.out.2.2.2.2.2.1 (Below.refl _ _).drew HV.out.2.2.2.2.2.2)⟩ | with_reducible exact ⟨_, o1, n1, c1, o2, n2, c2, oy, ny, cy, rfl, rfl, rfl, Lib.hid (zlaid_set (Nat.le_refl _) hlt9 hzz HLV.out HV.out.1 HV.out.2.1 HV.out.2.2.1 HV.out.2.2.2.1 HV.out.2.2.2.2.1 HV.out.2.2.2.2.2.1 hd2 HV.out.2.2.2.2.2.2)⟩
          case rest =>
            obtain ⟨g2, o1, n1, c1, o2, n2, c2, oy, ny, cy, rfl, rfl, rfl, HLD⟩ := hcut
            obtain ⟨w5, ew5⟩ : ∃ x, x = wc := ⟨_, rfl⟩
            rw [← ew5] at HLD ⊢
            clear ew5 hx0 hx1 hx2 hx3 hx4' hx5 hxc hd1 hd2
            obtain ⟨j1, j2, j3, j4, j5, j6, j7, j8, j9⟩ := HLD.out
            have hbg := (j9.block g hgl).trans HBX4.out
            have t0 := cell_of_block j2 0
            have t1 := cell_of_block j2 1
            have t2 := cell_of_block j2 2
            have t3 := cell_of_block j2 3
            have t4 := cell_of_block j2 4
            have t5 := cell_of_block j2 5
            have s0 := cell_of_block hbg 0
            have s1 := cell_of_block hbg 1
            have s2 := cell_of_block hbg 2
            have s3 := cell_of_block hbg 3
            have s4 := cell_of_block hbg 4
            have s5 := cell_of_block hbg 5
            have f0 := unfrozen_of_block hbg 0
            have f1 := unfrozen_of_block hbg 1
            have f2 := unfrozen_of_block hbg 2
            have f3 := unfrozen_of_block hbg 3
            have f4 := unfrozen_of_block hbg 4
            have f5 := unfrozen_of_block hbg 5
            have HW6 : Hid (∀ w6, w6 = set6 w5 g (.slice o1 n1 c1) (.int .i64 (A2 : Int)) (.slice o2 n2 c2) (.int .i64 (T2 : Int)) (.bool false) (.bool true) →
                ZTellIs W (.pointer va) g (all ++ zs) true w6 ∧ bytesIn w6 (.slice xo4 xl4 xc4) X4 ∧ bytesIn w6 (.slice oy ny cy) X4) := by
              intro w6 e6
              have hk : ∀ q, q ≠ g → w6.heap[q]? = w5.heap[q]? := fun q hq => by
                rw [e6]
                exact set6_heap _ _ _ _ _ _ _ _ q hq
              have hs6 : w6.heap.size = w5.heap.size := by rw [e6]; exact set6_size _ _ _ _ _ _ _ _
              have hB6 : Below W.heap.size W w6 := by
                rw [e6]
                exact set6_below (HBE4.out.trans (j9.mono HBE4.out.size)) HTA.out.gW _ _ _ _ _ _
              have hbox6 : w6.heap[g]? = some (.cells (zref (.slice o1 n1 c1) (.slice o2 n2 c2) (4096 * fullOf (all ++ zs).length) ((outOf (all ++ zs)).length / 8) true) 40 (0, 0)) := by
                rw [HE4.out.1, HE4.out.2.1, e6]
                exact set6_block hbg _ _ _ _ _ _
              have hta := HTA.out
              rw [HL4.out.1, HL4.out.2] at hta
              refine ⟨⟨_, _, _, ztell_read hta j9 j3 j4 (fun q hq => (j6 q hq).1) (fun q hq => (j7 q hq).1) hs6 hB6 hbox6 hk⟩, ?_, ?_⟩
              · exact listed_kept (listed_on HX4.out.1 j9) (Nat.le_of_eq hs6.symm) (fun q hq => hk q (HX4.out.2 q hq))
              · exact listed_kept j5 (Nat.le_of_eq hs6.symm) (fun q hq => hk q (by have := (j8 q hq).1; omega))
            clear j1 j2 j3 j4 j5 j6 j7 j8 j9 hbg
            go_upto_region 12 with fail
            obtain ⟨w6, ew6⟩ : ∃ x, x = set6 w5 g (.slice o1 n1 c1) (.int .i64 (A2 : Int)) (.slice o2 n2 c2) (.int .i64 (T2 : Int)) (.bool false) (.bool true) := ⟨_, rfl⟩
            have HIN6 := Lib.hid (HW6.out w6 ew6)
            unfold set6 at ew6
            rw [← ew6]
            clear ew6 HW6 t0 t1 t2 t3 t4 t5 s0 s1 s2 s3 s4 s5 f0 f1 f2 f3 f4 f5
            go_wp2_with fail
            go_at_call 12
            refine (same_yes _ (.slice oy ny cy) X4 w6 HIN6.out.2.1 HIN6.out.2.2).mono ?_
            rintro e w7 ⟨rfl, rfl⟩
            go_wp2_with fail
            go_roundw
            case rel => exact ⟨k + 1, M, by omega, hM, by go_num, rfl, all ++ zs, true, HP.out.2, HP.out.1, HIN6.out.1⟩
            case measure => simp [intOf]; omega
        · have d4 : decide ((600 : Int) < (M : Int)) = true := decide_eq_true (by omega)
          have d4' : decide (600 < M) = true := decide_eq_true (by omega)
          go_upto_region 14 with fail
          have KE := ztell_end HT.out.1 HT.out.2.1 (by have := HT.out.2.2; omega)
          go_wp2_with fail
          go_at_call 11
          refine KE.mono ?_
          clear KE
          rintro e w6 ⟨x6, av6, lv6, rfl, HEND⟩
          obtain ⟨k2, k3, k4, k5, k6⟩ := HEND.out
          obtain ⟨ao6, ac6, ea6⟩ := listed_length k3
          obtain ⟨lo6, lc6, el6⟩ := listed_length k4
          subst ea6 el6
          have KR := rzend_any _ _ all bp w6 k3 HT.out.2.1 k4 (by have := HT.out.2.2; omega)
          obtain ⟨A6, eA6⟩ : ∃ A, 4096 * fullOf all.length = A := ⟨_, rfl⟩
          obtain ⟨T6, eT6⟩ : ∃ A, (outOf all).length / 8 = A := ⟨_, rfl⟩
          obtain ⟨m6, em6⟩ : ∃ A, all.length = A := ⟨_, rfl⟩
          obtain ⟨l6, el6⟩ : ∃ A, (outOf all).length = A := ⟨_, rfl⟩
          obtain ⟨X6, eX6⟩ : ∃ X, headOf bp ++ restOf all ++ fourOf (sumOf all) = X := ⟨_, rfl⟩
          rw [eX6] at KR k5
          rw [eA6, eT6] at KR k2
          rw [em6, el6] at KR k2
          have s0 : w6.cell? ⟨g, 0, none⟩ = some (.slice ao6 m6 ac6) := cell_of_block k2 0
          have s1 : w6.cell? ⟨g, 1, none⟩ = some (.int .i64 (A6 : Int)) := cell_of_block k2 1
          have s2 : w6.cell? ⟨g, 2, none⟩ = some (.slice lo6 l6 lc6) := cell_of_block k2 2
          have s3 : w6.cell? ⟨g, 3, none⟩ = some (.int .i64 (T6 : Int)) := cell_of_block k2 3
          have s4 : w6.cell? ⟨g, 4, none⟩ = some (.bool false) := cell_of_block k2 4
          have s5 : w6.cell? ⟨g, 5, none⟩ = some (.bool bp) := cell_of_block k2 5
          have HK6 := Lib.hid (And.intro k5 k6)
          obtain ⟨xo6, xc6, ex6⟩ := listed_length k5
          clear HEND k2 k3 k4 k5 k6 eA6 eT6 em6 el6 eX6
          obtain ⟨xl6, exl6⟩ : ∃ n, X6.length = n := ⟨_, rfl⟩
          rw [exl6] at ex6
          subst ex6
          clear exl6
          go_wp2_with fail
          go_at_call 17
          refine KR.mono ?_
          clear KR
          rintro e w7 ⟨i1, i2, i3, i4, i5, i6, i7, i8, oy, ny, cy, rfl, HY⟩
          clear s0 s1 s2 s3 s4 s5
          have HE8 : Hid (∀ w8, Below w7.heap.size w7 w8 → bytesIn w8 (.slice xo6 xl6 xc6) X6 ∧ bytesIn w8 (.slice oy ny cy) X6 ∧ Below W.heap.size W w8) := fun w8 h8 => by
            have hb8 := HY.out.2.2.trans (h8.mono HY.out.2.2.size)
            exact ⟨listed_on HK6.out.1 hb8, listed_on HY.out.1 h8, HK6.out.2.trans (hb8.mono HK6.out.2.size)⟩
          go_upto_region 16 with fail
          obtain ⟨w8, ew8⟩ : ∃ x, x = w7.alloc (.cells #[.slice i1 i2 i3, .int .i64 i4, .slice i5 i6 i7, .int .i64 i8, .bool true, .bool true] 40) := ⟨_, rfl⟩
          have HE7 := Lib.hid (HE8.out w8 (by rw [ew8]; exact (Below.refl _ _).alloc (Nat.le_refl _) _))
          rw [← ew8]
          clear ew8 HE8
          go_wp2_with fail
          go_at_call 12
          refine (same_yes _ _ X6 w8 HE7.out.1 HE7.out.2.1).mono ?_
          rintro e w9 ⟨rfl, rfl⟩
          go_wp2_with fail
          go_at_call 15
          refine (zawake_any w8 (HLA.out.below HE7.out.2.2)).mono ?_
          rintro e wA ⟨rfl, hb9⟩
          have HB9 := Lib.hid (HE7.out.2.2.trans (hb9.out.mono HE7.out.2.2.size))
          clear hb9
          go_wp2_with fail
          go_ret
          exact ⟨rfl, HB9.out⟩
      · obtain ⟨X, hX⟩ : ∃ X, IntKind.i64.wrap ((m : Int) + (L : Int)) = X := ⟨_, rfl⟩
        have d3 : decide ((600 : Int) < (L : Int)) = true := decide_eq_true (by omega)
        have d3' : decide (600 < L) = true := decide_eq_true (by omega)
        go_upto_region 14 with fail
        have KE := ztell_end HT.out.1 HT.out.2.1 (by have := HT.out.2.2; omega)
        go_wp2_with fail
        go_at_call 11
        refine KE.mono ?_
        clear KE
        rintro e w6 ⟨x6, av6, lv6, rfl, HEND⟩
        obtain ⟨k2, k3, k4, k5, k6⟩ := HEND.out
        obtain ⟨ao6, ac6, ea6⟩ := listed_length k3
        obtain ⟨lo6, lc6, el6⟩ := listed_length k4
        subst ea6 el6
        have KR := rzend_any _ _ all bp w6 k3 HT.out.2.1 k4 (by have := HT.out.2.2; omega)
        obtain ⟨A6, eA6⟩ : ∃ A, 4096 * fullOf all.length = A := ⟨_, rfl⟩
        obtain ⟨T6, eT6⟩ : ∃ A, (outOf all).length / 8 = A := ⟨_, rfl⟩
        obtain ⟨m6, em6⟩ : ∃ A, all.length = A := ⟨_, rfl⟩
        obtain ⟨l6, el6⟩ : ∃ A, (outOf all).length = A := ⟨_, rfl⟩
        obtain ⟨X6, eX6⟩ : ∃ X, headOf bp ++ restOf all ++ fourOf (sumOf all) = X := ⟨_, rfl⟩
        rw [eX6] at KR k5
        rw [eA6, eT6] at KR k2
        rw [em6, el6] at KR k2
        have s0 : w6.cell? ⟨g, 0, none⟩ = some (.slice ao6 m6 ac6) := cell_of_block k2 0
        have s1 : w6.cell? ⟨g, 1, none⟩ = some (.int .i64 (A6 : Int)) := cell_of_block k2 1
        have s2 : w6.cell? ⟨g, 2, none⟩ = some (.slice lo6 l6 lc6) := cell_of_block k2 2
        have s3 : w6.cell? ⟨g, 3, none⟩ = some (.int .i64 (T6 : Int)) := cell_of_block k2 3
        have s4 : w6.cell? ⟨g, 4, none⟩ = some (.bool false) := cell_of_block k2 4
        have s5 : w6.cell? ⟨g, 5, none⟩ = some (.bool bp) := cell_of_block k2 5
        have HK6 := Lib.hid (And.intro k5 k6)
        obtain ⟨xo6, xc6, ex6⟩ := listed_length k5
        clear HEND k2 k3 k4 k5 k6 eA6 eT6 em6 el6 eX6
        obtain ⟨xl6, exl6⟩ : ∃ n, X6.length = n := ⟨_, rfl⟩
        rw [exl6] at ex6
        subst ex6
        clear exl6
        go_wp2_with fail
        go_at_call 17
        refine KR.mono ?_
        clear KR
        rintro e w7 ⟨i1, i2, i3, i4, i5, i6, i7, i8, oy, ny, cy, rfl, HY⟩
        clear s0 s1 s2 s3 s4 s5
        have HE8 : Hid (∀ w8, Below w7.heap.size w7 w8 → bytesIn w8 (.slice xo6 xl6 xc6) X6 ∧ bytesIn w8 (.slice oy ny cy) X6 ∧ Below W.heap.size W w8) := fun w8 h8 => by
          have hb8 := HY.out.2.2.trans (h8.mono HY.out.2.2.size)
          exact ⟨listed_on HK6.out.1 hb8, listed_on HY.out.1 h8, HK6.out.2.trans (hb8.mono HK6.out.2.size)⟩
        go_upto_region 16 with fail
        obtain ⟨w8, ew8⟩ : ∃ x, x = w7.alloc (.cells #[.slice i1 i2 i3, .int .i64 i4, .slice i5 i6 i7, .int .i64 i8, .bool true, .bool true] 40) := ⟨_, rfl⟩
        have HE7 := Lib.hid (HE8.out w8 (by rw [ew8]; exact (Below.refl _ _).alloc (Nat.le_refl _) _))
        rw [← ew8]
        clear ew8 HE8
        go_wp2_with fail
        go_at_call 12
        refine (same_yes _ _ X6 w8 HE7.out.1 HE7.out.2.1).mono ?_
        rintro e w9 ⟨rfl, rfl⟩
        go_wp2_with fail
        go_at_call 15
        refine (zawake_any w8 (HLA.out.below HE7.out.2.2)).mono ?_
        rintro e wA ⟨rfl, hb9⟩
        have HB9 := Lib.hid (HE7.out.2.2.trans (hb9.out.mono HE7.out.2.2.size))
        clear hb9
        go_wp2_with fail
        go_ret
        exact ⟨rfl, HB9.out⟩
    · have hcs2 : ((decide ((k : Int) < (N : Int)) = true ∧ decide (k < N) = true) ∧ (decide ((k : Int) < 12) = false ∧ decide (k < 12) = false)) ∨ (decide ((k : Int) < (N : Int)) = false ∧ decide (k < N) = false) := by
        by_cases h : k < N
        · exact .inl ⟨⟨decide_eq_true (by omega), decide_eq_true h⟩, decide_eq_false (by omega), decide_eq_false (by omega)⟩
        · exact .inr ⟨decide_eq_false (by omega), decide_eq_false h⟩
      rcases hcs2 with ⟨⟨d1, d1'⟩, d2, d2'⟩ | ⟨d1, d1'⟩ <;>
      · skip
        go_upto_region 14 with fail
        have KE := ztell_end HT.out.1 HT.out.2.1 (by have := HT.out.2.2; omega)
        go_wp2_with fail
        go_at_call 11
        refine KE.mono ?_
        clear KE
        rintro e w6 ⟨x6, av6, lv6, rfl, HEND⟩
        obtain ⟨k2, k3, k4, k5, k6⟩ := HEND.out
        obtain ⟨ao6, ac6, ea6⟩ := listed_length k3
        obtain ⟨lo6, lc6, el6⟩ := listed_length k4
        subst ea6 el6
        have KR := rzend_any _ _ all bp w6 k3 HT.out.2.1 k4 (by have := HT.out.2.2; omega)
        obtain ⟨A6, eA6⟩ : ∃ A, 4096 * fullOf all.length = A := ⟨_, rfl⟩
        obtain ⟨T6, eT6⟩ : ∃ A, (outOf all).length / 8 = A := ⟨_, rfl⟩
        obtain ⟨m6, em6⟩ : ∃ A, all.length = A := ⟨_, rfl⟩
        obtain ⟨l6, el6⟩ : ∃ A, (outOf all).length = A := ⟨_, rfl⟩
        obtain ⟨X6, eX6⟩ : ∃ X, headOf bp ++ restOf all ++ fourOf (sumOf all) = X := ⟨_, rfl⟩
        rw [eX6] at KR k5
        rw [eA6, eT6] at KR k2
        rw [em6, el6] at KR k2
        have s0 : w6.cell? ⟨g, 0, none⟩ = some (.slice ao6 m6 ac6) := cell_of_block k2 0
        have s1 : w6.cell? ⟨g, 1, none⟩ = some (.int .i64 (A6 : Int)) := cell_of_block k2 1
        have s2 : w6.cell? ⟨g, 2, none⟩ = some (.slice lo6 l6 lc6) := cell_of_block k2 2
        have s3 : w6.cell? ⟨g, 3, none⟩ = some (.int .i64 (T6 : Int)) := cell_of_block k2 3
        have s4 : w6.cell? ⟨g, 4, none⟩ = some (.bool false) := cell_of_block k2 4
        have s5 : w6.cell? ⟨g, 5, none⟩ = some (.bool bp) := cell_of_block k2 5
        have HK6 := Lib.hid (And.intro k5 k6)
        obtain ⟨xo6, xc6, ex6⟩ := listed_length k5
        clear HEND k2 k3 k4 k5 k6 eA6 eT6 em6 el6 eX6
        obtain ⟨xl6, exl6⟩ : ∃ n, X6.length = n := ⟨_, rfl⟩
        rw [exl6] at ex6
        subst ex6
        clear exl6
        go_wp2_with fail
        go_at_call 17
        refine KR.mono ?_
        clear KR
        rintro e w7 ⟨i1, i2, i3, i4, i5, i6, i7, i8, oy, ny, cy, rfl, HY⟩
        clear s0 s1 s2 s3 s4 s5
        have HE8 : Hid (∀ w8, Below w7.heap.size w7 w8 → bytesIn w8 (.slice xo6 xl6 xc6) X6 ∧ bytesIn w8 (.slice oy ny cy) X6 ∧ Below W.heap.size W w8) := fun w8 h8 => by
          have hb8 := HY.out.2.2.trans (h8.mono HY.out.2.2.size)
          exact ⟨listed_on HK6.out.1 hb8, listed_on HY.out.1 h8, HK6.out.2.trans (hb8.mono HK6.out.2.size)⟩
        go_upto_region 16 with fail
        obtain ⟨w8, ew8⟩ : ∃ x, x = w7.alloc (.cells #[.slice i1 i2 i3, .int .i64 i4, .slice i5 i6 i7, .int .i64 i8, .bool true, .bool true] 40) := ⟨_, rfl⟩
        have HE7 := Lib.hid (HE8.out w8 (by rw [ew8]; exact (Below.refl _ _).alloc (Nat.le_refl _) _))
        rw [← ew8]
        clear ew8 HE8
        go_wp2_with fail
        go_at_call 12
        refine (same_yes _ _ X6 w8 HE7.out.1 HE7.out.2.1).mono ?_
        rintro e w9 ⟨rfl, rfl⟩
        go_wp2_with fail
        go_at_call 15
        refine (zawake_any w8 (HLA.out.below HE7.out.2.2)).mono ?_
        rintro e wA ⟨rfl, hb9⟩
        have HB9 := Lib.hid (HE7.out.2.2.trans (hb9.out.mono HE7.out.2.2.size))
        clear hb9
        go_wp2_with fail
        go_ret
        exact ⟨rfl, HB9.out⟩
end Go.Proofs.YtbfpbmnnlckldaaDoor.Fx
