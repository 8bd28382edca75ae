/-
  The walk of DeflateTells. The condition is that the argument reads as lists of bytes.
-/
import Derived.Test.YtggkmbnogdikkaaDeflTell
namespace Go.Proofs.Ytggkmbnogdikkaa.Fx
open Go Go.RowKit Go.Joins
set_option linter.unusedVariables false
theorem lists_at {W : World} {o : Option Addr} {n c : Nat} {us : List Value} {zss : List (List Nat)} (hus : listed (fun u : Value => u) W (.slice o n c) us) (hn : us.length = n) (hul : us.length = zss.length) (hel : ∀ (j : Nat) (u : Value) (zs : List Nat), us[j]? = some u → zss[j]? = some zs → bytesIn W u zs) (h8 : ∀ zs ∈ zss, ∀ x ∈ zs, x < 256) (k : Nat) (hk : k < n) :
    ∃ b off uo uc zs, o = some ⟨b, off, none⟩ ∧ b < W.heap.size ∧ W.cell? ⟨b, off + k, none⟩ = some (.slice uo zs.length uc) ∧ bytesIn W (.slice uo zs.length uc) zs ∧ ∀ x ∈ zs, x < 256 := by
  have h1 : k < us.length := by omega
  have h2 : k < zss.length := by omega
  have hb := hel k us[k] zss[k] (List.getElem?_eq_getElem h1) (List.getElem?_eq_getElem h2)
  obtain ⟨b, off, cap, eb, hlt, hc⟩ := listed_cell hus k us[k] (List.getElem?_eq_getElem h1)
  obtain ⟨uo, uc, eu⟩ := listed_length hb
  simp only [Value.slice.injEq] at eb
  refine ⟨b, off, uo, uc, zss[k], eb.1, hlt, ?_, ?_, h8 _ (List.getElem_mem h2)⟩
  · rw [← eu]
    exact hc
  · rw [← eu]
    exact hb
set_option maxHeartbeats 8000000 in
set_option maxRecDepth 100000 in
theorem tells_law (W : World) (lv : Value) (zss : List (List Nat)) (hr : listsIn W lv zss) (h8 : ∀ zs ∈ zss, ∀ x ∈ zs, x < 256) :
    Calls Try.prog 4 #[lv] W fun e w' => e = .returned (.bool true) ∧ Below W.heap.size W w' := by
  obtain ⟨us, hus, hul, hel⟩ := hr
  obtain ⟨N, eN⟩ : ∃ n, us.length = n := ⟨_, rfl⟩
  obtain ⟨lo, lc, elv⟩ := listed_length hus
  subst elv
  rw [eN] at hus ⊢
  have HE := Lib.hid (lists_at hus eN hul hel h8)
  clear hus hul hel h8 eN
  go_enter Try.func4, Try.ntmps4
  go_wp2_with fail
  go_at_call 14
  refine (new_code W).mono ?_
  rintro e w1 ⟨v, O1, rfl, k1, k2, k3⟩
  obtain ⟨va, hv⟩ : ∃ a, v = .pointer a := by
    obtain ⟨h, g, ov, OP, rfl, _⟩ := k1
    exact ⟨_, rfl⟩
  subst hv
  have hts := tell_start k1 k2 k3
  clear k1 k2 k3
  go_upto_region 3 with fail
  obtain ⟨w2, ew2⟩ : ∃ x, x = w1.alloc (.cells #[.slice none 0 0, .int .i64 0, .slice none 0 0, .int .i64 0, .bool false] 36) := ⟨_, rfl⟩
  rw [← ew2] at hts ⊢
  obtain ⟨g, eg⟩ : ∃ g, w1.heap.size = g := ⟨_, rfl⟩
  rw [eg] at hts ⊢
  have HTS := Lib.hid hts
  clear hts ew2 eg
  go_wp2_with fail
  go_loopw [5, 6] (fun s i wr => ∃ k m : Nat, k ≤ 12 ∧ m ≤ 600 ∧ i = .int .i64 k ∧ s = .int .i64 m ∧ Hid (∃ all : List Nat, all.length = m ∧ (∀ x ∈ all, x < 256) ∧ TellIs W (.pointer va) g all all wr)) (fun _ i _ => 12 - (intOf i).toNat)
  case atStart => exact ⟨0, 0, by omega, by omega, rfl, rfl, [], rfl, fun x hx => (by cases hx), HTS.out⟩
  case round =>
    obtain ⟨k, m, hk, hm, rfl, rfl, HALL⟩ := hrel
    obtain ⟨all, ALL⟩ := HALL.out
    have HT : Hid (TellIs W (.pointer va) g all all wr ∧ (∀ x ∈ all, x < 256) ∧ all.length ≤ 600) := ⟨ALL.2.2, ALL.2.1, by rw [ALL.1]; exact hm⟩
    have HM := Lib.hid ALL.1
    have HBW : Hid (Below W.heap.size W wr) := by
      obtain ⟨_, _, _, h⟩ := ALL.2.2
      exact h.below
    clear ALL
    by_cases hgo : k < N ∧ k < 12
    · obtain ⟨hg1, hg2⟩ := hgo
      have d1 : decide ((k : Int) < (N : Int)) = true := decide_eq_true (by omega)
      have d2 : decide ((k : Int) < 12) = true := decide_eq_true (by omega)
      obtain ⟨b, off, uo, uc, zs, elo, hblt, hcell, hzs, hz8⟩ := HE.out k hg1
      subst elo
      obtain ⟨L, eL⟩ : ∃ L, zs.length = L := ⟨_, rfl⟩
      rw [eL] at hcell hzs
      have HEL := Lib.hid eL
      have HZ := Lib.hid hzs
      have HZ8 := Lib.hid hz8
      have hcr := (HBW.out.cell (p := ⟨b, off + k, none⟩) hblt).trans hcell
      have HC := Lib.hid hcell
      clear eL hzs hz8 hcell
      by_cases hL : L ≤ 600
      · have hwm : IntKind.i64.wrap ((m : Int) + (L : Int)) = ((m + L : Nat) : Int) := by rw [IntKind.wrap_i64]; omega
        have d3 : decide ((600 : Int) < (L : Int)) = false := decide_eq_false (by omega)
        have d3' : decide (600 < L) = false := decide_eq_false (by omega)
        obtain ⟨M, eM⟩ : ∃ M, m + L = M := ⟨_, rfl⟩
        rw [eM] at hwm
        by_cases hM : M ≤ 600
        · have d4 : decide ((600 : Int) < (M : Int)) = false := decide_eq_false (by omega)
          have d4' : decide (600 < M) = false := decide_eq_false (by omega)
          go_upto_region 9 with fail
          go_wp2_with fail
          go_at_call 15
          refine (copy_code (.slice uo L uc) zs wr (listed_low HZ.out (fun q hq => inBlock_lt HZ.out hq) (Below.refl _ _) HBW.out) (by rw [HEL.out]; omega)).mono ?_
          rintro e w3 ⟨iv, rfl, hown, hb3⟩
          have HIN := Lib.hid (tell_copy HT.out.1 hown hb3)
          obtain ⟨io, ic, eiv⟩ := row_shape hown
          rw [HEL.out] at eiv
          subst eiv
          have HP : Hid ((∀ x ∈ all ++ zs, x < 256) ∧ (all ++ zs).length = M) := by
            refine ⟨fun x hx => ?_, by rw [List.length_append, HEL.out, HM.out]; exact eM⟩
            rcases List.mem_append.1 hx with h | h
            · exact HT.out.2.1 x h
            · exact HZ8.out x h
          have KW := tell_write HIN.out HP.out.1 (by rw [HP.out.2]; omega)
          clear hown hb3 hcr
          go_wp2_with fail
          go_at_call 16
          refine KW.mono ?_
          rintro e w4 ⟨x, rfl, HW4⟩
          obtain ⟨⟨O4, av4, lv4, hta, hti, htn⟩, hx4, hxg⟩ := HW4.out
          obtain ⟨ao4, ac4, ea4⟩ := listed_length hta.all
          obtain ⟨lo4, lc4, el4⟩ := listed_length hta.out
          subst ea4 el4
          have HTA := Lib.hid hta
          have HTI := Lib.hid (And.intro hti htn)
          have HX4 := Lib.hid (And.intro hx4 hxg)
          have hbox := hta.box
          have hbe4 : Below W.heap.size W w4 := hta.below
          have hgl := hta.glt
          have hlvl : ∀ q, inBlock (.slice lo4 (outOf all).length lc4) q → q < w4.heap.size := fun q hq => bools_in hta.out hq
          have KR0 := fun (w' : World) (hb : Below w4.heap.size w4 w') => rwrite_any _ _ (.slice uo L uc) all zs w' (listed_on hta.all hb) HP.out.1 (listed_on hta.out hb) (listed_on (listed_low HZ.out (fun q hq => inBlock_lt HZ.out hq) (Below.refl _ _) hbe4) hb) (by rw [HP.out.2]; omega)
          clear hta hti htn hx4 hxg
          obtain ⟨X4, eX4⟩ : ∃ X, bytesAt (outOf (all ++ zs)) ((outOf all).length / 8) ((outOf (all ++ zs)).length / 8 - (outOf all).length / 8) = X := ⟨_, rfl⟩
          obtain ⟨A2, eA2⟩ : ∃ A, 4096 * fullOf (all ++ zs).length = A := ⟨_, rfl⟩
          obtain ⟨T2, eT2⟩ : ∃ A, (outOf (all ++ zs)).length / 8 = A := ⟨_, rfl⟩
          obtain ⟨A4, eA4⟩ : ∃ A, 4096 * fullOf all.length = A := ⟨_, rfl⟩
          obtain ⟨T4, eT4⟩ : ∃ A, (outOf all).length / 8 = A := ⟨_, rfl⟩
          obtain ⟨l4, el4⟩ : ∃ A, (outOf all).length = A := ⟨_, rfl⟩
          obtain ⟨p4, ep4⟩ : ∃ A, all ++ zs = A := ⟨_, rfl⟩
          rw [eX4] at HX4 KR0
          rw [eA2, eT2, eA4, eT4] at KR0
          rw [eA4, eT4] at hbox
          rw [HM.out] at hbox KR0
          rw [el4] at hbox KR0 hlvl
          have KR : Hid (∀ w', Below w4.heap.size w4 w' → Calls Try.prog 17 #[.agg #[.slice ao4 m ac4, .int .i64 (A4 : Int), .slice lo4 l4 lc4, .int .i64 (T4 : Int), .bool false], .slice uo L uc] w' fun e w'' =>
              ∃ o1 n1 c1 o2 n2 c2 oy ny cy, e = .returned (.tuple #[.agg #[.slice o1 n1 c1, .int .i64 (A2 : Int), .slice o2 n2 c2, .int .i64 (T2 : Int), .bool false], .slice oy ny cy, .int .i64 0]) ∧ Hid (bytesIn w'' (.slice o1 n1 c1) (all ++ zs) ∧ bools w'' (.slice o2 n2 c2) (outOf (all ++ zs)) ∧ bytesIn w'' (.slice oy ny cy) X4 ∧ (∀ q, inBlock (.slice o1 n1 c1) q → w'.heap.size ≤ q) ∧ (∀ q, inBlock (.slice o2 n2 c2) q → .slice o2 n2 c2 = Value.slice lo4 l4 lc4 ∨ w'.heap.size ≤ q) ∧ (∀ q, inBlock (.slice oy ny cy) q → w'.heap.size ≤ q) ∧ Below w'.heap.size w' w'')) := by
            intro w' hb
            refine (KR0 w' hb).mono ?_
            rintro e w'' ⟨a1, l1, y1, rfl, v1, v2, v3, v4, v5, v6, v7, _⟩
            obtain ⟨o1, c1, rfl⟩ := listed_length v1
            obtain ⟨o2, c2, rfl⟩ := listed_length v2
            obtain ⟨oy, cy, rfl⟩ := listed_length v3
            exact ⟨o1, _, c1, o2, _, c2, oy, _, cy, rfl, v1, v2, v3, v4, v5, v6, v7⟩
          have hx0 : w4.cell? ⟨g, 0, none⟩ = some (.slice ao4 m ac4) := cell_of_block hbox 0
          have hx1 : w4.cell? ⟨g, 1, none⟩ = some (.int .i64 (A4 : Int)) := cell_of_block hbox 1
          have hx2 : w4.cell? ⟨g, 2, none⟩ = some (.slice lo4 l4 lc4) := cell_of_block hbox 2
          have hx3 : w4.cell? ⟨g, 3, none⟩ = some (.int .i64 (T4 : Int)) := cell_of_block hbox 3
          have hx4 : w4.cell? ⟨g, 4, none⟩ = some (.bool false) := cell_of_block hbox 4
          have hxc := (hbe4.cell (p := ⟨b, off + k, none⟩) hblt).trans HC.out
          have hbl4 : b < w4.heap.size := Nat.lt_of_lt_of_le hblt hbe4.size
          have HE4 := Lib.hid (And.intro eA2 (And.intro eT2 (And.intro eA4 eT4)))
          have HL4 := Lib.hid el4
          have HBX4 := Lib.hid hbox
          have HBE4 := Lib.hid hbe4
          have HLV := Lib.hid hlvl
          have hd1 : Below w4.heap.size w4 w4.drew := (Below.refl _ _).drew
          have hd2 : Below w4.heap.size w4 (w4.drew.alloc (.cells #[.slice none 0 0, .int .i64 0, .slice none 0 0, .int .i64 0, .bool false] 36)) := (Below.refl _ _).drew.alloc (Nat.le_refl _) _
          clear KR0 eX4 eA2 eT2 eA4 eT4 el4 ep4 hbox hbe4 hlvl
          go_upto_region 11 with fail
          go_cut [10, 11, 12] from 24 to 99 (fun s10 s11 s12 wx => ∃ (g2 : Nat) (o1 : Option Addr) (n1 c1 : Nat) (o2 : Option Addr) (n2 c2 : Nat) (oy : Option Addr) (ny cy : Nat), s10 = .pointer (some ⟨g2, 0, none⟩) ∧ s11 = .slice oy ny cy ∧ s12 = .int .i64 0 ∧ Hid (Laid w4 g2 (.slice o1 n1 c1) (.slice o2 n2 c2) (.slice lo4 l4 lc4) (.slice oy ny cy) A2 T2 (all ++ zs) X4 wx))
          case first =>
            have HS := Lib.hid (And.intro hx0 (And.intro hx1 (And.intro hx2 (And.intro hx3 (And.intro hx4 (And.intro hxc (Below.refl w4.heap.size w4)))))))
            go_region_held3 (fun w' => w'.cell? ⟨g, 0, none⟩ = some (.slice ao4 m ac4) ∧ w'.cell? ⟨g, 1, none⟩ = some (.int .i64 (A4 : Int)) ∧ w'.cell? ⟨g, 2, none⟩ = some (.slice lo4 l4 lc4) ∧ w'.cell? ⟨g, 3, none⟩ = some (.int .i64 (T4 : Int)) ∧ w'.cell? ⟨g, 4, none⟩ = some (.bool false) ∧ w'.cell? ⟨b, off + k, none⟩ = some (.slice uo L uc) ∧ Below w4.heap.size w4 w') (first | (with_reducible assumption) | with_reducible exact six_keep HS.out (Below.refl _ _).drew | with_reducible exact six_keep (six_keep HS.out (Below.refl _ _).drew) ((Below.refl _ _).alloc (Nat.le_refl _) _) | with_reducible exact six_keep (six_keep (six_keep HS.out (Below.refl _ _).drew) ((Below.refl _ _).alloc (Nat.le_refl _) _)) HV.out.2.2.2.2.2.2 | with_reducible exact six_keep (six_keep HS.out (Below.refl _ _).drew) HV.out.2.2.2.2.2.2 | with_reducible exact six_keep (six_keep (six_keep HS.out (Below.refl _ _).drew) HV.out.2.2.2.2.2.2) ((Below.refl _ _).alloc (Nat.le_refl _) _) | with_reducible exact six_store (six_store (six_store (six_store (six_store (six_keep (six_keep (six_keep HS.out (Below.refl _ _).drew) ((Below.refl _ _).alloc (Nat.le_refl _) _)) HV.out.2.2.2.2.2.2) hgl hbl4 (Nat.le_refl _)) hgl hbl4 (Nat.le_refl _)) hgl hbl4 (Nat.le_refl _)) hgl hbl4 (Nat.le_refl _)) hgl hbl4 (Nat.le_refl _) | with_reducible exact six_store (six_store (six_store (six_store (six_store (six_keep (six_keep (six_keep HS.out (Below.refl _ _).drew) HV.out.2.2.2.2.2.2) ((Below.refl _ _).alloc (Nat.le_refl _) _)) hgl hbl4 HV.out.2.2.2.2.2.2.size) hgl hbl4 HV.out.2.2.2.2.2.2.size) hgl hbl4 HV.out.2.2.2.2.2.2.size) hgl hbl4 HV.out.2.2.2.2.2.2.size) hgl hbl4 HV.out.2.2.2.2.2.2.size) (first | (go_at_call 17; refine (KR.out w4.drew hd1).mono ?_; rintro e w5 ⟨o1, n1, c1, o2, n2, c2, oy, ny, cy, rfl, HV⟩) | (go_at_call 17; refine (KR.out (w4.drew.alloc (.cells #[.slice none 0 0, .int .i64 0, .slice none 0 0, .int .i64 0, .bool false] 36)) hd2).mono ?_; rintro e w5 ⟨o1, n1, c1, o2, n2, c2, oy, ny, cy, rfl, HV⟩; have hlt9 : w4.heap.size < (w4.drew.alloc (.cells #[.slice none 0 0, .int .i64 0, .slice none 0 0, .int .i64 0, .bool false] 36)).heap.size := (by show _ < (w4.heap.push _).size; simp); have hzz := (HV.out.2.2.2.2.2.2.block w4.heap.size hlt9).trans (heap_alloc_new w4 _); have r0 := cell_of_block hzz 0; have r1 := cell_of_block hzz 1; have r2 := cell_of_block hzz 2; have r3 := cell_of_block hzz 3; have r4 := cell_of_block hzz 4; have f0 := unfrozen_of_block hzz 0; have f1 := unfrozen_of_block hzz 1; have f2 := unfrozen_of_block hzz 2; have f3 := unfrozen_of_block hzz 3; have f4 := unfrozen_of_block hzz 4))
            all_goals go_wp2_with fail
            all_goals go_meet
            all_goals first | with_reducible exact ⟨_, o1, n1, c1, o2, n2, c2, oy, ny, cy, rfl, rfl, rfl, Lib.hid (laid_new HV.out.1 HV.out.2.1 HV.out.2.2.1 HV.out.2.2.2.1 HV.out.2.2.2.2.1 HV.out.2.2.2.2.2.1 (Below.refl _ _).drew HV.out.2.2.2.2.2.2)⟩ | with_reducible exact ⟨_, o1, n1, c1, o2, n2, c2, oy, ny, cy, rfl, rfl, rfl, Lib.hid (laid_set (Nat.le_refl _) hlt9 hzz HLV.out HV.out.1 HV.out.2.1 HV.out.2.2.1 HV.out.2.2.2.1 HV.out.2.2.2.2.1 HV.out.2.2.2.2.2.1 hd2 HV.out.2.2.2.2.2.2)⟩
          case rest =>
            obtain ⟨g2, o1, n1, c1, o2, n2, c2, oy, ny, cy, rfl, rfl, rfl, HLD⟩ := hcut
            obtain ⟨w5, ew5⟩ : ∃ x, x = wc := ⟨_, rfl⟩
            rw [← ew5] at HLD ⊢
            clear ew5 hx0 hx1 hx2 hx3 hx4 hxc hd1 hd2
            obtain ⟨j1, j2, j3, j4, j5, j6, j7, j8, j9⟩ := HLD.out
            have hbg := (j9.block g hgl).trans HBX4.out
            have t0 : w5.cell? ⟨g2, 0, none⟩ = some (.slice o1 n1 c1) := cell_of_block j2 0
            have t1 : w5.cell? ⟨g2, 1, none⟩ = some (.int .i64 (A2 : Int)) := cell_of_block j2 1
            have t2 : w5.cell? ⟨g2, 2, none⟩ = some (.slice o2 n2 c2) := cell_of_block j2 2
            have t3 : w5.cell? ⟨g2, 3, none⟩ = some (.int .i64 (T2 : Int)) := cell_of_block j2 3
            have t4 : w5.cell? ⟨g2, 4, none⟩ = some (.bool false) := cell_of_block j2 4
            have s0 : w5.cell? ⟨g, 0, none⟩ = some (.slice ao4 m ac4) := cell_of_block hbg 0
            have s1 : w5.cell? ⟨g, 1, none⟩ = some (.int .i64 (A4 : Int)) := cell_of_block hbg 1
            have s2 : w5.cell? ⟨g, 2, none⟩ = some (.slice lo4 l4 lc4) := cell_of_block hbg 2
            have s3 : w5.cell? ⟨g, 3, none⟩ = some (.int .i64 (T4 : Int)) := cell_of_block hbg 3
            have s4 : w5.cell? ⟨g, 4, none⟩ = some (.bool false) := cell_of_block hbg 4
            have f0 := unfrozen_of_block hbg 0
            have f1 := unfrozen_of_block hbg 1
            have f2 := unfrozen_of_block hbg 2
            have f3 := unfrozen_of_block hbg 3
            have f4 := unfrozen_of_block hbg 4
            have HW6 : Hid (∀ w6, w6 = ((((w5.setCell ⟨g, 0, none⟩ (.slice o1 n1 c1)).setCell ⟨g, 1, none⟩ (.int .i64 (A2 : Int))).setCell ⟨g, 2, none⟩ (.slice o2 n2 c2)).setCell ⟨g, 3, none⟩ (.int .i64 (T2 : Int))).setCell ⟨g, 4, none⟩ (.bool false) →
                TellIn W (.pointer va) g (all ++ zs) (all ++ zs) (.slice io L ic) zs w6 ∧ bytesIn w6 x X4 ∧ bytesIn w6 (.slice oy ny cy) X4 ∧ Below W.heap.size W w6) := by
              intro w6 e6
              have hk : ∀ q, q ≠ g → w6.heap[q]? = w5.heap[q]? := fun q hq => by
                rw [e6]
                exact set5_heap _ _ _ _ _ _ _ _ hq
              have hs6 : w6.heap.size = w5.heap.size := by rw [e6]; simp
              have hB6 : Below W.heap.size W w6 := by
                have hgW := HTA.out.gW
                rw [e6]
                exact (((((HBE4.out.trans (j9.mono HBE4.out.size)).setCell (p := ⟨g, 0, none⟩) hgW _).setCell (p := ⟨g, 1, none⟩) hgW _).setCell (p := ⟨g, 2, none⟩) hgW _).setCell (p := ⟨g, 3, none⟩) hgW _).setCell (p := ⟨g, 4, none⟩) hgW _
              have hbox6 : w6.heap[g]? = some (.cells (refCells (.slice o1 n1 c1) (.slice o2 n2 c2) (4096 * fullOf (all ++ zs).length) ((outOf (all ++ zs)).length / 8)) 36 (0, 0)) := by
                rw [HE4.out.1, HE4.out.2.1, e6]
                exact block_setCell (block_setCell (block_setCell (block_setCell (block_setCell hbg _) _) _) _) _
              have hta := HTA.out
              have hti := HTI.out
              rw [HM.out, HL4.out] at hta hti
              refine ⟨tell_read hta hti.1 hti.2 j9 j3 j4 (fun q hq => (j6 q hq).1) (fun q hq => (j7 q hq).1) hs6 hB6 hbox6 hk, ?_, ?_, hB6⟩
              · exact listed_kept (listed_on HX4.out.1 j9) (Nat.le_of_eq hs6.symm) (fun q hq => hk q (HX4.out.2 q hq))
              · exact listed_kept j5 (Nat.le_of_eq hs6.symm) (fun q hq => hk q (by have := (j8 q hq).1; omega))
            clear j1 j2 j3 j4 j5 j6 j7 j8 j9 hbg
            go_upto_region 13 with fail
            obtain ⟨w6, ew6⟩ : ∃ x, x = ((((w5.setCell ⟨g, 0, none⟩ (.slice o1 n1 c1)).setCell ⟨g, 1, none⟩ (.int .i64 (A2 : Int))).setCell ⟨g, 2, none⟩ (.slice o2 n2 c2)).setCell ⟨g, 3, none⟩ (.int .i64 (T2 : Int))).setCell ⟨g, 4, none⟩ (.bool false) := ⟨_, rfl⟩
            have HIN6 := Lib.hid (HW6.out w6 ew6)
            rw [← ew6]
            clear ew6 HW6 t0 t1 t2 t3 t4 s0 s1 s2 s3 s4 f0 f1 f2 f3 f4
            have hxc6 := (HIN6.out.2.2.2.cell (p := ⟨b, off + k, none⟩) hblt).trans HC.out
            have HSS : Hid (bytesIn w6 (.slice io L ic) zs ∧ bytesIn w6 (.slice uo L uc) zs) := by
              obtain ⟨_, _, _, _, h, _⟩ := HIN6.out.1
              exact ⟨own_is h, listed_low HZ.out (fun q hq => inBlock_lt HZ.out hq) (Below.refl _ _) HIN6.out.2.2.2⟩
            go_wp2_with fail
            go_at_call 9
            refine (same_yes x (.slice oy ny cy) X4 w6 HIN6.out.2.1 HIN6.out.2.2.1).mono ?_
            rintro e w7 ⟨rfl, rfl⟩
            go_wp2_with fail
            go_at_call 9
            refine (same_yes _ _ zs w6 HSS.out.1 HSS.out.2).mono ?_
            rintro e w7 ⟨rfl, rfl⟩
            clear hxc6 HSS
            have HZS : Hid (∃ ws : List Nat, ws.length = L ∧ TellIn W (.pointer va) g (all ++ zs) (all ++ zs) (.slice io L ic) ws w6) := ⟨zs, HEL.out, HIN6.out.1⟩
            go_wp2_with fail
            go_loopw [13] (fun j wz => ∃ t : Nat, t ≤ L ∧ j = .int .i64 t ∧ Hid (∃ ws : List Nat, ws.length = L ∧ TellIn W (.pointer va) g (all ++ zs) (all ++ zs) (.slice io L ic) ws wz)) (fun j _ => L - (intOf j).toNat)
            case atStart => exact ⟨0, Nat.zero_le _, rfl, HZS.out⟩
            case round =>
              obtain ⟨t, ht, rfl, HWS⟩ := hrel
              obtain ⟨ws, hwl, hws⟩ := HWS.out
              by_cases htl : t < L
              · have d5 : decide ((t : Int) < (L : Int)) = true := decide_eq_true (by omega)
                have d5' : decide (t < L) = true := decide_eq_true htl
                obtain ⟨q, eio⟩ : ∃ q, io = some ⟨q, 0, none⟩ := by
                  obtain ⟨_, _, _, _, ho, _⟩ := hws
                  obtain ⟨q, cap, h⟩ := ownsRow_form ho (by omega)
                  simp only [Value.slice.injEq] at h
                  exact ⟨q, h.1⟩
                subst eio
                obtain ⟨hcz, hfz⟩ : wr.cell? ⟨q, t, none⟩ = some (.int .u8 ((ws.getD t 0 : Nat) : Int)) ∧ wr.frozen? ⟨q, t, none⟩ = false := by
                  obtain ⟨_, _, _, _, ho, _⟩ := hws
                  rw [hwl] at ho
                  refine ⟨(World.ownsRow.cellAt ho t (by omega)).trans ?_, World.ownsRow.frozenAt ho t⟩
                  rw [List.getElem?_map, List.getElem?_eq_getElem (by omega)]
                  simp [byteVal, List.getD, show t < ws.length by omega]
                have HWS2 : Hid (∃ w', w' = wr.setCell ⟨q, t, none⟩ (.int .u8 0) ∧ TellIn W (.pointer va) g (all ++ zs) (all ++ zs) (.slice (some ⟨q, 0, none⟩) L ic) (ws.set t 0) w') := ⟨_, rfl, tell_zero hws hwl t⟩
                have HWL := Lib.hid hwl
                clear hws hwl
                go_wp2_with fail
                go_roundw
                case rel =>
                  obtain ⟨w', ew', h⟩ := HWS2.out
                  subst ew'
                  exact ⟨t + 1, by omega, by go_num, ws.set t 0, by rw [List.length_set]; exact HWL.out, h⟩
                case measure => simp [intOf]; omega
              · have d5 : decide ((t : Int) < (L : Int)) = false := decide_eq_false (by omega)
                have d5' : decide (t < L) = false := decide_eq_false htl
                have HTD := Lib.hid (tell_done hws)
                clear hws hwl
                go_wp2_with fail
                go_roundw
                case rel => exact ⟨k + 1, M, by omega, hM, by go_num, rfl, all ++ zs, HP.out.2, HP.out.1, HTD.out⟩
                case measure => simp [intOf]; omega
        · have d4 : decide ((600 : Int) < (M : Int)) = true := decide_eq_true (by omega)
          have d4' : decide (600 < M) = true := decide_eq_true (by omega)
          go_upto_region 19 with fail
          have KE := tell_end HT.out.1 HT.out.2.1 (by have := HT.out.2.2; omega)
          go_wp2_with fail
          go_at_call 18
          refine KE.mono ?_
          rintro e w6 ⟨x6, rfl, HEND⟩
          obtain ⟨O6, av6, lv6, k1, k2, k3, k4, k5, k6⟩ := HEND.out
          obtain ⟨ao6, ac6, ea6⟩ := listed_length k3
          obtain ⟨lo6, lc6, el6⟩ := listed_length k4
          subst ea6 el6
          have KR := rend_any _ _ all w6 k3 HT.out.2.1 k4 (by have := HT.out.2.2; omega)
          obtain ⟨A6, eA6⟩ : ∃ A, 4096 * fullOf all.length = A := ⟨_, rfl⟩
          obtain ⟨T6, eT6⟩ : ∃ A, (outOf all).length / 8 = A := ⟨_, rfl⟩
          obtain ⟨m6, em6⟩ : ∃ A, all.length = A := ⟨_, rfl⟩
          obtain ⟨l6, el6⟩ : ∃ A, (outOf all).length = A := ⟨_, rfl⟩
          obtain ⟨X6, eX6⟩ : ∃ X, bytesAt (endOf all) ((outOf all).length / 8) ((endOf all).length / 8 - (outOf all).length / 8) = X := ⟨_, rfl⟩
          rw [eX6] at KR k5
          rw [eA6, eT6] at KR k2
          rw [em6, el6] at KR k2
          have s0 : w6.cell? ⟨g, 0, none⟩ = some (.slice ao6 m6 ac6) := cell_of_block k2 0
          have s1 : w6.cell? ⟨g, 1, none⟩ = some (.int .i64 (A6 : Int)) := cell_of_block k2 1
          have s2 : w6.cell? ⟨g, 2, none⟩ = some (.slice lo6 l6 lc6) := cell_of_block k2 2
          have s3 : w6.cell? ⟨g, 3, none⟩ = some (.int .i64 (T6 : Int)) := cell_of_block k2 3
          have s4 : w6.cell? ⟨g, 4, none⟩ = some (.bool false) := cell_of_block k2 4
          have HK6 := Lib.hid (And.intro k1 (And.intro k5 k6))
          clear k1 k2 k3 k4 k5 k6 eA6 eT6 em6 el6 eX6 KE
          go_wp2_with fail
          go_at_call 19
          refine KR.mono ?_
          rintro e w7 ⟨i1, i2, i3, i4, i5, i6, i7, i8, y7, rfl, hy7, _, hb7⟩
          have HE8 : Hid (∀ w8, Below w7.heap.size w7 w8 → isDE w8 (.pointer va) O6 ∧ bytesIn w8 x6 X6 ∧ bytesIn w8 y7 X6 ∧ Below W.heap.size W w8) := fun w8 h8 => by
            have hb8 := hb7.trans (h8.mono hb7.size)
            exact ⟨isDE_keep _ _ _ _ HK6.out.1 (fun k hk => hb8.block k (isDE_lt _ _ _ HK6.out.1 k hk)), listed_on HK6.out.2.1 hb8, listed_on hy7 h8, HK6.out.2.2.trans (hb8.mono HK6.out.2.2.size)⟩
          clear s0 s1 s2 s3 s4 hy7 hb7 KR
          go_wp2_with fail
          obtain ⟨w8, ew8⟩ : ∃ x, x = w7.alloc (.cells #[.slice i1 i2 i3, .int .i64 i4, .slice i5 i6 i7, .int .i64 i8, .bool true] 36) := ⟨_, rfl⟩
          have HE7 := Lib.hid (HE8.out w8 (by rw [ew8]; exact (Below.refl _ _).alloc (Nat.le_refl _) _))
          rw [← ew8]
          clear ew8 HE8
          go_at_call 18
          refine (endOver_code w8 _ O6 HE7.out.1).mono ?_
          rintro e w9 ⟨rfl, rfl⟩
          go_wp2_with fail
          go_at_call 16
          refine (writeOver_code w8 _ _ O6 HE7.out.1).mono ?_
          rintro e w9 ⟨rfl, rfl⟩
          go_wp2_with fail
          go_at_call 9
          refine (same_yes x6 y7 X6 w8 HE7.out.2.1 HE7.out.2.2.1).mono ?_
          rintro e w9 ⟨rfl, rfl⟩
          go_wp2_with fail
          go_at_call 13
          refine (awake_any w8).mono ?_
          rintro e wA ⟨rfl, hb9⟩
          have HB9 := Lib.hid (HE7.out.2.2.2.trans (hb9.mono HE7.out.2.2.2.size))
          clear hb9
          go_wp2_with fail
          go_ret
          exact ⟨rfl, HB9.out⟩
      · obtain ⟨X, hX⟩ : ∃ X, IntKind.i64.wrap ((m : Int) + (L : Int)) = X := ⟨_, rfl⟩
        have d3 : decide ((600 : Int) < (L : Int)) = true := decide_eq_true (by omega)
        have d3' : decide (600 < L) = true := decide_eq_true (by omega)
        go_upto_region 19 with fail
        have KE := tell_end HT.out.1 HT.out.2.1 (by have := HT.out.2.2; omega)
        go_wp2_with fail
        go_at_call 18
        refine KE.mono ?_
        rintro e w6 ⟨x6, rfl, HEND⟩
        obtain ⟨O6, av6, lv6, k1, k2, k3, k4, k5, k6⟩ := HEND.out
        obtain ⟨ao6, ac6, ea6⟩ := listed_length k3
        obtain ⟨lo6, lc6, el6⟩ := listed_length k4
        subst ea6 el6
        have KR := rend_any _ _ all w6 k3 HT.out.2.1 k4 (by have := HT.out.2.2; omega)
        obtain ⟨A6, eA6⟩ : ∃ A, 4096 * fullOf all.length = A := ⟨_, rfl⟩
        obtain ⟨T6, eT6⟩ : ∃ A, (outOf all).length / 8 = A := ⟨_, rfl⟩
        obtain ⟨m6, em6⟩ : ∃ A, all.length = A := ⟨_, rfl⟩
        obtain ⟨l6, el6⟩ : ∃ A, (outOf all).length = A := ⟨_, rfl⟩
        obtain ⟨X6, eX6⟩ : ∃ X, bytesAt (endOf all) ((outOf all).length / 8) ((endOf all).length / 8 - (outOf all).length / 8) = X := ⟨_, rfl⟩
        rw [eX6] at KR k5
        rw [eA6, eT6] at KR k2
        rw [em6, el6] at KR k2
        have s0 : w6.cell? ⟨g, 0, none⟩ = some (.slice ao6 m6 ac6) := cell_of_block k2 0
        have s1 : w6.cell? ⟨g, 1, none⟩ = some (.int .i64 (A6 : Int)) := cell_of_block k2 1
        have s2 : w6.cell? ⟨g, 2, none⟩ = some (.slice lo6 l6 lc6) := cell_of_block k2 2
        have s3 : w6.cell? ⟨g, 3, none⟩ = some (.int .i64 (T6 : Int)) := cell_of_block k2 3
        have s4 : w6.cell? ⟨g, 4, none⟩ = some (.bool false) := cell_of_block k2 4
        have HK6 := Lib.hid (And.intro k1 (And.intro k5 k6))
        clear k1 k2 k3 k4 k5 k6 eA6 eT6 em6 el6 eX6 KE
        go_wp2_with fail
        go_at_call 19
        refine KR.mono ?_
        rintro e w7 ⟨i1, i2, i3, i4, i5, i6, i7, i8, y7, rfl, hy7, _, hb7⟩
        have HE8 : Hid (∀ w8, Below w7.heap.size w7 w8 → isDE w8 (.pointer va) O6 ∧ bytesIn w8 x6 X6 ∧ bytesIn w8 y7 X6 ∧ Below W.heap.size W w8) := fun w8 h8 => by
          have hb8 := hb7.trans (h8.mono hb7.size)
          exact ⟨isDE_keep _ _ _ _ HK6.out.1 (fun k hk => hb8.block k (isDE_lt _ _ _ HK6.out.1 k hk)), listed_on HK6.out.2.1 hb8, listed_on hy7 h8, HK6.out.2.2.trans (hb8.mono HK6.out.2.2.size)⟩
        clear s0 s1 s2 s3 s4 hy7 hb7 KR
        go_wp2_with fail
        obtain ⟨w8, ew8⟩ : ∃ x, x = w7.alloc (.cells #[.slice i1 i2 i3, .int .i64 i4, .slice i5 i6 i7, .int .i64 i8, .bool true] 36) := ⟨_, rfl⟩
        have HE7 := Lib.hid (HE8.out w8 (by rw [ew8]; exact (Below.refl _ _).alloc (Nat.le_refl _) _))
        rw [← ew8]
        clear ew8 HE8
        go_at_call 18
        refine (endOver_code w8 _ O6 HE7.out.1).mono ?_
        rintro e w9 ⟨rfl, rfl⟩
        go_wp2_with fail
        go_at_call 16
        refine (writeOver_code w8 _ _ O6 HE7.out.1).mono ?_
        rintro e w9 ⟨rfl, rfl⟩
        go_wp2_with fail
        go_at_call 9
        refine (same_yes x6 y7 X6 w8 HE7.out.2.1 HE7.out.2.2.1).mono ?_
        rintro e w9 ⟨rfl, rfl⟩
        go_wp2_with fail
        go_at_call 13
        refine (awake_any w8).mono ?_
        rintro e wA ⟨rfl, hb9⟩
        have HB9 := Lib.hid (HE7.out.2.2.2.trans (hb9.mono HE7.out.2.2.2.size))
        clear hb9
        go_wp2_with fail
        go_ret
        exact ⟨rfl, HB9.out⟩
    · have hcs2 : ((decide ((k : Int) < (N : Int)) = true ∧ decide (k < N) = true) ∧ (decide ((k : Int) < 12) = false ∧ decide (k < 12) = false)) ∨ (decide ((k : Int) < (N : Int)) = false ∧ decide (k < N) = false) := by
        by_cases h : k < N
        · exact .inl ⟨⟨decide_eq_true (by omega), decide_eq_true h⟩, decide_eq_false (by omega), decide_eq_false (by omega)⟩
        · exact .inr ⟨decide_eq_false (by omega), decide_eq_false h⟩
      rcases hcs2 with ⟨⟨d1, d1'⟩, d2, d2'⟩ | ⟨d1, d1'⟩ <;>
      · skip
        go_upto_region 19 with fail
        have KE := tell_end HT.out.1 HT.out.2.1 (by have := HT.out.2.2; omega)
        go_wp2_with fail
        go_at_call 18
        refine KE.mono ?_
        rintro e w6 ⟨x6, rfl, HEND⟩
        obtain ⟨O6, av6, lv6, k1, k2, k3, k4, k5, k6⟩ := HEND.out
        obtain ⟨ao6, ac6, ea6⟩ := listed_length k3
        obtain ⟨lo6, lc6, el6⟩ := listed_length k4
        subst ea6 el6
        have KR := rend_any _ _ all w6 k3 HT.out.2.1 k4 (by have := HT.out.2.2; omega)
        obtain ⟨A6, eA6⟩ : ∃ A, 4096 * fullOf all.length = A := ⟨_, rfl⟩
        obtain ⟨T6, eT6⟩ : ∃ A, (outOf all).length / 8 = A := ⟨_, rfl⟩
        obtain ⟨m6, em6⟩ : ∃ A, all.length = A := ⟨_, rfl⟩
        obtain ⟨l6, el6⟩ : ∃ A, (outOf all).length = A := ⟨_, rfl⟩
        obtain ⟨X6, eX6⟩ : ∃ X, bytesAt (endOf all) ((outOf all).length / 8) ((endOf all).length / 8 - (outOf all).length / 8) = X := ⟨_, rfl⟩
        rw [eX6] at KR k5
        rw [eA6, eT6] at KR k2
        rw [em6, el6] at KR k2
        have s0 : w6.cell? ⟨g, 0, none⟩ = some (.slice ao6 m6 ac6) := cell_of_block k2 0
        have s1 : w6.cell? ⟨g, 1, none⟩ = some (.int .i64 (A6 : Int)) := cell_of_block k2 1
        have s2 : w6.cell? ⟨g, 2, none⟩ = some (.slice lo6 l6 lc6) := cell_of_block k2 2
        have s3 : w6.cell? ⟨g, 3, none⟩ = some (.int .i64 (T6 : Int)) := cell_of_block k2 3
        have s4 : w6.cell? ⟨g, 4, none⟩ = some (.bool false) := cell_of_block k2 4
        have HK6 := Lib.hid (And.intro k1 (And.intro k5 k6))
        clear k1 k2 k3 k4 k5 k6 eA6 eT6 em6 el6 eX6 KE
        go_wp2_with fail
        go_at_call 19
        refine KR.mono ?_
        rintro e w7 ⟨i1, i2, i3, i4, i5, i6, i7, i8, y7, rfl, hy7, _, hb7⟩
        have HE8 : Hid (∀ w8, Below w7.heap.size w7 w8 → isDE w8 (.pointer va) O6 ∧ bytesIn w8 x6 X6 ∧ bytesIn w8 y7 X6 ∧ Below W.heap.size W w8) := fun w8 h8 => by
          have hb8 := hb7.trans (h8.mono hb7.size)
          exact ⟨isDE_keep _ _ _ _ HK6.out.1 (fun k hk => hb8.block k (isDE_lt _ _ _ HK6.out.1 k hk)), listed_on HK6.out.2.1 hb8, listed_on hy7 h8, HK6.out.2.2.trans (hb8.mono HK6.out.2.2.size)⟩
        clear s0 s1 s2 s3 s4 hy7 hb7 KR
        go_wp2_with fail
        obtain ⟨w8, ew8⟩ : ∃ x, x = w7.alloc (.cells #[.slice i1 i2 i3, .int .i64 i4, .slice i5 i6 i7, .int .i64 i8, .bool true] 36) := ⟨_, rfl⟩
        have HE7 := Lib.hid (HE8.out w8 (by rw [ew8]; exact (Below.refl _ _).alloc (Nat.le_refl _) _))
        rw [← ew8]
        clear ew8 HE8
        go_at_call 18
        refine (endOver_code w8 _ O6 HE7.out.1).mono ?_
        rintro e w9 ⟨rfl, rfl⟩
        go_wp2_with fail
        go_at_call 16
        refine (writeOver_code w8 _ _ O6 HE7.out.1).mono ?_
        rintro e w9 ⟨rfl, rfl⟩
        go_wp2_with fail
        go_at_call 9
        refine (same_yes x6 y7 X6 w8 HE7.out.2.1 HE7.out.2.2.1).mono ?_
        rintro e w9 ⟨rfl, rfl⟩
        go_wp2_with fail
        go_at_call 13
        refine (awake_any w8).mono ?_
        rintro e wA ⟨rfl, hb9⟩
        have HB9 := Lib.hid (HE7.out.2.2.2.trans (hb9.mono HE7.out.2.2.2.size))
        clear hb9
        go_wp2_with fail
        go_ret
        exact ⟨rfl, HB9.out⟩
end Go.Proofs.Ytggkmbnogdikkaa.Fx
