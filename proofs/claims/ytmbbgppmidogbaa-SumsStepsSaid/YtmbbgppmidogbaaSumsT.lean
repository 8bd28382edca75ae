/-
  The table of the CRC, made when it is asked. No condition.
-/
import Derived.Deep.WholeRow
import Derived.Test.YtmbbgppmidogbaaSumsStepsWalk
namespace Go.Proofs.Ytmbbgppmidogbaa.Fx
open Go Go.RowKit Go.Joins
set_option linter.unusedVariables false
/-- The table's cells behind some rounds: those at multiples of 2B, and at B's below i; and all of them. -/
def ti (B i : Nat) : Array Value := (Array.range 256).map fun j => .int .u32 (if j % (2 * B) = 0 ∨ (j % B = 0 ∧ j < i) then ((shn 8 j : Nat) : Int) else 0)
def full : Array Value := (Array.range 256).map fun j => .int .u32 ((shn 8 j : Nat) : Int)
theorem ti_size (B i : Nat) : (ti B i).size = 256 := by simp [ti]
theorem full_size : full.size = 256 := by simp [full]
theorem ti_get (B i j : Nat) (hj : j < 256) : (ti B i)[j]? = some (.int .u32 (if j % (2 * B) = 0 ∨ (j % B = 0 ∧ j < i) then ((shn 8 j : Nat) : Int) else 0)) := by
  simp [ti, hj]
theorem full_get (j : Nat) (hj : j < 256) : full[j]? = some (.int .u32 ((shn 8 j : Nat) : Int)) := by
  simp [full, hj]
theorem full_cells : full.all (·.oneCell') = true := by
  rw [Array.all_eq_true]
  intro i hi
  simp [full, Value.oneCell']
def pow7 (B : Nat) : Prop := B = 128 ∨ B = 64 ∨ B = 32 ∨ B = 16 ∨ B = 8 ∨ B = 4 ∨ B = 2 ∨ B = 1
theorem ti_ext {B i C k : Nat} (h : ∀ j, j < 256 → ((j % (2 * B) = 0 ∨ (j % B = 0 ∧ j < i)) ↔ (j % (2 * C) = 0 ∨ (j % C = 0 ∧ j < k)))) : ti B i = ti C k := by
  unfold ti
  apply Array.ext
  · simp
  · intro j h1 h2
    have hj : j < 256 := by simpa using h1
    simp only [Array.getElem_map, Array.getElem_range]
    simp only [h j hj]
theorem ti_next {B : Nat} (hB : pow7 B) (h1 : B ≠ 1) : ti B 256 = ti (B / 2) 0 := by
  refine ti_ext fun j hj => ?_
  rcases hB with rfl | rfl | rfl | rfl | rfl | rfl | rfl | rfl <;> omega
theorem ti_last : ti 1 256 = full := by
  unfold ti full
  apply Array.ext
  · simp
  · intro j h1 h2
    have hj : j < 256 := by simpa using h1
    simp only [Array.getElem_map, Array.getElem_range]
    rw [if_pos (.inr ⟨Nat.mod_one _, hj⟩)]
theorem ti_set {B i : Nat} (hB : pow7 B) (hi : i < 256) (hm : i % (2 * B) = 0) : (ti B i).setIfInBounds (i + B) (.int .u32 ((shn 8 (i + B) : Nat) : Int)) = ti B (i + 2 * B) := by
  have hk : i + B < 256 := by rcases hB with rfl | rfl | rfl | rfl | rfl | rfl | rfl | rfl <;> omega
  have hkm : (i + B) % B = 0 := by rcases hB with rfl | rfl | rfl | rfl | rfl | rfl | rfl | rfl <;> omega
  apply Array.ext
  · rw [Array.size_setIfInBounds, ti_size, ti_size]
  · intro j h1 h2
    have hj : j < 256 := by rw [ti_size] at h2; exact h2
    rw [Array.getElem_setIfInBounds (by rw [ti_size]; exact hj)]
    by_cases e : i + B = j
    · subst e
      rw [if_pos rfl]
      have hb0 : 0 < B := by rcases hB with rfl | rfl | rfl | rfl | rfl | rfl | rfl | rfl <;> omega
      simp only [ti, Array.getElem_map, Array.getElem_range]
      rw [if_pos (.inr ⟨hkm, by omega⟩)]
    · rw [if_neg e]
      have hiff : (j % (2 * B) = 0 ∨ (j % B = 0 ∧ j < i)) ↔ (j % (2 * B) = 0 ∨ (j % B = 0 ∧ j < i + 2 * B)) := by
        rcases hB with rfl | rfl | rfl | rfl | rfl | rfl | rfl | rfl <;> omega
      simp only [ti, Array.getElem_map, Array.getElem_range]
      simp only [hiff]
theorem xor_add {B i : Nat} (hB : pow7 B) (hi : i < 256) (hm : i % (2 * B) = 0) : i ^^^ B = i + B := by
  rcases hB with rfl | rfl | rfl | rfl | rfl | rfl | rfl | rfl
  · exact (show ∀ i, i < 256 → i % (2 * 128) = 0 → i ^^^ 128 = i + 128 by decide +kernel) i hi hm
  · exact (show ∀ i, i < 256 → i % (2 * 64) = 0 → i ^^^ 64 = i + 64 by decide +kernel) i hi hm
  · exact (show ∀ i, i < 256 → i % (2 * 32) = 0 → i ^^^ 32 = i + 32 by decide +kernel) i hi hm
  · exact (show ∀ i, i < 256 → i % (2 * 16) = 0 → i ^^^ 16 = i + 16 by decide +kernel) i hi hm
  · exact (show ∀ i, i < 256 → i % (2 * 8) = 0 → i ^^^ 8 = i + 8 by decide +kernel) i hi hm
  · exact (show ∀ i, i < 256 → i % (2 * 4) = 0 → i ^^^ 4 = i + 4 by decide +kernel) i hi hm
  · exact (show ∀ i, i < 256 → i % (2 * 2) = 0 → i ^^^ 2 = i + 2 by decide +kernel) i hi hm
  · exact (show ∀ i, i < 256 → i % (2 * 1) = 0 → i ^^^ 1 = i + 1 by decide +kernel) i hi hm
theorem shn_sum {B i : Nat} (hB : pow7 B) (hi : i < 256) (hm : i % (2 * B) = 0) : shn 8 (i + B) = shn 8 i ^^^ shn 8 B := by
  rw [← xor_add hB hi hm, shn_xor]
theorem sh_shn (k c : Nat) : sh (shn k c) = shn (k + 1) c := by
  rw [shn_add k 1 c, shn, shn]
theorem shn_half (B : Nat) : sh (shn 8 (2 * B)) = shn 8 B := by
  have e : shn 8 (2 * B) = shn 7 B := by
    rw [show (8 : Nat) = 7 + 1 from rfl, shn, Nat.mul_comm, sh_even]
  rw [e, sh_shn]
theorem shn_first : shn 8 (2 * 128) = 1 := by decide +kernel
theorem info_tbl : (Try.prog.info? 35).map (fun i => (i.zero, i.size)) = some (some (.agg (ti 128 0)), 256) := by kernel_rfl
theorem set_new (w : World) (c : Array Value) (t : TypeId) (j : Nat) (v : Value) : (w.alloc (.cells c t)).setCell ⟨w.heap.size, j, none⟩ v = w.alloc (.cells (c.setIfInBounds j v) t) := by
  rw [setCell_eq_setRow _ w.heap.size j c t (0, 0) v (heap_alloc_last w _), World.setRow_alloc_new]
theorem wp_load_row {P : Program} {o : Oper} {a : Act} {K : Act → World → Prop} {Q : Exit → Act → World → Prop} {w : World} {t : TypeId} {p : Operand} {v x : Value} (ho : o.op = .load t p) (hp : a.eval p = x)
    (hrun : (Instr.loadAt t x).run P w = .ok v w) (h : K (a.put o.dst v) w) : o.wp P a w K Q := by
  unfold Oper.wp
  have : (execOp a.eval o).run P w = .ok (.value v) w := by simp [execOp, ho, hp, hrun, Result.andThen]
  rw [this]
  exact h
theorem wp_store_row {P : Program} {o : Oper} {a : Act} {K : Act → World → Prop} {Q : Exit → Act → World → Prop} {w w' : World} {t : TypeId} {p q : Operand} {v x : Value} (ho : o.op = .store t p q) (hp : a.eval p = x) (hq : a.eval q = v)
    (hrun : (Instr.storeAt t x v).run P w = .ok () w') (h : K (a.put o.dst undef) w') : o.wp P a w K Q := by
  unfold Oper.wp
  have : (execOp a.eval o).run P w = .ok .skip w' := by simp [execOp, ho, hp, hq, hrun, Result.andThen]
  rw [this]
  exact h
theorem load_row (w : World) (g : Nat) (cs : Array Value) (hg : w.heap[g]? = some (.cells cs 35 (0, 0))) (hs : cs.size = 256) :
    (Instr.loadAt 35 (.pointer (some ⟨g, 0, none⟩))).run Try.prog w = .ok (.agg cs) w := by
  simp only [Instr.loadAt, Instr.sureAddr, Sem.run_bind, Sem.run_pure, Result.andThen]
  exact run_loadVar_row w g 35 35 cs (0, 0) _ hg Try.underlying35 rfl (by rw [hs]; exact (zero_of_info info_tbl).2)
theorem store_row (w : World) (g : Nat) (old cs : Array Value) (hg : w.heap[g]? = some (.cells old 35 (0, 0))) (ho : old.size = 256) (hs : cs.size = 256) (h1 : cs.all (·.oneCell') = true) :
    (Instr.storeAt 35 (.pointer (some ⟨g, 0, none⟩)) (.agg cs)).run Try.prog w = .ok () (w.setRow g cs) := by
  simp only [Instr.storeAt, Instr.sureAddr, Sem.run_bind, Sem.run_pure, Result.andThen]
  exact run_storeVar_row w g 35 35 old cs hg (by rw [hs]; exact (zero_of_info info_tbl).2) (by omega) h1
theorem below_setRow {B g : Nat} {a w : World} (h : Below B a w) (hg : B ≤ g) (cs : Array Value) : Below B a (w.setRow g cs) := by
  refine ⟨h.os, h.tape, h.output, ?_, fun k hk => ?_⟩
  · show a.heap.size ≤ (w.heap.modify g _).size
    rw [Array.size_modify]
    exact h.size
  · show (w.heap.modify g _)[k]? = _
    rw [Array.getElem?_modify, if_neg (by omega)]
    exact h.block k hk
set_option maxHeartbeats 1000000 in
theorem halved_any (C D : Nat) (h : sh C = D) (hC : C ≤ 4294967295) (w : World) :
    Calls Try.prog 18 #[.int .u32 (C : Int)] w fun e w' => e = .returned (.int .u32 (D : Int)) ∧ w = w' := by
  have hand := u32_and_nat C 1 (by omega) (by decide)
  rw [Nat.and_one_is_mod] at hand
  have hand : bits .and .u32 (C : Int) 1 = ((C % 2 : Nat) : Int) := hand
  have b2 : C % 2 ≤ 1 := by omega
  by_cases h2 : C % 2 = 1
  · have hq := sh_odd (X := C) (by omega) h2
    rw [h] at hq
    rw [h2] at hand
    have ht : (((1 : Nat) : Int) == 1) = true := by decide
    go_enter Try.func18, Try.ntmps18
    go_wp2
    go_ret
    exact ⟨rfl, rfl⟩
  · have hq : (C : Int) / 2 = (D : Nat) := by rw [← h, sh_if, if_neg h2]; omega
    rw [show C % 2 = 0 by omega] at hand
    have ht : (((0 : Nat) : Int) == 1) = false := by decide
    go_enter Try.func18, Try.ntmps18
    go_wp2
    go_ret
    exact ⟨rfl, rfl⟩
theorem pow7_half {B : Nat} (hB : pow7 B) : pow7 (B / 2) ∧ B ≠ 1 ∨ B = 1 := by
  unfold pow7 at *
  rcases hB with rfl | rfl | rfl | rfl | rfl | rfl | rfl | rfl <;> simp
set_option maxHeartbeats 4000000 in
set_option maxRecDepth 100000 in
theorem rests_any (w : World) :
    Calls Try.prog 17 #[] w fun e w' => e = .returned (.agg full) ∧ Below w.heap.size w w' := by
  obtain ⟨hz, hi⟩ := zero_of_info info_tbl
  generalize e0 : ti 128 0 = Z at hz
  have E0 := Lib.hid e0
  clear e0
  go_enter Try.func17, Try.ntmps17
  go_wp2_with fail
  obtain ⟨w1, ew1⟩ : ∃ w1, w1 = w.alloc (.cells Z 35) := ⟨_, rfl⟩
  have hs1 : w.heap.size + 1 = w1.heap.size := by
    rw [ew1]
    show _ = (w.heap.push _).size
    simp
  have hb1 : Below w.heap.size w w1 := by
    rw [ew1]
    exact (Below.refl _ _).alloc (Nat.le_refl _) _
  have hres : w1.heap[w.heap.size]? = some (.cells Z 35 (0, 0)) := by
    rw [ew1]
    exact heap_alloc_last w _
  rw [← ew1, hs1]
  clear ew1
  have hblk : (w1.alloc (.cells Z 35)).heap[w1.heap.size]? = some (.cells Z 35 (0, 0)) := heap_alloc_last w1 _
  have hb2 : Below w1.heap.size w1 (w1.alloc (.cells Z 35)) := (Below.refl _ _).alloc (Nat.le_refl _) _
  go_loopw [2, 3] (fun c b wr => ∃ B C : Nat, ∃ T, c = .int .u32 (C : Int) ∧ b = .int .i64 (B : Int) ∧ B ≤ 128 ∧ C ≤ 4294967295 ∧ wr.heap[w1.heap.size]? = some (.cells T 35 (0, 0)) ∧ Below w1.heap.size w1 wr ∧ Hid (pow7 B ∧ C = shn 8 (2 * B) ∧ T = ti B 0 ∨ B = 0 ∧ T = full)) (fun _ b _ => (intOf b).toNat)
  case atStart => exact ⟨128, 1, Z, rfl, rfl, by omega, by omega, hblk, hb2, .inl ⟨.inl rfl, shn_first.symm, E0.out.symm⟩⟩
  case round =>
    clear hblk hb2
    obtain ⟨B, C, T, rfl, rfl, hB, hC, hblk, hbl, HH⟩ := hrel
    by_cases hB0 : 0 < B
    · have hd : decide ((0 : Int) < (B : Int)) = true := decide_eq_true (by omega)
      obtain ⟨hp, hCe, rfl⟩ := HH.out.resolve_right (by omega)
      have HP := Lib.hid hp
      have hD := shn_below 8 (c := B) (by omega)
      have HS : Hid (sh C = shn 8 B) := by
        show sh C = shn 8 B
        rw [hCe, shn_half]
      obtain ⟨D, eD⟩ : ∃ D, shn 8 B = D := ⟨_, rfl⟩
      rw [eD] at HS hD
      have HD := Lib.hid eD
      obtain ⟨K, eK⟩ : ∃ K : Nat, 2 * B = K := ⟨_, rfl⟩
      have hK : 2 * (B : Int) = (K : Int) := by omega
      have bK : K ≤ 256 := by omega
      have HK := Lib.hid eK
      have HH' := Lib.hid (pow7_half hp)
      clear hp hCe eD HH
      go_wp2_with (go_at_call 18; refine (halved_any C D HS.out hC _).mono ?_; rintro e w' ⟨rfl, rfl⟩)
      go_loopw [4] (fun i wr => ∃ I : Nat, I ≤ 256 ∧ i = .int .i64 (I : Int) ∧ Hid (I % K = 0) ∧ wr.heap[w1.heap.size]? = some (.cells (ti B I) 35 (0, 0)) ∧ Below w1.heap.size w1 wr) (fun i _ => 256 - (intOf i).toNat)
      case atStart => exact ⟨0, Nat.zero_le _, rfl, Nat.zero_mod _, hblk, hbl⟩
      case round =>
        clear hblk hbl
        obtain ⟨I, hI, rfl, HM, hblk, hbl⟩ := hrel
        by_cases hlt : I < 256
        · have hd2 : decide ((I : Int) < 256) = true := decide_eq_true (by omega)
          have hm : I % (2 * B) = 0 := by rw [HK.out]; exact HM.out
          have hcell : Hid (wr.cell? ⟨w1.heap.size, I, none⟩ = some (.int .u32 ((shn 8 I : Nat) : Int))) := by
            show _ = _
            rw [cell_of_block hblk I, ti_get B I I hlt, if_pos (.inl hm)]
          have hsum := shn_sum HP.out hlt hm
          have hJ : I + B < 256 ∧ I + K ≤ 256 ∧ (I + K) % K = 0 := by
            have h1 := HM.out
            have h2 := HK.out
            have h3 := HP.out
            clear hcell hsum
            unfold pow7 at h3
            rcases h3 with rfl | rfl | rfl | rfl | rfl | rfl | rfl | rfl <;> subst h2 <;> omega
          have hcellJ := (cell_of_block hblk (I + B)).trans (ti_get B I (I + B) hJ.1)
          have hset := ti_set HP.out hlt hm
          rw [HK.out] at hset
          have b1 := shn_below 8 (c := I) (by omega)
          have b2 := shn_below 8 (c := I + B) (by omega)
          have hq := u32_xor_nat (shn 8 I) D (by omega) (by omega)
          rw [← HD.out, ← hsum] at hq
          rw [HD.out] at hq
          have hfr := unfrozen_of_block hblk (I + B)
          have HB := Lib.hid (block_setCell (i := I + B) hblk (.int .u32 ((shn 8 (I + B) : Nat) : Int)))
          rw [hset] at HB
          clear hset hm hsum
          have hcell := hcell.out
          generalize (if (I + B) % (2 * B) = 0 ∨ ((I + B) % B = 0 ∧ I + B < I) then ((shn 8 (I + B) : Nat) : Int) else 0) = OLD at *
          generalize shn 8 I = X at *
          generalize shn 8 (I + B) = Y at *
          obtain ⟨hJ1, hJ2, hJ3⟩ := hJ
          have HJ3 := Lib.hid hJ3
          clear hJ3
          have eJ : (I : Int) + (B : Int) = ((I + B : Nat) : Int) := by omega
          have eL : (I : Int) + (K : Int) = ((I + K : Nat) : Int) := by omega
          generalize I + B = J at *
          generalize I + K = L at *
          have hj0 : (0 : Int) ≤ (J : Int) := by omega
          have hj1 : (J : Int) < 256 := by omega
          have hI0 : (0 : Int) ≤ (I : Int) := by omega
          have hI1 : (I : Int) < 256 := by omega
          have hLI : I < L := by omega
          go_wp2_with fail
          go_roundw
          case rel => exact ⟨L, by omega, rfl, HJ3.out, HB.out, hbl.setCell (p := ⟨w1.heap.size, J, none⟩) (Nat.le_refl _) _⟩
          case measure => simp [intOf]; omega
        · have hd2 : decide ((I : Int) < 256) = false := decide_eq_false (by omega)
          obtain rfl : I = 256 := by omega
          have hE : (B : Int) / 2 = ((B / 2 : Nat) : Int) := by omega
          have hE2 : Int.tdiv (B : Int) 2 = ((B / 2 : Nat) : Int) := by rw [Int.tdiv_eq_ediv_of_nonneg (by omega)]; omega
          have hlt2 : B / 2 < B := by omega
          have HT : Hid (∃ T, ti B 256 = T ∧ (pow7 (B / 2) ∧ D = shn 8 (2 * (B / 2)) ∧ T = ti (B / 2) 0 ∨ B / 2 = 0 ∧ T = full)) := by
            refine ⟨_, rfl, ?_⟩
            rcases HH'.out with ⟨h, h1⟩ | h
            · refine .inl ⟨h, ?_, ti_next HP.out h1⟩
              rw [← HD.out]
              have h3 := HP.out
              unfold pow7 at h3
              rcases h3 with rfl | rfl | rfl | rfl | rfl | rfl | rfl | rfl <;> first | rfl | omega
            · subst h
              exact .inr ⟨rfl, ti_last⟩
          obtain ⟨T2, eT2, HT2⟩ := HT.out
          rw [eT2] at hblk
          have HT2 := Lib.hid HT2
          clear HT eT2
          generalize B / 2 = E at *
          go_wp2_with fail
          go_roundw
          case rel => exact ⟨E, D, T2, rfl, rfl, by omega, by omega, hblk, hbl, HT2.out⟩
          case measure => simp [intOf]; omega
    · have hd : decide ((0 : Int) < (B : Int)) = false := decide_eq_false (by omega)
      obtain rfl : B = 0 := by omega
      obtain ⟨_, rfl⟩ := HH.out.resolve_left (fun h => by have := h.1; unfold pow7 at this; omega)
      clear HH
      go_wp2_with fail
      refine wp_load_row rfl rfl (load_row wr w1.heap.size full hblk full_size) ?_
      have hres2 : wr.heap[w.heap.size]? = some (.cells Z 35 (0, 0)) := (hbl.block w.heap.size (by omega)).trans hres
      have hsize := full_size
      have hst : (storeCells ⟨w.heap.size, 0, none⟩ full.toList).run Try.prog wr = .ok () (wr.setRow w.heap.size full) := by
        have h := run_storeCells_from (P := Try.prog) w.heap.size 35 full.toList 0 Z wr hres2 (by rw [← E0.out, ti_size]; simp [full_size]) (fun v hv => (Array.all_eq_true_iff_forall_mem.1 full_cells) v (by simpa using hv))
        simpa using h
      have hblk2 : (wr.setRow w.heap.size full).heap[w.heap.size]? = some (.cells full 35 (0, 0)) := setRow_heap wr w.heap.size Z _ 35 (0, 0) hres2
      have hfin : Below w.heap.size w (wr.setRow w.heap.size full) := below_setRow (hb1.trans (hbl.mono hb1.size)) (Nat.le_refl _) _
      have HLD : Hid ((loadVar 35 ⟨w.heap.size, 0, none⟩).run Try.prog (wr.setRow w.heap.size full) = .ok (.agg full) (wr.setRow w.heap.size full)) := run_loadVar_row _ w.heap.size 35 35 full (0, 0) _ hblk2 Try.underlying35 rfl (by rw [full_size]; exact hi)
      generalize eT : full = T at *
      have ET := Lib.hid eT
      clear eT
      go_wp2_with fail
      refine bodyPost_ret (v := .agg T) ?_ rfl ⟨by rw [ET.out], hfin⟩
      exact results_cell_row (P := Try.prog) (p := 0) (ty := 35) (d := _) rfl _ _ w.heap.size 35 T (0, 0) rfl hblk2 Try.underlying35 rfl (by rw [← ET.out, full_size]; exact hi)
end Go.Proofs.Ytmbbgppmidogbaa.Fx
