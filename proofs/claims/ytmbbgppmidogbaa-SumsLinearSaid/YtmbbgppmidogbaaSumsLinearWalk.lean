/-
  The walk of SumsLinear. The conditions are that the numbers are of their kinds and the lists read as bytes.
-/
import Derived.Test.YtmbbgppmidogbaaSumsPiecesWalk
import Derived.Test.YtmbbgppmidogbaaSumsNumbersWalk
namespace Go.Proofs.Ytmbbgppmidogbaa.Fx
open Go Go.RowKit Go.Joins
set_option linter.unusedVariables false
theorem min_four (a b c : Nat) (w : World) : (Builtin.min_ #[3, 3, 3, 3] 3 #[.int .i64 (a : Int), .int .i64 (b : Int), .int .i64 (c : Int), .int .i64 500]).run Try.prog w = .ok (.int .i64 ((min (min (min a b) c) 500 : Nat) : Int)) w := by
  have e : ((min (min (min a b) c) 500 : Nat) : Int) = (if (500 : Int) < (if (c : Int) < (if (b : Int) < (a : Int) then (b : Int) else (a : Int)) then (c : Int) else (if (b : Int) < (a : Int) then (b : Int) else (a : Int))) then 500 else (if (c : Int) < (if (b : Int) < (a : Int) then (b : Int) else (a : Int)) then (c : Int) else (if (b : Int) < (a : Int) then (b : Int) else (a : Int)))) := by
    omega
  rw [e]
  simp [Builtin.min_, Builtin.min2]
theorem slice_reads {W : World} {v : Value} {zs : List Nat} (h : reads W v zs) (hcap : ∀ b off len cap, v = .slice (some ⟨b, off, none⟩) len cap → len ≤ cap) (n : Nat) (hn : n ≤ zs.length) :
    ∃ u, (∀ w, (Instr.slice 22 v none (some (.int .i64 (n : Int))) none).run Try.prog w = .ok u w) ∧ reads W u (zs.take n) := by
  have hs : ∀ w, (sizeOf (Try.prog.elem 22)).run Try.prog w = .ok 1 w := fun w => by rfl
  have hz : ∀ a : Addr, a.add 0 = a := fun a => by
    obtain ⟨b, o, sp⟩ := a
    cases sp <;> simp [Addr.add]
  rcases h with ⟨⟨o, cap, rfl, ho⟩, rfl⟩ | ⟨b, off, cap, rfl, hle, hlt, hc⟩
  · obtain rfl : n = 0 := by simpa using hn
    refine ⟨.slice o 0 cap, fun w => ?_, .inl ⟨⟨o, cap, rfl, ho⟩, rfl⟩⟩
    rw [run_slice_h w 22 o 0 cap Try.underlying22 .i64 ((0 : Nat) : Int) (by omega) (by omega), hs]
    cases o <;> simp [sliced, Result.andThen, hz]
  · refine ⟨.slice (some ⟨b, off, none⟩) n cap, fun w => ?_, reads_take (.inr ⟨b, off, cap, rfl, hle, hlt, hc⟩) n hn⟩
    rw [run_slice_h w 22 (some ⟨b, off, none⟩) zs.length cap Try.underlying22 .i64 n (by omega) (by omega), hs]
    simp [sliced, Result.andThen, hz]
theorem make_row (n : Nat) (hn : n ≤ 500) (w : World) : ∃ C, (Instr.makeSlice 22 (.int .i64 (n : Int)) (.int .i64 (n : Int))).run Try.prog w = .ok (.slice (some ⟨w.heap.size, 0, none⟩) n n) (w.alloc (.cells C 5)) ∧ C = (cells (List.replicate n 0)).toArray := by
  obtain ⟨i0, hi, hz0, hz1, hz2⟩ := info_parts info8
  have h := run_make w 22 5 i0 (.int .u8 0) Try.underlying22 hi hz0 .i64 .i64 n n (by omega) (Int.le_refl _) (by rw [hz2]; omega) (by omega)
  rw [hz1, Int.toNat_natCast, Nat.mul_one] at h
  refine ⟨_, h, ?_⟩
  apply Array.ext
  · rw [size_madeCells]
    simp [cells]
  · intro j h1 h2
    have e : (Value.int .u8 0).cells = #[.int .u8 0] := rfl
    simp [madeCells, cells, e, Nat.mod_one]
/-- The first k places are those of X, the others 0. -/
def filled (X : List Nat) (k : Nat) : List Nat := X.take k ++ List.replicate (X.length - k) 0
theorem filled_length (X : List Nat) (k : Nat) (hk : k ≤ X.length) : (filled X k).length = X.length := by
  unfold filled
  rw [List.length_append, List.length_take, List.length_replicate]
  omega
theorem filled_step (X : List Nat) (k : Nat) (hk : k < X.length) : filled X (k + 1) = (filled X k).set k (X.getD k 0) := by
  unfold filled
  have h1 : (X.take k).length = k := by rw [List.length_take]; omega
  rw [List.set_append_right _ _ (by omega), h1, Nat.sub_self, show X.length - k = (X.length - (k + 1)) + 1 by omega, List.replicate_succ, List.set_cons_zero, take_one X k hk, List.append_assoc]
  rfl
theorem filled_all (X : List Nat) : filled X X.length = X := by
  unfold filled
  rw [List.take_length, Nat.sub_self, List.replicate_zero, List.append_nil]
theorem xor3_length (l m n : List Nat) (hm : m.length = l.length) (hn : n.length = l.length) : (xor3 l m n).length = l.length := by
  unfold xor3
  rw [List.length_zipWith, List.length_zipWith]
  omega
theorem xor3_get (l m n : List Nat) (k : Nat) (h1 : k < l.length) (h2 : k < m.length) (h3 : k < n.length) : (xor3 l m n).getD k 0 = l.getD k 0 ^^^ m.getD k 0 ^^^ n.getD k 0 := by
  have hl : k < (xor3 l m n).length := by
    unfold xor3
    rw [List.length_zipWith, List.length_zipWith]
    omega
  rw [List.getD_eq_getElem?_getD, List.getElem?_eq_getElem hl, Option.getD_some]
  simp [xor3, List.getD, h1, h2, h3]
theorem xor3_bytes {l m n : List Nat} (hl : bytes l) (hm : bytes m) (hn : bytes n) (h2 : m.length = l.length) (h3 : n.length = l.length) : bytes (xor3 l m n) := by
  intro b hb
  obtain ⟨j, hj, rfl⟩ := List.getElem_of_mem hb
  have hj2 : j < l.length := by rw [xor3_length l m n h2 h3] at hj; exact hj
  have e := xor3_get l m n j hj2 (by omega) (by omega)
  rw [List.getD_eq_getElem?_getD, List.getElem?_eq_getElem hj, Option.getD_some] at e
  rw [e]
  have k1 := bytes_get hl j
  have k2 := bytes_get hm j
  have k3 := bytes_get hn j
  exact byte_xor (byte_xor (by omega) (by omega)) (by omega)
theorem take_get (zs : List Nat) (n k : Nat) (hk : k < n) : (zs.take n).getD k 0 = zs.getD k 0 := by
  simp [List.getD, hk]
theorem row_cell {W : World} {v : Value} {zs : List Nat} (hr : reads W v zs) (k : Nat) (hk : k < zs.length) : ∃ b off cap, v = .slice (some ⟨b, off, none⟩) zs.length cap ∧ b < W.heap.size ∧ W.cell? ⟨b, off + k, none⟩ = some (.int .u8 (zs.getD k 0 : Nat)) := by
  rcases hr with ⟨_, rfl⟩ | ⟨b, off, cap, rfl, hle, hlt, hc⟩
  · simp at hk
  · exact ⟨b, off, cap, rfl, hlt, hc k hk⟩
set_option maxHeartbeats 8000000 in
set_option maxRecDepth 100000 in
theorem linear_law (D : Does) (W : World) (s : Nat) (va : Value) (xa : List Nat) (vb : Value) (xb : List Nat) (vc : Value) (xc : List Nat) (hs : s ≤ 4294967295) (hra : reads W va xa) (h8a : bytes xa) (hca : ∀ b off len cap, va = .slice (some ⟨b, off, none⟩) len cap → len ≤ cap)
    (hrb : reads W vb xb) (h8b : bytes xb) (hcb : ∀ b off len cap, vb = .slice (some ⟨b, off, none⟩) len cap → len ≤ cap) (hrc : reads W vc xc) (h8c : bytes xc) (hcc : ∀ b off len cap, vc = .slice (some ⟨b, off, none⟩) len cap → len ≤ cap) :
    Calls Try.prog 6 #[.int .u32 (s : Int), va, vb, vc] W fun e w' => e = .returned (.bool true) ∧ Below W.heap.size W w' := by
  have hbl := Below.refl W.heap.size W
  have hlena := len_reads hra
  have hlenb := len_reads hrb
  have hlenc := len_reads hrc
  have hmin := min_four xa.length xb.length xc.length
  obtain ⟨n, hn⟩ : ∃ n, min (min (min xa.length xb.length) xc.length) 500 = n := ⟨_, rfl⟩
  rw [hn] at hmin
  have ha : n ≤ xa.length := by omega
  have hb : n ≤ xb.length := by omega
  have hc : n ≤ xc.length := by omega
  have hn5 : n ≤ 500 := by omega
  obtain ⟨ua, hsa, hua⟩ := slice_reads hra hca n ha
  obtain ⟨ub, hsb, hub⟩ := slice_reads hrb hcb n hb
  obtain ⟨uc, hsc, huc⟩ := slice_reads hrc hcc n hc
  have la : (xa.take n).length = n := by rw [List.length_take]; omega
  have lb : (xb.take n).length = n := by rw [List.length_take]; omega
  have lc : (xc.take n).length = n := by rw [List.length_take]; omega
  have k8a := bytes_take h8a n
  have k8b := bytes_take h8b n
  have k8c := bytes_take h8c n
  have HX8 : Hid (bytes (xor3 (xa.take n) (xb.take n) (xc.take n))) := xor3_bytes k8a k8b k8c (by omega) (by omega)
  have HXL : Hid ((xor3 (xa.take n) (xb.take n) (xc.take n)).length = n) := (xor3_length _ _ _ (by omega) (by omega)).trans la
  have HXG : Hid (∀ k, k < n → (xor3 (xa.take n) (xb.take n) (xc.take n)).getD k 0 = xa.getD k 0 ^^^ xb.getD k 0 ^^^ xc.getD k 0) := fun k hk => by
    rw [xor3_get _ _ _ k (by omega) (by omega) (by omega), take_get _ _ _ hk, take_get _ _ _ hk, take_get _ _ _ hk]
  have H3 := Lib.hid (crc_three (show s < 4294967296 by omega) (by omega) (by omega) k8a k8b k8c HX8.out)
  have KA : Hid (∀ w', Below W.heap.size W w' → Calls Try.prog 11 #[.int .u32 (s : Int), ua] w' fun e w'' => e = .returned (.int .u32 (crc s (xa.take n) : Nat)) ∧ Below w'.heap.size w' w'') := fun w' hb => D.crc s ua _ w' hs (reads_on hb hua) k8a (by omega)
  have KB : Hid (∀ w', Below W.heap.size W w' → Calls Try.prog 11 #[.int .u32 (s : Int), ub] w' fun e w'' => e = .returned (.int .u32 (crc s (xb.take n) : Nat)) ∧ Below w'.heap.size w' w'') := fun w' hb => D.crc s ub _ w' hs (reads_on hb hub) k8b (by omega)
  have KC : Hid (∀ w', Below W.heap.size W w' → Calls Try.prog 11 #[.int .u32 (s : Int), uc] w' fun e w'' => e = .returned (.int .u32 (crc s (xc.take n) : Nat)) ∧ Below w'.heap.size w' w'') := fun w' hb => D.crc s uc _ w' hs (reads_on hb huc) k8c (by omega)
  have KN : Hid (∀ w', Calls Try.prog 11 #[.int .u32 (s : Int), .slice none 0 0] w' fun e w'' => e = .returned (.int .u32 (s : Int)) ∧ Below w'.heap.size w' w'') := fun w' => by
    have h := D.crc s _ _ w' hs (reads_none w') bytes_none (by simp)
    rw [crc_nil (by omega)] at h
    exact h
  have KM : Hid (∀ w', Calls Try.prog 9 #[.int .u32 (s : Int), .slice none 0 0] w' fun e w'' => e = .returned (.int .u32 (adler s [] : Nat)) ∧ Below w'.heap.size w' w'') := fun w' => D.adler s _ _ w' hs (reads_none w') bytes_none (by simp)
  have b1 := crc_below s (xa.take n)
  have b2 := crc_below s (xb.take n)
  have b3 := crc_below s (xc.take n)
  have x1 := u32_xor_nat (crc s (xa.take n)) (crc s (xb.take n)) (by omega) (by omega)
  have x2 := u32_xor_nat (crc s (xa.take n) ^^^ crc s (xb.take n)) (crc s (xc.take n)) (xor_below b1 b2) (by omega)
  rw [← H3.out] at x2
  have b4 := crc_below s (xor3 (xa.take n) (xb.take n) (xc.take n))
  have b5 := xor_below b1 b2
  generalize crc s (xa.take n) ^^^ crc s (xb.take n) = C12 at *
  generalize eX : xor3 (xa.take n) (xb.take n) (xc.take n) = X at *
  have KD : Hid (∀ (u : Value) (w : World), reads w u X → Calls Try.prog 11 #[.int .u32 (s : Int), u] w fun e w'' => e = .returned (.int .u32 (crc s X : Nat)) ∧ Below w.heap.size w w'') := fun u w hr => D.crc s u X w hs hr HX8.out (by rw [HXL.out]; omega)
  generalize crc s (xa.take n) = Ca at *
  generalize crc s (xb.take n) = Cb at *
  generalize crc s (xc.take n) = Cc at *
  generalize crc s X = Cx at *
  obtain ⟨cells0, hmake, hcells⟩ := make_row n hn5 W
  have HRA := Lib.hid hra
  have HRB := Lib.hid hrb
  have HRC := Lib.hid hrc
  have H8A := Lib.hid h8a
  have H8B := Lib.hid h8b
  have H8C := Lib.hid h8c
  have HNA := Lib.hid ha
  have HNB := Lib.hid hb
  have HNC := Lib.hid hc
  have t1 : ((Cx : Int) != (Cx : Int)) = false := by simp
  have t2 : ((s : Int) != (s : Int)) = false := by simp
  have hlow := low_code s hs
  have HAN := Lib.hid (adler_nil s (by omega))
  have bA := adler_below s []
  have bL : s % 65536 < 65536 := by omega
  generalize adler s [] = A at *
  clear hra hrb hrc h8a h8b h8c hca hcb hcc hua hub huc k8a k8b k8c la lb lc H3 eX
  obtain ⟨na, ena⟩ : ∃ na, xa.length = na := ⟨_, rfl⟩
  obtain ⟨nb, enb⟩ : ∃ nb, xb.length = nb := ⟨_, rfl⟩
  obtain ⟨nc, enc⟩ : ∃ nc, xc.length = nc := ⟨_, rfl⟩
  rw [ena] at hlena hmin ha
  rw [enb] at hlenb hmin hb
  rw [enc] at hlenc hmin hc
  have EN : Hid (xa.length = na ∧ xb.length = nb ∧ xc.length = nc) := ⟨ena, enb, enc⟩
  clear ena enb enc hn
  go_enter Try.func6, Try.ntmps6
  go_wp2_with fail
  obtain ⟨w1, e1⟩ : ∃ w1, w1 = W.alloc (.cells (cells (List.replicate n 0)).toArray 5) := ⟨_, rfl⟩
  rw [← e1]
  have hrow : rowIs w1 W.heap.size (filled X 0) := by
    have e : filled X 0 = List.replicate n 0 := by
      unfold filled
      rw [List.take_zero, List.nil_append, Nat.sub_zero, HXL.out]
    rw [e, e1]
    refine ⟨(cells (List.replicate n 0)).toArray, heap_alloc_new W _, ?_, ?_⟩
    · rw [List.size_toArray, cells_length]
      exact Nat.le_refl _
    · rw [List.length_replicate]
      have : (cells (List.replicate n 0)).length = n := by rw [cells_length, List.length_replicate]
      show (cells (List.replicate n 0)).take n = _
      rw [List.take_of_length_le (by omega)]
  have hb1 : Below W.heap.size W w1 := by
    rw [e1]
    exact hbl.alloc (Nat.le_refl _) _
  clear e1 hbl
  go_loopw [11] (fun i wr => ∃ k : Nat, k ≤ n ∧ i = .int .i64 k ∧ rowIs wr W.heap.size (filled X k) ∧ Below W.heap.size W wr) (fun i _ => n - (intOf i).toNat)
  case atStart => exact ⟨0, Nat.zero_le _, rfl, hrow, hb1⟩
  case round =>
    clear hrow hb1
    obtain ⟨k, hk, rfl, hrow, hbl⟩ := hrel
    by_cases hkn : k < n
    · have hd : decide ((k : Int) < (n : Int)) = true := decide_eq_true (by omega)
      obtain ⟨ba, offa, capa, rfl, ltA, cA⟩ := row_cell HRA.out k (Nat.lt_of_lt_of_le hkn HNA.out)
      obtain ⟨bb, offb, capb, rfl, ltB, cB⟩ := row_cell HRB.out k (Nat.lt_of_lt_of_le hkn HNB.out)
      obtain ⟨bc, offc, capc, rfl, ltC, cC⟩ := row_cell HRC.out k (Nat.lt_of_lt_of_le hkn HNC.out)
      rw [← hbl.cell (p := ⟨ba, offa + k, none⟩) ltA] at cA
      rw [← hbl.cell (p := ⟨bb, offb + k, none⟩) ltB] at cB
      rw [← hbl.cell (p := ⟨bc, offc + k, none⟩) ltC] at cC
      have hfl : (filled X k).length = n := (filled_length X k (by rw [HXL.out]; exact hk)).trans HXL.out
      have HF := Lib.hid (filled_step X k (by rw [HXL.out]; exact hkn))
      have HG := HXG.out k hkn
      rw [HG] at HF
      clear HG
      have hcell := hrow.cell k (by rw [hfl]; exact hkn)
      have hfr := hrow.unfrozen k
      have ka := bytes_get H8A.out k
      have kb := bytes_get H8B.out k
      have kc := bytes_get H8C.out k
      have y1 := u8_xor_nat (xa.getD k 0) (xb.getD k 0) (by omega) (by omega)
      have ky := byte_xor (a := xa.getD k 0) (b := xb.getD k 0) (by omega) (by omega)
      have y2 := u8_xor_nat (xa.getD k 0 ^^^ xb.getD k 0) (xc.getD k 0) (by omega) (by omega)
      have kz := byte_xor (a := xa.getD k 0 ^^^ xb.getD k 0) (b := xc.getD k 0) (by omega) (by omega)
      have HROW := Lib.hid (hrow.set k (xa.getD k 0 ^^^ xb.getD k 0 ^^^ xc.getD k 0))
      rw [← HF.out] at HROW
      obtain ⟨la, ela⟩ : ∃ l, xa.length = l := ⟨_, rfl⟩
      obtain ⟨lb, elb⟩ : ∃ l, xb.length = l := ⟨_, rfl⟩
      obtain ⟨lc, elc⟩ : ∃ l, xc.length = l := ⟨_, rfl⟩
      have ha1 : n ≤ la := by rw [← ela]; exact HNA.out
      have hb1 : n ≤ lb := by rw [← elb]; exact HNB.out
      have hc1 : n ≤ lc := by rw [← elc]; exact HNC.out
      rw [ela, elb, elc]
      clear hrow hfl
      generalize xa.getD k 0 ^^^ xb.getD k 0 ^^^ xc.getD k 0 = Q at *
      generalize xa.getD k 0 ^^^ xb.getD k 0 = P at *
      generalize xa.getD k 0 = Aa at *
      generalize xb.getD k 0 = Ab at *
      generalize xc.getD k 0 = Ac at *
      have hk0 : (0 : Int) ≤ (k : Int) := by omega
      have hkn1 : (k : Int) < (n : Int) := by omega
      have hka1 : (k : Int) < (la : Int) := by omega
      have hkb1 : (k : Int) < (lb : Int) := by omega
      have hkc1 : (k : Int) < (lc : Int) := by omega
      go_wp2_with fail
      go_region
      have hrow : rowIs (wr.setCell ⟨W.heap.size, k, none⟩ (.int .u8 (Q : Int))).drew W.heap.size (filled X (k + 1)) := HROW.out
      replace hbl := (hbl.setCell (p := ⟨W.heap.size, k, none⟩) (Nat.le_refl _) (.int .u8 (Q : Int))).drew
      clear hcell hfr HROW cA cB cC
      generalize (wr.setCell ⟨W.heap.size, k, none⟩ (.int .u8 (Q : Int))).drew = w5 at *
      go_simp
      go_wp2
      go_roundw
      case rel => exact ⟨k + 1, by omega, by go_num, hrow, hbl⟩
      case measure => simp [intOf]; omega
    · have hd : decide ((k : Int) < (n : Int)) = false := decide_eq_false (by omega)
      obtain rfl : k = n := by omega
      have hx : reads wr (.slice (some ⟨W.heap.size, 0, none⟩) k k) X := by
        have h := hrow.reads (n := k) (cap := k) (by rw [filled_length X k (by rw [HXL.out]; exact Nat.le_refl _)]; exact HXL.out) (Nat.le_refl _)
        have e : filled X k = X := by
          have := filled_all X
          rw [HXL.out] at this
          exact this
        rw [e] at h
        exact h
      have KX : Hid (∀ w', Below wr.heap.size wr w' → Calls Try.prog 11 #[.int .u32 (s : Int), .slice (some ⟨W.heap.size, 0, none⟩) k k] w' fun e w'' => e = .returned (.int .u32 (Cx : Int)) ∧ Below w'.heap.size w' w'') := fun w' hb => KD.out _ w' (reads_on hb hx)
      have KA : Hid (∀ w', Below wr.heap.size wr w' → Calls Try.prog 11 #[.int .u32 (s : Int), ua] w' fun e w'' => e = .returned (.int .u32 (Ca : Int)) ∧ Below w'.heap.size w' w'') := fun w' hb => KA.out w' (below_keep hbl hb)
      have KB : Hid (∀ w', Below wr.heap.size wr w' → Calls Try.prog 11 #[.int .u32 (s : Int), ub] w' fun e w'' => e = .returned (.int .u32 (Cb : Int)) ∧ Below w'.heap.size w' w'') := fun w' hb => KB.out w' (below_keep hbl hb)
      have KC : Hid (∀ w', Below wr.heap.size wr w' → Calls Try.prog 11 #[.int .u32 (s : Int), uc] w' fun e w'' => e = .returned (.int .u32 (Cc : Int)) ∧ Below w'.heap.size w' w'') := fun w' hb => KC.out w' (below_keep hbl hb)
      clear hx hrow
      have hq := Below.refl wr.heap.size wr
      go_wp2_with fail
      go_region_held3 (fun w' => Below wr.heap.size wr w') (first | (with_reducible assumption) | exact Below.drew (by with_reducible assumption) | exact below_keep (by with_reducible assumption) hnew) (first | (go_at_call 11; with_reducible refine (KX.out _ (by with_reducible assumption)).mono ?_; rintro e w' ⟨rfl, hnew⟩) | (go_at_call 11; with_reducible refine (KA.out _ (by with_reducible assumption)).mono ?_; rintro e w' ⟨rfl, hnew⟩) | (go_at_call 11; with_reducible refine (KB.out _ (by with_reducible assumption)).mono ?_; rintro e w' ⟨rfl, hnew⟩) | (go_at_call 11; with_reducible refine (KC.out _ (by with_reducible assumption)).mono ?_; rintro e w' ⟨rfl, hnew⟩) | (go_at_call 11; with_reducible refine (KN.out _).mono ?_; rintro e w' ⟨rfl, hnew⟩))
      have hb2 : Below wr.heap.size wr w' := by with_reducible assumption
      clear hnew hq
      go_simp
      by_cases h1 : s / 65536 < 65521
      · have hd1 : decide ((s : Int) / 65536 < 65521) = true := decide_eq_true (by omega)
        by_cases h2 : s % 65536 < 65521
        · have hd2 : decide (((s % 65536 : Nat) : Int) < 65521) = true := decide_eq_true (by omega)
          obtain rfl : A = s := HAN.out.mpr ⟨h1, h2⟩
          have ht : ((A : Int) == (A : Int)) = true := by simp
          generalize A % 65536 = L at *
          go_wp2_with (first | (go_at_call 9; refine (KM.out _).mono ?_; rintro e w' ⟨rfl, hnew⟩; replace hb2 := below_keep hb2 hnew; clear hnew) | (go_at_call 13; refine (awake_any D _).mono ?_; rintro e w' ⟨rfl, hnew⟩; replace hb2 := below_keep hb2 hnew; clear hnew))
          go_ret
          exact ⟨rfl, below_keep hbl hb2⟩
        · have hd2 : decide (((s % 65536 : Nat) : Int) < 65521) = false := decide_eq_false (by omega)
          have ht : ((A : Int) == (s : Int)) = false := by
            have : ¬ A = s := fun h => h2 (HAN.out.mp h).2
            simp
            omega
          generalize s % 65536 = L at *
          go_wp2_with (first | (go_at_call 9; refine (KM.out _).mono ?_; rintro e w' ⟨rfl, hnew⟩; replace hb2 := below_keep hb2 hnew; clear hnew) | (go_at_call 13; refine (awake_any D _).mono ?_; rintro e w' ⟨rfl, hnew⟩; replace hb2 := below_keep hb2 hnew; clear hnew))
          go_ret
          exact ⟨rfl, below_keep hbl hb2⟩
      · have hd1 : decide ((s : Int) / 65536 < 65521) = false := decide_eq_false (by omega)
        have ht : ((A : Int) == (s : Int)) = false := by
          have : ¬ A = s := fun h => h1 (HAN.out.mp h).1
          simp
          omega
        go_wp2_with (first | (go_at_call 9; refine (KM.out _).mono ?_; rintro e w' ⟨rfl, hnew⟩; replace hb2 := below_keep hb2 hnew; clear hnew) | (go_at_call 13; refine (awake_any D _).mono ?_; rintro e w' ⟨rfl, hnew⟩; replace hb2 := below_keep hb2 hnew; clear hnew))
        go_ret
        exact ⟨rfl, below_keep hbl hb2⟩
end Go.Proofs.Ytmbbgppmidogbaa.Fx
