/-
  The walk of SumsPieces. The conditions are that the numbers are of their kinds and the lists read as bytes.
-/
import Derived.Test.YtmbbgppmidogbaaSumsW
import Derived.Test.YtmbbgppmidogbaaSumsStepsWalk
namespace Go.Proofs.Ytmbbgppmidogbaa.Fx
open Go Go.RowKit Go.Joins
set_option linter.unusedVariables false
theorem bytes_append {x y : List Nat} (hx : bytes x) (hy : bytes y) : bytes (x ++ y) := fun b hb => by
  rcases List.mem_append.mp hb with h | h
  · exact hx b h
  · exact hy b h
theorem bytes_set {x : List Nat} (h : bytes x) (j v : Nat) (hv : v < 256) : bytes (x.set j v) := fun b hb => by
  rcases List.mem_or_eq_of_mem_set hb with h1 | h1
  · exact h b h1
  · omega
set_option maxHeartbeats 4000000 in
set_option maxRecDepth 100000 in
theorem pieces_main (D : Does) (W : World) (s : Nat) (va : Value) (xa : List Nat) (vb : Value) (xb : List Nat) (pos : Int) (T : Nat) (hs : s ≤ 4294967295) (hra : reads W va xa) (h8a : bytes xa) (hrb : reads W vb xb) (h8b : bytes xb) (hp : -9223372036854775808 ≤ pos) (kp : pos ≤ 9223372036854775807) (kT : T ≤ 255)
    (hla : xa.length ≤ 4000) (hlb : xb.length ≤ 4000) :
    Calls Try.prog 5 #[.int .u32 (s : Int), va, vb, .int .i64 pos, .int .u8 (T : Int)] W fun e w' => e = .returned (.bool true) ∧ Below W.heap.size W w' := by
  have hbl := Below.refl W.heap.size W
  have hlenA := len_reads hra
  have hlenB := len_reads hrb
  have hd1 : decide ((4000 : Int) < (xa.length : Int)) = false := decide_eq_false (by omega)
  have hd2 : decide ((4000 : Int) < (xb.length : Int)) = false := decide_eq_false (by omega)
  have HL : Hid (xa.length ≤ 4000 ∧ xb.length ≤ 4000) := ⟨hla, hlb⟩
  have hN : (xa ++ xb).length = xa.length + xb.length := List.length_append
  obtain ⟨na, ena⟩ : ∃ na, xa.length = na := ⟨_, rfl⟩
  obtain ⟨nb, enb⟩ : ∃ nb, xb.length = nb := ⟨_, rfl⟩
  rw [ena] at hlenA hd1 hla hN
  rw [enb] at hlenB hd2 hlb hN
  have HN := Lib.hid hN
  have HNA := Lib.hid ena
  have HNB := Lib.hid enb
  clear hN ena enb
  have H8 : Hid (bytes (xa ++ xb)) := bytes_append h8a h8b
  have b1 := crc_below s xa
  have b2 := adler_below s xa
  have b3 := crc_below s (xa ++ xb)
  have b4 := adler_below s (xa ++ xb)
  have KA1 : Hid (∀ w', Below W.heap.size W w' → Calls Try.prog 11 #[.int .u32 (s : Int), va] w' fun e w'' => e = .returned (.int .u32 (crc s xa : Nat)) ∧ Below w'.heap.size w' w'') := fun w' hb => D.crc s va xa w' hs (reads_on hb hra) h8a (by have := HL.out.1; omega)
  have KA2 : Hid (∀ w', Below W.heap.size W w' → Calls Try.prog 11 #[.int .u32 (crc s xa : Nat), vb] w' fun e w'' => e = .returned (.int .u32 (crc s (xa ++ xb) : Nat)) ∧ Below w'.heap.size w' w'') := fun w' hb => by
    have h := D.crc (crc s xa) vb xb w' (by omega) (reads_on hb hrb) h8b (by have := HL.out.2; omega)
    rw [crc_append xb h8a] at h
    exact h
  have KB1 : Hid (∀ w', Below W.heap.size W w' → Calls Try.prog 9 #[.int .u32 (s : Int), va] w' fun e w'' => e = .returned (.int .u32 (adler s xa : Nat)) ∧ Below w'.heap.size w' w'') := fun w' hb => D.adler s va xa w' hs (reads_on hb hra) h8a (by have := HL.out.1; omega)
  have KB2 : Hid (∀ w', Below W.heap.size W w' → Calls Try.prog 9 #[.int .u32 (adler s xa : Nat), vb] w' fun e w'' => e = .returned (.int .u32 (adler s (xa ++ xb) : Nat)) ∧ Below w'.heap.size w' w'') := fun w' hb => by
    have h := D.adler (adler s xa) vb xb w' (by omega) (reads_on hb hrb) h8b (by have := HL.out.2; omega)
    rw [adler_append] at h
    exact h
  have KD : Hid (∀ (u : Value) (zs : List Nat) (w : World), reads w u zs → bytes zs → zs.length ≤ 140737488355328 → Calls Try.prog 11 #[.int .u32 (s : Int), u] w fun e w'' => e = .returned (.int .u32 (crc s zs : Nat)) ∧ Below w.heap.size w w'') := fun u zs w hr h8 hl => D.crc s u zs w hs hr h8 hl
  have KE : Hid (∀ (u : Value) (zs : List Nat) (w : World), reads w u zs → bytes zs → zs.length ≤ 140737488355328 → Calls Try.prog 9 #[.int .u32 (s : Int), u] w fun e w'' => e = .returned (.int .u32 (adler s zs : Nat)) ∧ Below w.heap.size w w'') := fun u zs w hr h8 hl => D.adler s u zs w hs hr h8 hl
  have HB1 : Hid (∀ p T d, p < (xa ++ xb).length → T ≠ 0 → T ≤ 255 → d = (fun j => if j = p then T else 0) → crc s (turned (xa ++ xb) d) ≠ crc s (xa ++ xb) ∧ adler s (turned (xa ++ xb) d) ≠ adler s (xa ++ xb)) := by
    intro p T d hp hT kT hd
    have h1 : ∀ j, d j < 256 := fun j => by rw [hd]; show (if j = p then T else 0) < 256; split <;> omega
    constructor
    · intro h
      have := crc_burst (show s < 4294967296 by omega) H8.out p d h1 (fun j hj => by rw [hd]; exact if_neg (by omega)) h p hp
      rw [hd] at this
      simp at this
      exact hT this
    · refine adler_one H8.out p hp d (fun j hj => by rw [hd]; exact if_neg hj) ?_ (h1 p)
      rw [hd]
      simpa using hT
  go_enter Try.func5, Try.ntmps5
  go_wp2_with fail
  go_at_call 14
  refine (copy_any va xa W hra (by have := HL.out.1; omega)).mono ?_
  rintro e w1 ⟨u, rfl, hown, hb1⟩
  rw [HNA.out] at hown
  go_wp2_with (at_builtin; refine wpList_append_reads rfl _ _ rfl W.heap.size _ na xa rfl hown vb xb rfl (reads_on hb1 hrb) (by have := HL.out.2; omega) hb1.size ?_)
  intro w2v w2 hown2 hgrow
  replace hbl := hb1.grown hgrow hb1.size (fun q hq => (hown.lt q hq).1)
  rw [HNB.out] at hown2
  have hru := own_reads hown2
  have hlenU := len_reads hru
  rw [HN.out] at hlenU
  have hbi := Below.refl w2.heap.size w2
  have hsz := hbl.size
  clear hown hgrow hb1 hown2
  have KA3 : Hid (∀ w', Below w2.heap.size w2 w' → Calls Try.prog 11 #[.int .u32 (s : Int), w2v] w' fun e w'' => e = .returned (.int .u32 (crc s (xa ++ xb) : Nat)) ∧ Below w'.heap.size w' w'') := fun w' hb => KD.out w2v (xa ++ xb) w' (reads_on hb hru) H8.out (by rw [HN.out]; omega)
  have KB3 : Hid (∀ w', Below w2.heap.size w2 w' → Calls Try.prog 9 #[.int .u32 (s : Int), w2v] w' fun e w'' => e = .returned (.int .u32 (adler s (xa ++ xb) : Nat)) ∧ Below w'.heap.size w' w'') := fun w' hb => KE.out w2v (xa ++ xb) w' (reads_on hb hru) H8.out (by rw [HN.out]; omega)
  have KC : Hid (∀ w', Below w2.heap.size w2 w' → reads w' w2v (xa ++ xb)) := fun w' hb => reads_on hb hru
  clear hru hra hrb h8a h8b
  generalize xa ++ xb = zs at *
  generalize crc s zs = C at *
  generalize adler s zs = A at *
  generalize crc s xa = C1 at *
  generalize adler s xa = A1 at *
  have HNN := HN
  have bn : na + nb ≤ 8000 := by omega
  generalize na + nb = n at *
  have t1 : ((C : Int) != (C : Int)) = false := by simp
  have t2 : ((A : Int) != (A : Int)) = false := by simp
  by_cases hn0 : 0 < n
  · have hd3 : decide ((0 : Int) < (n : Int)) = true := decide_eq_true (by omega)
    by_cases hT0 : T = 0
    · have ht : ((T : Int) != 0) = false := by simp [hT0]
      go_wp2_with (first | (go_at_call 11; with_reducible refine (KA1.out _ hbl).mono ?_; rintro e w9 ⟨rfl, hb9⟩; replace hbl := below_keep hbl hb9; replace hbi := below_keep hbi hb9; clear hb9) | (go_at_call 11; with_reducible refine (KA2.out _ hbl).mono ?_; rintro e w9 ⟨rfl, hb9⟩; replace hbl := below_keep hbl hb9; replace hbi := below_keep hbi hb9; clear hb9) | (go_at_call 11; with_reducible refine (KA3.out _ hbi).mono ?_; rintro e w9 ⟨rfl, hb9⟩; replace hbl := below_keep hbl hb9; replace hbi := below_keep hbi hb9; clear hb9) | (go_at_call 9; with_reducible refine (KB1.out _ hbl).mono ?_; rintro e w9 ⟨rfl, hb9⟩; replace hbl := below_keep hbl hb9; replace hbi := below_keep hbi hb9; clear hb9) | (go_at_call 9; with_reducible refine (KB2.out _ hbl).mono ?_; rintro e w9 ⟨rfl, hb9⟩; replace hbl := below_keep hbl hb9; replace hbi := below_keep hbi hb9; clear hb9) | (go_at_call 9; with_reducible refine (KB3.out _ hbi).mono ?_; rintro e w9 ⟨rfl, hb9⟩; replace hbl := below_keep hbl hb9; replace hbi := below_keep hbi hb9; clear hb9) | (go_at_call 13; refine (awake_any D _).mono ?_; rintro e w9 ⟨rfl, hb9⟩; replace hbl := below_keep hbl hb9; replace hbi := below_keep hbi hb9; clear hb9))
      go_ret
      exact ⟨rfl, hbl⟩
    · have ht : ((T : Int) != 0) = true := by simp; omega
      go_wp2_with (first | (go_at_call 11; with_reducible refine (KA1.out _ hbl).mono ?_; rintro e w9 ⟨rfl, hb9⟩; replace hbl := below_keep hbl hb9; replace hbi := below_keep hbi hb9; clear hb9) | (go_at_call 11; with_reducible refine (KA2.out _ hbl).mono ?_; rintro e w9 ⟨rfl, hb9⟩; replace hbl := below_keep hbl hb9; replace hbi := below_keep hbi hb9; clear hb9) | (go_at_call 11; with_reducible refine (KA3.out _ hbi).mono ?_; rintro e w9 ⟨rfl, hb9⟩; replace hbl := below_keep hbl hb9; replace hbi := below_keep hbi hb9; clear hb9) | (go_at_call 9; with_reducible refine (KB1.out _ hbl).mono ?_; rintro e w9 ⟨rfl, hb9⟩; replace hbl := below_keep hbl hb9; replace hbi := below_keep hbi hb9; clear hb9) | (go_at_call 9; with_reducible refine (KB2.out _ hbl).mono ?_; rintro e w9 ⟨rfl, hb9⟩; replace hbl := below_keep hbl hb9; replace hbi := below_keep hbi hb9; clear hb9) | (go_at_call 9; with_reducible refine (KB3.out _ hbi).mono ?_; rintro e w9 ⟨rfl, hb9⟩; replace hbl := below_keep hbl hb9; replace hbi := below_keep hbi hb9; clear hb9))
      go_at_call 14
      refine (copy_any w2v zs _ (KC.out _ hbi) (by rw [HN.out]; omega)).mono ?_
      rintro e w3 ⟨u3, rfl, hown3, hb9⟩
      rw [HN.out] at hown3
      obtain ⟨g, cap, rfl, hg1, hcap, _, hglt, hrow⟩ := row_of_own hown3 hn0
      have hg2 : w2.heap.size ≤ g := Nat.le_trans hbi.size hg1
      replace hbl := below_keep hbl hb9; replace hbi := below_keep hbi hb9; clear hb9
      clear hown3 hg1
      have hxor : ∀ p, p < n → zs.getD p 0 ≤ 255 := fun p hp => bytes_get H8.out p
      have HX := Lib.hid hxor
      clear hxor
      go_wp2_with fail
      go_at_call 16
      refine (pick_any pos (n : Int) hp kp (by omega) (by omega) _).mono ?_
      rintro e w9 ⟨⟨p, rfl, hpn⟩, rfl⟩
      have hpn2 : p < n := by have := hpn (by omega); omega
      clear hpn
      have hcell := hrow.cell p (by rw [HN.out]; exact hpn2)
      have hfr := hrow.unfrozen p
      have hz := HX.out p hpn2
      have hx := u8_xor_nat (zs.getD p 0) T (by omega) (by omega)
      have HT1 := Lib.hid (turned_one zs p T)
      have HNE := Lib.hid (HB1.out p T _ (by rw [HN.out]; exact hpn2) hT0 kT rfl)
      have H81 : Hid (bytes (turned zs fun j => if j = p then T else 0)) := turned_below H8.out (fun j => by show (if j = p then T else 0) < 256; split <;> omega)
      have HL1 : Hid ((turned zs fun j => if j = p then T else 0).length = n) := (turned_length _ _).trans HN.out
      have hrow4 := hrow.set p (zs.getD p 0 ^^^ T)
      rw [← HT1.out] at hrow4
      have h6 := hbl.setCell (p := ⟨g, p, none⟩) (Nat.le_trans hsz hg2) (.int .u8 ((zs.getD p 0 ^^^ T : Nat) : Int))
      have h7 := hbi.setCell (p := ⟨g, p, none⟩) hg2 (.int .u8 ((zs.getD p 0 ^^^ T : Nat) : Int))
      have hx8 : zs.getD p 0 ^^^ T ≤ 255 := by have := byte_xor (a := zs.getD p 0) (b := T) (by omega) (by omega); omega
      have b5 := crc_below s (turned zs fun j => if j = p then T else 0)
      have b6 := adler_below s (turned zs fun j => if j = p then T else 0)
      clear hrow
      generalize (turned zs fun j => if j = p then T else 0) = ys at *
      have H4 : Hid (∃ w4, w4 = w3.setCell ⟨g, p, none⟩ (.int .u8 ((zs.getD p 0 ^^^ T : Nat) : Int)) ∧ rowIs w4 g ys ∧ Below W.heap.size W w4 ∧ Below w2.heap.size w2 w4) := ⟨_, rfl, hrow4, h6, h7⟩
      clear hrow4 h6 h7 HT1 hbl hbi
      generalize zs.getD p 0 ^^^ T = X at *
      generalize zs.getD p 0 = Z at *
      go_wp2_with fail
      obtain ⟨w4, e4, hrow, hbl, hbi⟩ := H4.out
      rw [← e4]
      clear e4 H4 hcell hfr
      have hbj := Below.refl w4.heap.size w4
      have hr4 := hrow.reads (cap := cap) HL1.out hcap
      have KF : Hid (∀ w', Below w4.heap.size w4 w' → Calls Try.prog 11 #[.int .u32 (s : Int), .slice (some ⟨g, 0, none⟩) n cap] w' fun e w'' => e = .returned (.int .u32 (crc s ys : Nat)) ∧ Below w'.heap.size w' w'') := fun w' hb => KD.out _ ys w' (reads_on hb hr4) H81.out (by rw [HL1.out]; omega)
      have KG : Hid (∀ w', Below w4.heap.size w4 w' → Calls Try.prog 9 #[.int .u32 (s : Int), .slice (some ⟨g, 0, none⟩) n cap] w' fun e w'' => e = .returned (.int .u32 (adler s ys : Nat)) ∧ Below w'.heap.size w' w'') := fun w' hb => KE.out _ ys w' (reads_on hb hr4) H81.out (by rw [HL1.out]; omega)
      have ht5 : ((crc s ys : Int) == (C : Int)) = false := by have := HNE.out.1; simp; omega
      have ht6 : ((adler s ys : Int) == (A : Int)) = false := by have := HNE.out.2; simp; omega
      clear hrow hr4
      generalize crc s ys = C2 at *
      generalize adler s ys = A2 at *
      go_wp2_with (first | (go_at_call 11; with_reducible refine (KF.out _ hbj).mono ?_; rintro e w9 ⟨rfl, hb9⟩; replace hbl := below_keep hbl hb9; replace hbj := below_keep hbj hb9; replace hbi := below_keep hbi hb9; clear hb9) | (go_at_call 11; with_reducible refine (KA3.out _ hbi).mono ?_; rintro e w9 ⟨rfl, hb9⟩; replace hbl := below_keep hbl hb9; replace hbj := below_keep hbj hb9; replace hbi := below_keep hbi hb9; clear hb9) | (go_at_call 9; with_reducible refine (KG.out _ hbj).mono ?_; rintro e w9 ⟨rfl, hb9⟩; replace hbl := below_keep hbl hb9; replace hbj := below_keep hbj hb9; replace hbi := below_keep hbi hb9; clear hb9) | (go_at_call 9; with_reducible refine (KB3.out _ hbi).mono ?_; rintro e w9 ⟨rfl, hb9⟩; replace hbl := below_keep hbl hb9; replace hbj := below_keep hbj hb9; replace hbi := below_keep hbi hb9; clear hb9) | (go_at_call 13; refine (awake_any D _).mono ?_; rintro e w9 ⟨rfl, hb9⟩; replace hbl := below_keep hbl hb9; replace hbj := below_keep hbj hb9; replace hbi := below_keep hbi hb9; clear hb9))
      go_ret
      exact ⟨rfl, hbl⟩
  · have hd3 : decide ((0 : Int) < (n : Int)) = false := decide_eq_false (by omega)
    go_wp2_with (first | (go_at_call 11; with_reducible refine (KA1.out _ hbl).mono ?_; rintro e w9 ⟨rfl, hb9⟩; replace hbl := below_keep hbl hb9; replace hbi := below_keep hbi hb9; clear hb9) | (go_at_call 11; with_reducible refine (KA2.out _ hbl).mono ?_; rintro e w9 ⟨rfl, hb9⟩; replace hbl := below_keep hbl hb9; replace hbi := below_keep hbi hb9; clear hb9) | (go_at_call 11; with_reducible refine (KA3.out _ hbi).mono ?_; rintro e w9 ⟨rfl, hb9⟩; replace hbl := below_keep hbl hb9; replace hbi := below_keep hbi hb9; clear hb9) | (go_at_call 9; with_reducible refine (KB1.out _ hbl).mono ?_; rintro e w9 ⟨rfl, hb9⟩; replace hbl := below_keep hbl hb9; replace hbi := below_keep hbi hb9; clear hb9) | (go_at_call 9; with_reducible refine (KB2.out _ hbl).mono ?_; rintro e w9 ⟨rfl, hb9⟩; replace hbl := below_keep hbl hb9; replace hbi := below_keep hbi hb9; clear hb9) | (go_at_call 9; with_reducible refine (KB3.out _ hbi).mono ?_; rintro e w9 ⟨rfl, hb9⟩; replace hbl := below_keep hbl hb9; replace hbi := below_keep hbi hb9; clear hb9) | (go_at_call 13; refine (awake_any D _).mono ?_; rintro e w9 ⟨rfl, hb9⟩; replace hbl := below_keep hbl hb9; replace hbi := below_keep hbi hb9; clear hb9))
    go_ret
    exact ⟨rfl, hbl⟩
theorem pieces_law (D : Does) (W : World) (s : Nat) (va : Value) (xa : List Nat) (vb : Value) (xb : List Nat) (pos T : Int) (hs : s ≤ 4294967295) (hra : reads W va xa) (h8a : bytes xa) (_ha : ∀ b off len cap, va = .slice (some ⟨b, off, none⟩) len cap → len ≤ cap)
    (hrb : reads W vb xb) (h8b : bytes xb) (_hb : ∀ b off len cap, vb = .slice (some ⟨b, off, none⟩) len cap → len ≤ cap) (hp : -9223372036854775808 ≤ pos) (kp : pos ≤ 9223372036854775807) (hT : 0 ≤ T) (kT : T ≤ 255) :
    Calls Try.prog 5 #[.int .u32 (s : Int), va, vb, .int .i64 pos, .int .u8 T] W fun e w' => e = .returned (.bool true) ∧ Below W.heap.size W w' := by
  obtain ⟨T', rfl⟩ : ∃ n : Nat, T = (n : Int) := ⟨T.toNat, by omega⟩
  have hbl := Below.refl W.heap.size W
  have hlenA := len_reads hra
  have hlenB := len_reads hrb
  by_cases hla : xa.length ≤ 4000
  · by_cases hlb : xb.length ≤ 4000
    · exact pieces_main D W s va xa vb xb pos T' hs hra h8a hrb h8b hp kp (by omega) hla hlb
    · have hd1 : decide ((4000 : Int) < (xa.length : Int)) = false := decide_eq_false (by omega)
      have hd2 : decide ((4000 : Int) < (xb.length : Int)) = true := decide_eq_true (by omega)
      clear hla hlb
      generalize xa.length = na at *
      generalize xb.length = nb at *
      go_enter Try.func5, Try.ntmps5
      go_wp2_with (go_at_call 13; refine (awake_any D _).mono ?_; rintro e w' ⟨rfl, hnew⟩; replace hbl := below_keep hbl hnew; clear hnew)
      go_ret
      exact ⟨rfl, hbl⟩
  · have hd1 : decide ((4000 : Int) < (xa.length : Int)) = true := decide_eq_true (by omega)
    clear hla
    generalize xa.length = na at *
    go_enter Try.func5, Try.ntmps5
    go_wp2_with (go_at_call 13; refine (awake_any D _).mono ?_; rintro e w' ⟨rfl, hnew⟩; replace hbl := below_keep hbl hnew; clear hnew)
    go_ret
    exact ⟨rfl, hbl⟩
end Go.Proofs.Ytmbbgppmidogbaa.Fx
