/-
  The walk of SumsBurst. The conditions are that the numbers are of their kinds and the list reads as bytes.
-/
import Derived.Test.YtmbbgppmidogbaaSumsPiecesWalk
namespace Go.Proofs.Ytmbbgppmidogbaa.Fx
open Go Go.RowKit Go.Joins
set_option linter.unusedVariables false
/-- What is turned at a place up to k places behind p; whether anything is. -/
def window (t : Nat → Nat) (p k : Nat) (j : Nat) : Nat := if p ≤ j ∧ j < p + k then t (j - p) else 0
def changed (t : Nat → Nat) : Nat → Bool
  | 0 => false
  | k + 1 => changed t k || (t k != 0)
theorem changed_some (t : Nat → Nat) (k : Nat) (h : changed t k = true) : ∃ j, j < k ∧ t j ≠ 0 := by
  induction k with
  | zero => cases h
  | succ k ih =>
    rw [changed, Bool.or_eq_true] at h
    rcases h with h | h
    · obtain ⟨j, hj, h1⟩ := ih h
      exact ⟨j, by omega, h1⟩
    · exact ⟨k, by omega, by simpa using h⟩
theorem changed_none (t : Nat → Nat) (k : Nat) (h : changed t k = false) : ∀ j, j < k → t j = 0 := by
  induction k with
  | zero => intro j hj; omega
  | succ k ih =>
    rw [changed, Bool.or_eq_false_iff] at h
    intro j hj
    by_cases e : j = k
    · subst e
      simpa using h.2
    · exact ih h.1 j (by omega)
theorem window_byte {t : Nat → Nat} (ht : ∀ j, t j ≤ 255) (p k j : Nat) : window t p k j < 256 := by
  have := ht (j - p)
  unfold window
  split <;> omega
theorem window_start (zs : List Nat) (t : Nat → Nat) (p : Nat) : turned zs (window t p 0) = zs := by
  have e : window t p 0 = fun _ => 0 := by
    funext j
    exact if_neg (by omega)
  rw [e, turned_none]
theorem window_step (zs : List Nat) (t : Nat → Nat) (p k : Nat) : turned zs (window t p (k + 1)) = (turned zs (window t p k)).set (p + k) (zs.getD (p + k) 0 ^^^ t k) := by
  have h := turned_set zs (window t p k) (window t p (k + 1)) (p + k) (fun j hj => by
    unfold window
    by_cases h1 : p ≤ j ∧ j < p + k
    · rw [if_pos h1, if_pos (by omega)]
    · rw [if_neg h1, if_neg (by omega)])
  have e : window t p (k + 1) (p + k) = t k := by
    unfold window
    rw [if_pos (by omega)]
    congr 1
    omega
  rw [e] at h
  exact h
theorem window_at (zs : List Nat) (t : Nat → Nat) (p k : Nat) (h : p + k < zs.length) : (turned zs (window t p k)).getD (p + k) 0 = zs.getD (p + k) 0 := by
  rw [turned_get _ _ _ h]
  unfold window
  rw [if_neg (by omega), Nat.xor_zero]
theorem burst_says {s : Nat} (hs : s < 4294967296) {zs : List Nat} (hz : bytes zs) {t : Nat → Nat} (ht : ∀ j, t j ≤ 255) (p k : Nat) (hk : k ≤ 4) (hpk : p + k ≤ zs.length) :
    ((crc s (turned zs (window t p k)) : Int) != (crc s zs : Int)) = changed t k := by
  cases hc : changed t k with
  | true =>
    obtain ⟨j, hj, h0⟩ := changed_some t k hc
    have hne : crc s (turned zs (window t p k)) ≠ crc s zs := by
      intro h
      have h1 := crc_burst hs hz p (window t p k) (window_byte ht p k) (fun i hi => if_neg (by omega)) h (p + j) (by omega)
      unfold window at h1
      rw [if_pos (by omega), show p + j - p = j by omega] at h1
      exact h0 h1
    simp
    omega
  | false =>
    have h0 := changed_none t k hc
    have e : window t p k = fun _ => 0 := by
      funext j
      unfold window
      by_cases h : p ≤ j ∧ j < p + k
      · rw [if_pos h]
        exact h0 _ (by omega)
      · rw [if_neg h]
    rw [e, turned_none]
    simp
def four (t0 t1 t2 t3 : Nat) : Nat → Nat
  | 0 => t0
  | 1 => t1
  | 2 => t2
  | 3 => t3
  | _ => 0
set_option maxHeartbeats 8000000 in
set_option maxRecDepth 100000 in
theorem burst_main (D : Does) (W : World) (s : Nat) (v : Value) (zs : List Nat) (pos : Int) (t0 t1 t2 t3 n : Nat) (hs : s ≤ 4294967295) (hr : reads W v zs) (h8 : bytes zs) (hp : -9223372036854775808 ≤ pos) (kp : pos ≤ 9223372036854775807)
    (k0 : t0 ≤ 255) (k1 : t1 ≤ 255) (k2 : t2 ≤ 255) (k3 : t3 ≤ 255) (hn : zs.length = n) (hn0 : 0 < n) (hn5 : n ≤ 500) :
    Calls Try.prog 7 #[.int .u32 (s : Int), v, .int .i64 pos, .agg #[.int .u8 (t0 : Int), .int .u8 (t1 : Int), .int .u8 (t2 : Int), .int .u8 (t3 : Int)]] W fun e w' => e = .returned (.bool true) ∧ Below W.heap.size W w' := by
  have hbl := Below.refl W.heap.size W
  have hlen := len_reads hr
  rw [hn] at hlen
  have HN := Lib.hid hn
  clear hn
  have ht1 : ((n : Int) == 0) = false := by simp; omega
  have ht2 : decide ((500 : Int) < (n : Int)) = false := decide_eq_false (by omega)
  have H8 := Lib.hid h8
  have HR := Lib.hid hr
  clear h8 hr
  go_enter Try.func7, Try.ntmps7
  go_wp2_with fail
  have hbox : ∀ j, j < 4 → (W.alloc (.cells #[.int .u8 (t0 : Int), .int .u8 (t1 : Int), .int .u8 (t2 : Int), .int .u8 (t3 : Int)] 33)).cell? ⟨W.heap.size, j, none⟩ = some (.int .u8 (four t0 t1 t2 t3 j : Nat)) := by
    intro j hj
    rw [World.cell?_alloc_mark]
    match j, hj with
    | 0, _ => rfl
    | 1, _ => rfl
    | 2, _ => rfl
    | 3, _ => rfl
  replace hbl := hbl.alloc hbl.size (.cells #[.int .u8 (t0 : Int), .int .u8 (t1 : Int), .int .u8 (t2 : Int), .int .u8 (t3 : Int)] 33)
  have hsz : W.heap.size < (W.alloc (.cells #[.int .u8 (t0 : Int), .int .u8 (t1 : Int), .int .u8 (t2 : Int), .int .u8 (t3 : Int)] 33)).heap.size := by
    show _ < (W.heap.push _).size
    simp
  generalize W.alloc (.cells #[.int .u8 (t0 : Int), .int .u8 (t1 : Int), .int .u8 (t2 : Int), .int .u8 (t3 : Int)] 33) = w1 at *
  have ht8 : ∀ j, four t0 t1 t2 t3 j ≤ 255 := fun j => by
    match j with
    | 0 => exact k0
    | 1 => exact k1
    | 2 => exact k2
    | 3 => exact k3
    | j + 4 => exact Nat.zero_le _
  generalize four t0 t1 t2 t3 = t at *
  go_at_call 16
  refine (pick_any pos (n : Int) hp kp (by omega) (by omega) _).mono ?_
  rintro e w9 ⟨⟨p, rfl, hpn⟩, rfl⟩
  have hpn2 : p < n := by have := hpn (by omega); omega
  clear hpn
  have HBOX := Lib.hid hbox
  have HT8 := Lib.hid ht8
  clear hbox ht8
  go_wp2_with fail
  go_at_call 14
  refine (copy_any v zs _ (reads_on hbl HR.out) (by rw [HN.out]; omega)).mono ?_
  rintro e w3 ⟨u3, rfl, hown3, hb9⟩
  rw [HN.out] at hown3
  obtain ⟨g, cap, rfl, hg1, hcap, _, hglt, hrow⟩ := row_of_own hown3 hn0
  replace hbl := hbl.trans (hb9.mono hbl.size)
  have HBOX3 : Hid (∀ j, j < 4 → w3.cell? ⟨W.heap.size, j, none⟩ = some (.int .u8 (t j : Nat))) := fun j hj => (hb9.cell (p := ⟨W.heap.size, j, none⟩) hsz).trans (HBOX.out j hj)
  have hgW : W.heap.size < g := Nat.lt_of_lt_of_le hsz hg1
  clear hown3 hb9 HBOX hg1 hsz
  have hbg := Below.refl g w3
  have hst : rowIs w3 g (turned zs (window t p 0)) := by rw [window_start]; exact hrow
  go_wp2_with fail
  go_loopw [10, 11] (fun c i wr => ∃ k : Nat, k ≤ 4 ∧ p + k ≤ n ∧ i = .int .i64 k ∧ c = .bool (changed t k) ∧ rowIs wr g (turned zs (window t p k)) ∧ Below W.heap.size W wr ∧ Below g w3 wr) (fun _ i _ => 4 - (intOf i).toNat)
  case atStart => exact ⟨0, by omega, by omega, rfl, rfl, hst, hbl, hbg⟩
  case round =>
    clear hbl hbg hst hrow
    obtain ⟨k, hk, hpk, rfl, rfl, hrow, hbl, hbg⟩ := hrel
    have HC : Hid (∀ k', k' = k → ((crc s (turned zs (window t p k)) : Int) != (crc s zs : Int)) = changed t k) := fun _ _ => burst_says (by omega) H8.out HT8.out p k hk (by rw [HN.out]; exact hpk)
    by_cases hgo : k < 4 ∧ p + k < n
    · have hd1 : decide ((k : Int) < 4) = true := decide_eq_true (by omega)
      have hd2 : decide ((p : Int) + (k : Int) < (n : Int)) = true := decide_eq_true (by omega)
      obtain ⟨q, hq⟩ : ∃ q, p + k = q := ⟨_, rfl⟩
      have hsum : IntKind.i64.wrap ((p : Int) + (k : Int)) = (q : Int) := by
        rw [IntWalk.i64_in _ (by omega)]
        omega
      have hqn : q < n := by omega
      have hk4 : k < 4 := by omega
      have HST := Lib.hid (window_step zs t p k)
      have HAT := Lib.hid (window_at zs t p k (by rw [HN.out]; omega))
      rw [hq] at HST HAT
      have hl : (turned zs (window t p k)).length = n := (turned_length _ _).trans HN.out
      have hcell := hrow.cell q (by rw [hl]; exact hqn)
      have hfr := hrow.unfrozen q
      rw [HAT.out] at hcell
      have hbx := (hbg.cell (p := ⟨W.heap.size, k, none⟩) hgW).trans (HBOX3.out k hk4)
      have hz := bytes_get H8.out q
      have hx := u8_xor_nat (zs.getD q 0) (t k) (by omega) (by have := HT8.out k; omega)
      have ht := HT8.out k
      have HROW := Lib.hid (hrow.set q (zs.getD q 0 ^^^ t k))
      have hx8 : zs.getD q 0 ^^^ t k ≤ 255 := by have := byte_xor (a := zs.getD q 0) (b := t k) (by omega) (by omega); omega
      rw [← HST.out] at HROW
      have HCH : Hid (changed t (k + 1) = (changed t k || (t k != 0))) := rfl
      clear hrow hl
      generalize eY : turned zs (window t p (k + 1)) = ys at *
      have EY := Lib.hid eY
      clear eY
      generalize zs.getD q 0 ^^^ t k = X at *
      generalize zs.getD q 0 = Z at *
      generalize eT : t k = T at *
      have ET := Lib.hid eT
      clear eT
      generalize changed t k = ch at *
      generalize eC : changed t (k + 1) = ch' at *
      have EC := Lib.hid eC
      clear eC
      go_wp2_with fail
      go_region
      have hrow : rowIs (wr.setCell ⟨g, q, none⟩ (.int .u8 (X : Int))).drew g ys := HROW.out
      replace hbl := (hbl.setCell (p := ⟨g, q, none⟩) (Nat.le_of_lt hgW) (.int .u8 (X : Int))).drew
      replace hbg := (hbg.setCell (p := ⟨g, q, none⟩) (Nat.le_refl g) (.int .u8 (X : Int))).drew
      clear hbx hcell hfr HROW
      generalize (wr.setCell ⟨g, q, none⟩ (.int .u8 (X : Int))).drew = w5 at *
      have hbx := (hbg.cell (p := ⟨W.heap.size, k, none⟩) hgW).trans (HBOX3.out k hk4)
      rw [ET.out] at hbx
      have hTT : ((T : Int) != 0) = (T != 0) := by
        rw [Bool.eq_iff_iff]
        simp
      go_simp
      cases ch with
      | true =>
        obtain rfl : ch' = true := by rw [HCH.out]; rfl
        go_wp2
        go_roundw
        case rel => exact ⟨k + 1, by omega, by omega, by go_num, by rw [EC.out], by rw [EY.out]; exact hrow, hbl, hbg⟩
        case measure => simp [intOf]; omega
      | false =>
        have hc : ((T : Int) != 0) = ch' := by rw [HCH.out, hTT]; rfl
        clear hTT
        go_wp2
        go_roundw
        case rel => exact ⟨k + 1, by omega, by omega, by go_num, by rw [EC.out], by rw [EY.out]; exact hrow, hbl, hbg⟩
        case measure => simp [intOf]; omega
    · have hx := hrow.reads (n := n) (cap := cap) ((turned_length _ _).trans HN.out) hcap
      have H81 : Hid (bytes (turned zs (window t p k))) := turned_below H8.out (window_byte HT8.out p k)
      have HL1 : Hid ((turned zs (window t p k)).length ≤ 140737488355328) := by
        show _ ≤ _
        rw [turned_length, HN.out]
        omega
      have HL2 : Hid (zs.length ≤ 140737488355328) := by
        show _ ≤ _
        rw [HN.out]
        omega
      have KF : Hid (∀ w', Below wr.heap.size wr w' → Calls Try.prog 11 #[.int .u32 (s : Int), .slice (some ⟨g, 0, none⟩) n cap] w' fun e w'' => e = .returned (.int .u32 (crc s (turned zs (window t p k)) : Nat)) ∧ Below w'.heap.size w' w'') := fun w' hb => D.crc s _ _ w' hs (reads_on hb hx) H81.out HL1.out
      have KG : Hid (∀ w', Below W.heap.size W w' → Calls Try.prog 11 #[.int .u32 (s : Int), v] w' fun e w'' => e = .returned (.int .u32 (crc s zs : Nat)) ∧ Below w'.heap.size w' w'') := fun w' hb => D.crc s v zs w' hs (reads_on hb HR.out) H8.out HL2.out
      have hc := HC.out k rfl
      have b1 := crc_below s (turned zs (window t p k))
      have b2 := crc_below s zs
      have hbi := Below.refl wr.heap.size wr
      clear HC hx
      generalize crc s (turned zs (window t p k)) = C1 at *
      generalize crc s zs = C at *
      generalize changed t k = ch at *
      have hee : (ch == ch) = true := by simp
      by_cases hk4 : k < 4
      · have hd1 : decide ((k : Int) < 4) = true := decide_eq_true (by omega)
        have hd2 : decide ((p : Int) + (k : Int) < (n : Int)) = false := decide_eq_false (by omega)
        go_wp2_with (first | (go_at_call 11; with_reducible refine (KF.out _ hbi).mono ?_; rintro e w9 ⟨rfl, hb9⟩; replace hbl := below_keep hbl hb9; replace hbi := below_keep hbi hb9; clear hb9) | (go_at_call 11; with_reducible refine (KG.out _ hbl).mono ?_; rintro e w9 ⟨rfl, hb9⟩; replace hbl := below_keep hbl hb9; replace hbi := below_keep hbi hb9; clear hb9) | (go_at_call 13; refine (awake_any D _).mono ?_; rintro e w9 ⟨rfl, hb9⟩; replace hbl := below_keep hbl hb9; replace hbi := below_keep hbi hb9; clear hb9))
        go_ret
        exact ⟨rfl, hbl⟩
      · obtain rfl : k = 4 := by omega
        have hd1 : decide ((4 : Int) < 4) = false := by decide
        go_wp2_with (first | (go_at_call 11; with_reducible refine (KF.out _ hbi).mono ?_; rintro e w9 ⟨rfl, hb9⟩; replace hbl := below_keep hbl hb9; replace hbi := below_keep hbi hb9; clear hb9) | (go_at_call 11; with_reducible refine (KG.out _ hbl).mono ?_; rintro e w9 ⟨rfl, hb9⟩; replace hbl := below_keep hbl hb9; replace hbi := below_keep hbi hb9; clear hb9) | (go_at_call 13; refine (awake_any D _).mono ?_; rintro e w9 ⟨rfl, hb9⟩; replace hbl := below_keep hbl hb9; replace hbi := below_keep hbi hb9; clear hb9))
        go_ret
        exact ⟨rfl, hbl⟩
theorem burst_law (D : Does) (W : World) (s : Nat) (v : Value) (zs : List Nat) (pos : Int) (t0 t1 t2 t3 : Nat) (hs : s ≤ 4294967295) (hr : reads W v zs) (h8 : bytes zs) (_hc : ∀ b off len cap, v = .slice (some ⟨b, off, none⟩) len cap → len ≤ cap) (hp : -9223372036854775808 ≤ pos) (kp : pos ≤ 9223372036854775807)
    (k0 : t0 ≤ 255) (k1 : t1 ≤ 255) (k2 : t2 ≤ 255) (k3 : t3 ≤ 255) :
    Calls Try.prog 7 #[.int .u32 (s : Int), v, .int .i64 pos, .agg #[.int .u8 (t0 : Int), .int .u8 (t1 : Int), .int .u8 (t2 : Int), .int .u8 (t3 : Int)]] W fun e w' => e = .returned (.bool true) ∧ Below W.heap.size W w' := by
  have hlen := len_reads hr
  by_cases hn0 : 0 < zs.length
  · by_cases hn5 : zs.length ≤ 500
    · exact burst_main D W s v zs pos t0 t1 t2 t3 zs.length hs hr h8 hp kp k0 k1 k2 k3 rfl hn0 hn5
    · have hbl := (Below.refl W.heap.size W).alloc (Nat.le_refl _) (.cells #[.int .u8 (t0 : Int), .int .u8 (t1 : Int), .int .u8 (t2 : Int), .int .u8 (t3 : Int)] 33)
      generalize zs.length = n at *
      have ht1 : ((n : Int) == 0) = false := by simp; omega
      have ht2 : decide ((500 : Int) < (n : Int)) = true := decide_eq_true (by omega)
      clear hn0 hn5
      go_enter Try.func7, Try.ntmps7
      go_wp2_with (go_at_call 13; refine (awake_any D _).mono ?_; rintro e w' ⟨rfl, hnew⟩; replace hbl := below_keep hbl hnew; clear hnew)
      go_ret
      exact ⟨rfl, hbl⟩
  · have hbl := (Below.refl W.heap.size W).alloc (Nat.le_refl _) (.cells #[.int .u8 (t0 : Int), .int .u8 (t1 : Int), .int .u8 (t2 : Int), .int .u8 (t3 : Int)] 33)
    have hz : zs.length = 0 := by omega
    rw [hz] at hlen
    clear hz hn0
    go_enter Try.func7, Try.ntmps7
    go_wp2_with (go_at_call 13; refine (awake_any D _).mono ?_; rintro e w' ⟨rfl, hnew⟩; replace hbl := below_keep hbl hnew; clear hnew)
    go_ret
    exact ⟨rfl, hbl⟩
end Go.Proofs.Ytmbbgppmidogbaa.Fx
