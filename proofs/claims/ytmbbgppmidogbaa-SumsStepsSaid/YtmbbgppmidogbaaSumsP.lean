/-
  Plain numbers: the two sums of bytes, byte by byte, and what follows. No condition but that numbers are below 2^32, where it is said.
-/
namespace Go.Proofs.Ytmbbgppmidogbaa.Fx

/-- One step of the CRC; some steps; one byte; some bytes; the sum. -/
def sh (c : Nat) : Nat := c / 2 ^^^ (if c % 2 = 1 then 3988292384 else 0)
def shn : Nat → Nat → Nat
  | 0, c => c
  | k + 1, c => shn k (sh c)
def crcByte (c b : Nat) : Nat := shn 8 (c ^^^ b)
def reg (c : Nat) (l : List Nat) : Nat := l.foldl crcByte c
def crc (s : Nat) (l : List Nat) : Nat := 4294967295 - reg (4294967295 - s) l
/-- Adler: its halves. -/
def adlerByte (p : Nat × Nat) (b : Nat) : Nat × Nat := ((p.1 + b) % 65521, (p.2 + (p.1 + b) % 65521) % 65521)
def halves (s : Nat) : Nat × Nat := (s % 65536 % 65521, s / 65536 % 65521)
def adlerReg (p : Nat × Nat) (l : List Nat) : Nat × Nat := l.foldl adlerByte p
def joined (p : Nat × Nat) : Nat := p.2 * 65536 + p.1
def adler (s : Nat) (l : List Nat) : Nat := joined (adlerReg (halves s) l)

theorem sh_if (c : Nat) : sh c = if c % 2 = 1 then c / 2 ^^^ 3988292384 else c / 2 := by
  unfold sh
  split
  · rfl
  · rw [Nat.xor_zero]
theorem xor_below {a b : Nat} (ha : a < 4294967296) (hb : b < 4294967296) : a ^^^ b < 4294967296 := by
  have h : a ^^^ b < 2 ^ 32 := Nat.xor_lt_two_pow (by omega) (by omega)
  omega
theorem sh_below {c : Nat} (h : c < 4294967296) : sh c < 4294967296 := by
  unfold sh
  refine xor_below (by omega) ?_
  split <;> omega
theorem shn_below (k : Nat) {c : Nat} (h : c < 4294967296) : shn k c < 4294967296 := by
  induction k generalizing c with
  | zero => exact h
  | succ k ih => exact ih (sh_below h)
theorem crcByte_below {c b : Nat} (hc : c < 4294967296) (hb : b < 4294967296) : crcByte c b < 4294967296 := shn_below 8 (xor_below hc hb)
theorem reg_below {c : Nat} {l : List Nat} (hc : c < 4294967296) (hl : ∀ b ∈ l, b < 256) : reg c l < 4294967296 := by
  unfold reg
  induction l generalizing c with
  | nil => exact hc
  | cons b l ih =>
    rw [List.foldl_cons]
    exact ih (crcByte_below hc (by have := hl b (by simp); omega)) (fun d hd => hl d (by simp [hd]))
theorem reg_cons (c b : Nat) (l : List Nat) : reg c (b :: l) = reg (crcByte c b) l := by
  unfold reg
  rw [List.foldl_cons]
theorem reg_append (c : Nat) (l m : List Nat) : reg c (l ++ m) = reg (reg c l) m := by
  unfold reg
  rw [List.foldl_append]
theorem reg_nil (c : Nat) : reg c [] = c := by
  unfold reg
  rw [List.foldl_nil]

/-! ### Bit by bit: all is linear -/
theorem xor_mod (a b : Nat) : (a ^^^ b) % 2 = (a % 2 + b % 2) % 2 := by
  have h := Nat.xor_mod_two_pow (a := a) (b := b) (n := 1)
  rw [Nat.pow_one] at h
  rw [h]
  rcases Nat.mod_two_eq_zero_or_one a with ha | ha <;> rcases Nat.mod_two_eq_zero_or_one b with hb | hb <;> rw [ha, hb] <;> rfl
theorem xor_half (a b : Nat) : (a ^^^ b) / 2 = a / 2 ^^^ b / 2 := by
  have h := Nat.xor_div_two (a := a) (b := b)
  exact h
theorem xor_swap (a b c d : Nat) : (a ^^^ b) ^^^ (c ^^^ d) = (a ^^^ c) ^^^ (b ^^^ d) := by
  rw [Nat.xor_assoc, Nat.xor_assoc, ← Nat.xor_assoc b c d, Nat.xor_comm b c, Nat.xor_assoc c b d]
theorem sh_xor (a b : Nat) : sh (a ^^^ b) = sh a ^^^ sh b := by
  unfold sh
  rw [xor_half, xor_mod, xor_swap]
  congr 1
  rcases Nat.mod_two_eq_zero_or_one a with ha | ha <;> rcases Nat.mod_two_eq_zero_or_one b with hb | hb <;> rw [ha, hb] <;> rfl
theorem shn_xor (k a b : Nat) : shn k (a ^^^ b) = shn k a ^^^ shn k b := by
  induction k generalizing a b with
  | zero => rfl
  | succ k ih => rw [shn, shn, shn, sh_xor, ih]
theorem sh_zero : sh 0 = 0 := by decide
theorem shn_zero (k : Nat) : shn k 0 = 0 := by
  induction k with
  | zero => rfl
  | succ k ih => rw [shn, sh_zero, ih]
theorem xor_same {a b : Nat} (h : a ^^^ b = 0) : a = b := by
  have e : a ^^^ b ^^^ b = a := by rw [Nat.xor_assoc, Nat.xor_self, Nat.xor_zero]
  rw [← e, h, Nat.zero_xor]
theorem sh_none {c : Nat} (h : c < 4294967296) (hz : sh c = 0) : c = 0 := by
  unfold sh at hz
  by_cases h2 : c % 2 = 1
  · rw [if_pos h2] at hz
    have := xor_same hz
    omega
  · rw [if_neg h2, Nat.xor_zero] at hz
    omega
theorem shn_none (k : Nat) {c : Nat} (h : c < 4294967296) (hz : shn k c = 0) : c = 0 := by
  induction k generalizing c with
  | zero => exact hz
  | succ k ih => exact sh_none h (ih (sh_below h) hz)
theorem shn_add (k j c : Nat) : shn (k + j) c = shn j (shn k c) := by
  induction k generalizing c with
  | zero => rw [Nat.zero_add, shn]
  | succ k ih => rw [Nat.succ_add, shn, shn, ih]
theorem sh_even (c : Nat) : sh (c * 2) = c := by
  unfold sh
  rw [if_neg (by omega), Nat.xor_zero]
  omega
theorem shn_even (k c : Nat) : shn k (c * 2 ^ k) = c := by
  induction k with
  | zero => rw [shn, Nat.pow_zero, Nat.mul_one]
  | succ k ih => rw [shn, Nat.pow_succ, ← Nat.mul_assoc, sh_even, ih]
theorem crcByte_xor (c d a b : Nat) : crcByte (c ^^^ d) (a ^^^ b) = crcByte c a ^^^ crcByte d b := by
  unfold crcByte
  rw [xor_swap, shn_xor]
/-- Three lists of one length, held against each other. -/
def xor3 (l m n : List Nat) : List Nat := List.zipWith (fun a p => a ^^^ p) (List.zipWith (fun a b => a ^^^ b) l m) n
theorem reg_three (c d e : Nat) (l m n : List Nat) (hm : m.length = l.length) (hn : n.length = l.length) :
    reg (c ^^^ d ^^^ e) (xor3 l m n) = reg c l ^^^ reg d m ^^^ reg e n := by
  induction l generalizing c d e m n with
  | nil =>
    match m, n, hm, hn with
    | [], [], _, _ => simp [xor3, reg_nil]
  | cons a l ih =>
    match m, n, hm, hn with
    | b :: m, f :: n, hm, hn =>
      have h := ih (crcByte c a) (crcByte d b) (crcByte e f) m n (by simpa using hm) (by simpa using hn)
      rw [reg_cons, reg_cons, reg_cons, ← h, ← crcByte_xor, ← crcByte_xor]
      show reg _ ((a ^^^ b ^^^ f) :: xor3 l m n) = _
      rw [reg_cons]
theorem flip_xor {a : Nat} (h : a < 4294967296) : 4294967295 - a = a ^^^ 4294967295 := by
  have h1 := Nat.xor_comm a 4294967295
  have : a ^^^ (2 ^ 32 - 1) = 2 ^ 32 - 1 - a := by
    apply Nat.eq_of_testBit_eq
    intro i
    rw [Nat.testBit_xor, Nat.testBit_two_pow_sub_one, show 2 ^ 32 - 1 - a = 2 ^ 32 - (a + 1) from by omega, Nat.testBit_two_pow_sub_succ (by omega)]
    by_cases hi : i < 32
    · simp [hi]
    · have : a.testBit i = false := Nat.testBit_lt_two_pow (Nat.lt_of_lt_of_le (show a < 2 ^ 32 by omega) (Nat.pow_le_pow_right (by decide) (by omega)))
      simp [hi, this]
  exact this.symm
theorem crc_three {s : Nat} (hs : s < 4294967296) {l m n : List Nat} (hm : m.length = l.length) (hn : n.length = l.length) (kl : ∀ b ∈ l, b < 256) (km : ∀ b ∈ m, b < 256) (kn : ∀ b ∈ n, b < 256) (kx : ∀ b ∈ xor3 l m n, b < 256) :
    crc s (xor3 l m n) = crc s l ^^^ crc s m ^^^ crc s n := by
  unfold crc
  have hc : 4294967295 - s < 4294967296 := by omega
  rw [flip_xor (reg_below hc kx), flip_xor (reg_below hc kl), flip_xor (reg_below hc km), flip_xor (reg_below hc kn)]
  have h := reg_three (4294967295 - s) (4294967295 - s) (4294967295 - s) l m n hm hn
  rw [Nat.xor_self, Nat.zero_xor] at h
  rw [h]
  generalize reg (4294967295 - s) l = x
  generalize reg (4294967295 - s) m = y
  generalize reg (4294967295 - s) n = z
  rw [xor_swap x 4294967295 y 4294967295, Nat.xor_self, Nat.xor_zero, Nat.xor_assoc (x ^^^ y) z]

/-! ### Up to four bytes next to each other -/
theorem reg_two (c d : Nat) (l m : List Nat) (hm : m.length = l.length) :
    reg (c ^^^ d) (List.zipWith (fun a b => a ^^^ b) l m) = reg c l ^^^ reg d m := by
  induction l generalizing c d m with
  | nil =>
    match m, hm with
    | [], _ => simp [reg_nil]
  | cons a l ih =>
    match m, hm with
    | b :: m, hm =>
      have h := ih (crcByte c a) (crcByte d b) m (by simpa using hm)
      rw [reg_cons, reg_cons, ← h, ← crcByte_xor, List.zipWith_cons_cons, reg_cons]
def val : List Nat → Nat
  | [] => 0
  | b :: l => b ^^^ val l * 256
theorem reg_val (c : Nat) (l : List Nat) : reg c l = shn (8 * l.length) (c ^^^ val l) := by
  induction l generalizing c with
  | nil => rw [reg_nil, List.length_nil, Nat.mul_zero, shn, val, Nat.xor_zero]
  | cons b l ih =>
    have e := shn_even 8 (val l)
    rw [show (2 : Nat) ^ 8 = 256 from rfl] at e
    rw [reg_cons, ih, crcByte, List.length_cons, Nat.mul_add, Nat.mul_one, Nat.add_comm, shn_add, val, ← Nat.xor_assoc, shn_xor 8 (c ^^^ b), e]
theorem val_zeros {l : List Nat} (h : ∀ b ∈ l, b = 0) : val l = 0 := by
  induction l with
  | nil => rfl
  | cons b l ih => rw [val, h b (by simp), ih (fun d hd => h d (by simp [hd])), Nat.zero_mul, Nat.xor_zero]
theorem val_none {l : List Nat} (hl : ∀ b ∈ l, b < 256) (h : val l = 0) : ∀ b ∈ l, b = 0 := by
  induction l with
  | nil => intro b hb; simp at hb
  | cons b l ih =>
    rw [val] at h
    have h1 := xor_same h
    have h2 := hl b (by simp)
    intro d hd
    rcases List.mem_cons.mp hd with rfl | hd
    · omega
    · exact ih (fun d hd => hl d (by simp [hd])) (by omega) d hd
theorem xor_small {a b : Nat} (k : Nat) (ha : a < 2 ^ k) (hb : b < 2 ^ k) : a ^^^ b < 2 ^ k := Nat.xor_lt_two_pow ha hb
theorem val_below {l : List Nat} (hl : ∀ b ∈ l, b < 256) : val l < 2 ^ (8 * l.length) := by
  induction l with
  | nil => exact Nat.one_pos
  | cons b l ih =>
    have h1 := ih (fun d hd => hl d (by simp [hd]))
    have h2 := hl b (by simp)
    rw [val, List.length_cons, Nat.mul_add, Nat.mul_one, Nat.pow_add]
    have h3 : (2 : Nat) ^ 8 = 256 := rfl
    rw [h3]
    have h4 : 0 < 2 ^ (8 * l.length) := Nat.two_pow_pos _
    have h5 := xor_small (8 * l.length + 8) (a := b) (b := val l * 256) (by rw [Nat.pow_add, h3]; omega) (by rw [Nat.pow_add, h3]; omega)
    rwa [Nat.pow_add, h3] at h5
theorem val_four {l : List Nat} (hl : ∀ b ∈ l, b < 256) (h4 : l.length ≤ 4) : val l < 4294967296 := by
  have h1 := val_below hl
  have h2 : 2 ^ (8 * l.length) ≤ 2 ^ 32 := Nat.pow_le_pow_right (by decide) (by omega)
  omega
/-- A list of what is turned: noughts but for up to four bytes next to each other. -/
theorem reg_window {P T Q : List Nat} (hP : ∀ b ∈ P, b = 0) (hQ : ∀ b ∈ Q, b = 0) (hT : ∀ b ∈ T, b < 256) (h4 : T.length ≤ 4) (h : reg 0 (P ++ T ++ Q) = 0) : ∀ b ∈ T, b = 0 := by
  rw [reg_append, reg_append, reg_val 0 P, val_zeros hP, Nat.xor_zero, shn_zero, reg_val 0 T, Nat.zero_xor, reg_val _ Q, val_zeros hQ, Nat.xor_zero] at h
  exact val_none hT (shn_none _ (val_four hT h4) (shn_none _ (shn_below _ (val_four hT h4)) h))
theorem reg_zeros {l : List Nat} (h : ∀ b ∈ l, b = 0) : reg 0 l = 0 := by
  rw [reg_val, val_zeros h, Nat.xor_zero, shn_zero]
/-- Bytes of which those in places are turned by bits. -/
def turned (zs : List Nat) (d : Nat → Nat) : List Nat := List.zipWith (fun a b => a ^^^ b) zs ((List.range zs.length).map d)
theorem turned_length (zs : List Nat) (d : Nat → Nat) : (turned zs d).length = zs.length := by simp [turned]
theorem turned_get (zs : List Nat) (d : Nat → Nat) (j : Nat) (hj : j < zs.length) : (turned zs d).getD j 0 = zs.getD j 0 ^^^ d j := by
  simp [turned, List.getD, hj]
theorem turned_none (zs : List Nat) : turned zs (fun _ => 0) = zs := by
  apply List.ext_getElem
  · exact turned_length zs _
  · intro j h1 h2
    simp [turned]
theorem byte_xor {a b : Nat} (ha : a < 256) (hb : b < 256) : a ^^^ b < 256 := xor_small 8 ha hb
theorem turned_below {zs : List Nat} {d : Nat → Nat} (hz : ∀ b ∈ zs, b < 256) (hd : ∀ j, d j < 256) : ∀ b ∈ turned zs d, b < 256 := by
  intro b hb
  obtain ⟨j, hj, rfl⟩ := List.getElem_of_mem hb
  have hj' : j < zs.length := by rw [turned_length] at hj; exact hj
  simp only [turned, List.getElem_zipWith, List.getElem_map, List.getElem_range]
  exact byte_xor (hz _ (List.getElem_mem _)) (hd j)
theorem crc_burst {s : Nat} (hs : s < 4294967296) {zs : List Nat} (hz : ∀ b ∈ zs, b < 256) (at_ : Nat) (d : Nat → Nat) (hd : ∀ j, d j < 256) (hout : ∀ j, ¬ (at_ ≤ j ∧ j < at_ + 4) → d j = 0)
    (h : crc s (turned zs d) = crc s zs) : ∀ j, j < zs.length → d j = 0 := by
  have hc : 4294967295 - s < 4294967296 := by omega
  have b1 := reg_below hc hz
  have b2 := reg_below hc (turned_below hz hd)
  unfold crc at h
  have e : reg (4294967295 - s) (turned zs d) = reg (4294967295 - s) zs := by omega
  have e2 := reg_two (4294967295 - s) 0 zs ((List.range zs.length).map d) (by simp)
  rw [Nat.xor_zero] at e2
  have e3 : reg (4294967295 - s) (turned zs d) = _ := e2
  rw [e] at e3
  have e4 : reg 0 ((List.range zs.length).map d) = 0 := by
    have : reg (4294967295 - s) zs ^^^ (reg (4294967295 - s) zs ^^^ reg 0 ((List.range zs.length).map d)) = 0 := by rw [← e3, Nat.xor_self]
    rwa [← Nat.xor_assoc, Nat.xor_self, Nat.zero_xor] at this
  have hsplit : (List.range zs.length).map d = ((List.range zs.length).map d).take at_ ++ (((List.range zs.length).map d).drop at_).take 4 ++ (((List.range zs.length).map d).drop at_).drop 4 := by
    rw [List.append_assoc, List.take_append_drop, List.take_append_drop]
  rw [hsplit] at e4
  have hw := reg_window (P := ((List.range zs.length).map d).take at_) (T := (((List.range zs.length).map d).drop at_).take 4) (Q := (((List.range zs.length).map d).drop at_).drop 4)
    (fun b hb => by
      obtain ⟨j, hj, rfl⟩ := List.getElem_of_mem hb
      simp only [List.getElem_take, List.getElem_map, List.getElem_range]
      simp at hj
      exact hout _ (by omega))
    (fun b hb => by
      obtain ⟨j, hj, rfl⟩ := List.getElem_of_mem hb
      simp only [List.getElem_drop, List.getElem_map, List.getElem_range]
      exact hout _ (by omega))
    (fun b hb => by
      obtain ⟨j, hj, rfl⟩ := List.getElem_of_mem hb
      simp only [List.getElem_take, List.getElem_drop, List.getElem_map, List.getElem_range]
      exact hd _)
    (by simp; omega) e4
  intro j hj
  by_cases hin : at_ ≤ j ∧ j < at_ + 4
  · refine hw (d j) ?_
    rw [List.mem_iff_getElem]
    refine ⟨j - at_, by simp; omega, ?_⟩
    simp only [List.getElem_take, List.getElem_drop, List.getElem_map, List.getElem_range]
    congr 1
    omega
  · exact hout j hin

/-! ### Adler -/
theorem adlerReg_cons (p : Nat × Nat) (b : Nat) (l : List Nat) : adlerReg p (b :: l) = adlerReg (adlerByte p b) l := by
  unfold adlerReg
  rw [List.foldl_cons]
theorem adlerReg_nil (p : Nat × Nat) : adlerReg p [] = p := by
  unfold adlerReg
  rw [List.foldl_nil]
theorem adlerReg_append (p : Nat × Nat) (l m : List Nat) : adlerReg p (l ++ m) = adlerReg (adlerReg p l) m := by
  unfold adlerReg
  rw [List.foldl_append]
def small (p : Nat × Nat) : Prop := p.1 < 65521 ∧ p.2 < 65521
theorem adlerByte_small (p : Nat × Nat) (b : Nat) : small (adlerByte p b) := ⟨Nat.mod_lt _ (by decide), Nat.mod_lt _ (by decide)⟩
theorem adlerReg_small {p : Nat × Nat} (h : small p) (l : List Nat) : small (adlerReg p l) := by
  induction l generalizing p with
  | nil => rw [adlerReg_nil]; exact h
  | cons b l ih => rw [adlerReg_cons]; exact ih (adlerByte_small p b)
theorem halves_small (s : Nat) : small (halves s) := ⟨Nat.mod_lt _ (by decide), Nat.mod_lt _ (by decide)⟩
theorem joined_below {p : Nat × Nat} (h : small p) : joined p < 4294967296 := by
  have h1 := h.1
  have h2 := h.2
  unfold joined
  omega
theorem halves_joined {p : Nat × Nat} (h : small p) : halves (joined p) = p := by
  have h1 := h.1
  have h2 := h.2
  obtain ⟨x, y⟩ := p
  unfold halves joined
  simp only at h1 h2 ⊢
  refine Prod.ext ?_ ?_
  · show (y * 65536 + x) % 65536 % 65521 = x
    omega
  · show (y * 65536 + x) / 65536 % 65521 = y
    omega
theorem adler_below (s : Nat) (l : List Nat) : adler s l < 4294967296 := joined_below (adlerReg_small (halves_small s) l)
theorem adler_append (s : Nat) (l m : List Nat) : adler (adler s l) m = adler s (l ++ m) := by
  unfold adler
  rw [halves_joined (adlerReg_small (halves_small s) l), adlerReg_append]
theorem crc_below (s : Nat) (l : List Nat) : crc s l < 4294967296 := by
  unfold crc
  omega
theorem crc_append {s : Nat} {l : List Nat} (m : List Nat) (hl : ∀ b ∈ l, b < 256) : crc (crc s l) m = crc s (l ++ m) := by
  have h := reg_below (c := 4294967295 - s) (l := l) (by omega) hl
  unfold crc
  rw [show 4294967295 - (4294967295 - reg (4294967295 - s) l) = reg (4294967295 - s) l from by omega, reg_append]
theorem crc_nil {s : Nat} (hs : s < 4294967296) : crc s [] = s := by
  unfold crc
  rw [reg_nil]
  omega
theorem adler_nil (s : Nat) (hs : s < 4294967296) : adler s [] = s ↔ s / 65536 < 65521 ∧ s % 65536 < 65521 := by
  unfold adler
  rw [adlerReg_nil]
  unfold joined halves
  simp only
  omega
theorem adlerReg_first {p : Nat × Nat} (h : small p) (l : List Nat) : (adlerReg p l).1 = (p.1 + l.sum) % 65521 := by
  induction l generalizing p with
  | nil =>
    have := h.1
    rw [adlerReg_nil, List.sum_nil]
    omega
  | cons b l ih =>
    rw [adlerReg_cons, ih (adlerByte_small p b), List.sum_cons]
    unfold adlerByte
    simp only
    omega
theorem sum_one (zs : List Nat) (k : Nat) (hk : k < zs.length) (d : Nat → Nat) (hd : ∀ j, j ≠ k → d j = 0) : (turned zs d).sum + zs.getD k 0 = zs.sum + (zs.getD k 0 ^^^ d k) := by
  have e : turned zs d = zs.set k (zs.getD k 0 ^^^ d k) := by
    apply List.ext_getElem
    · rw [turned_length, List.length_set]
    · intro j h1 h2
      have h3 : j < zs.length := by rw [turned_length] at h1; exact h1
      rw [List.getElem_set]
      have e1 : (turned zs d)[j] = zs.getD j 0 ^^^ d j := by
        have := turned_get zs d j h3
        simp only [List.getD, List.getElem?_eq_getElem h1, Option.getD_some] at this
        rw [this]
        rfl
      rw [e1]
      by_cases hj : k = j
      · subst hj
        rw [if_pos rfl]
      · rw [if_neg hj, hd j (fun h => hj h.symm), Nat.xor_zero]
        simp [List.getD, h3]
  rw [e]
  clear e hd
  generalize zs.getD k 0 ^^^ d k = v
  clear d
  induction zs generalizing k with
  | nil => simp at hk
  | cons a l ih =>
    cases k with
    | zero =>
      rw [List.set_cons_zero, List.sum_cons, List.sum_cons]
      show v + l.sum + a = a + l.sum + v
      omega
    | succ k =>
      have := ih k (by simpa using hk)
      rw [List.set_cons_succ, List.sum_cons, List.sum_cons]
      show a + (l.set k v).sum + l.getD k 0 = a + l.sum + v
      omega
theorem adler_one {s : Nat} {zs : List Nat} (hz : ∀ b ∈ zs, b < 256) (k : Nat) (hk : k < zs.length) (d : Nat → Nat) (hd : ∀ j, j ≠ k → d j = 0) (h0 : d k ≠ 0) (h8 : d k < 256) :
    adler s (turned zs d) ≠ adler s zs := by
  intro h
  have h1 := adlerReg_small (halves_small s) (turned zs d)
  have h2 := adlerReg_small (halves_small s) zs
  have e1 := adlerReg_first (halves_small s) (turned zs d)
  have e2 := adlerReg_first (halves_small s) zs
  have hs := sum_one zs k hk d hd
  have hb : zs.getD k 0 < 256 := by
    have : zs.getD k 0 = zs[k] := by simp [List.getD, hk]
    rw [this]
    exact hz _ (List.getElem_mem _)
  have hx := byte_xor hb h8
  have hne : zs.getD k 0 ^^^ d k ≠ zs.getD k 0 := by
    intro e
    have : zs.getD k 0 ^^^ (zs.getD k 0 ^^^ d k) = 0 := by rw [e, Nat.xor_self]
    rw [← Nat.xor_assoc, Nat.xor_self, Nat.zero_xor] at this
    exact h0 this
  unfold adler joined at h
  have g1 := h1.1
  have g2 := h2.1
  have : (adlerReg (halves s) (turned zs d)).1 = (adlerReg (halves s) zs).1 := by omega
  rw [e1, e2] at this
  omega

/-- One place more is turned. -/
theorem turned_set (zs : List Nat) (d d' : Nat → Nat) (p : Nat) (h : ∀ j, j ≠ p → d' j = d j) : turned zs d' = (turned zs d).set p (zs.getD p 0 ^^^ d' p) := by
  apply List.ext_getElem
  · rw [List.length_set, turned_length, turned_length]
  · intro j h1 h2
    rw [turned_length] at h1
    have e1 := turned_get zs d' j h1
    have e2 := turned_get zs d j h1
    have h3 : j < (turned zs d').length := by rw [turned_length]; exact h1
    have h4 : j < (turned zs d).length := by rw [turned_length]; exact h1
    rw [List.getD_eq_getElem?_getD, List.getElem?_eq_getElem h3, Option.getD_some] at e1
    rw [List.getD_eq_getElem?_getD, List.getElem?_eq_getElem h4, Option.getD_some] at e2
    rw [List.getElem_set, e1]
    by_cases hj : p = j
    · rw [if_pos hj, hj]
    · rw [if_neg hj, e2, h j (fun e => hj e.symm)]
theorem turned_one (zs : List Nat) (p T : Nat) : turned zs (fun j => if j = p then T else 0) = zs.set p (zs.getD p 0 ^^^ T) := by
  have h := turned_set zs (fun _ => 0) (fun j => if j = p then T else 0) p (fun j hj => if_neg hj)
  rw [turned_none, if_pos rfl] at h
  exact h

/-! ### By a table -/
/-- A byte's eight steps by a table of what eight steps make of each byte. -/
theorem crc_table (c b : Nat) (hb : b < 256) : crcByte c b = shn 8 ((c % 256) ^^^ b) ^^^ c / 256 := by
  have e : c ^^^ b = ((c % 256) ^^^ b) ^^^ (c / 256) * 2 ^ 8 := by
    apply Nat.eq_of_testBit_eq
    intro i
    rw [Nat.testBit_xor, Nat.testBit_xor, Nat.testBit_xor, Nat.testBit_mul_two_pow, show (256 : Nat) = 2 ^ 8 from rfl, Nat.testBit_mod_two_pow, Nat.testBit_div_two_pow]
    by_cases hi : i < 8
    · have h8 : ¬ 8 ≤ i := by omega
      simp [hi, h8]
    · have h8 : 8 ≤ i := by omega
      have hz : b.testBit i = false := Nat.testBit_lt_two_pow (Nat.lt_of_lt_of_le (show b < 2 ^ 8 from hb) (Nat.pow_le_pow_right (by decide) h8))
      rw [hz, show i - 8 + 8 = i by omega]
      simp [hi, h8]
  unfold crcByte
  rw [e, shn_xor, shn_even]

/-! ### Examples -/
theorem crc_example : crc 0 [49, 50, 51, 52, 53, 54, 55, 56, 57] = 3421780262 := by decide +kernel
theorem adler_example : adler 1 [87, 105, 107, 105, 112, 101, 100, 105, 97] = 300286872 := by decide +kernel
theorem empty_example : crc 0 [] = 0 ∧ adler 1 [] = 1 := by decide +kernel
end Go.Proofs.Ytmbbgppmidogbaa.Fx
