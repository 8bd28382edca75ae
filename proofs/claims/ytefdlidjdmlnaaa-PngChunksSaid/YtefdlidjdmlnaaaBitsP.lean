/-
  Plain bits: numbers as bits, bits as numbers and as bytes. No condition but those that are said.
-/
namespace Go.Proofs.Ytefdlidjdmlnaaa.Fx
/-- The first k bits of a number, the lowest first; the number of bits. -/
def bitsOf : Nat → Nat → List Bool
  | _, 0 => []
  | n, k + 1 => (n % 2 == 1) :: bitsOf (n / 2) k
def numOf : List Bool → Nat
  | [] => 0
  | b :: l => (if b then 1 else 0) + 2 * numOf l
theorem bitsOf_length (n k : Nat) : (bitsOf n k).length = k := by
  induction k generalizing n with
  | zero => rfl
  | succ k ih => rw [bitsOf, List.length_cons, ih]
theorem bitsOf_next (n k : Nat) : bitsOf n (k + 1) = bitsOf n k ++ [n / 2 ^ k % 2 == 1] := by
  induction k generalizing n with
  | zero =>
    rw [bitsOf, bitsOf, bitsOf, Nat.pow_zero, Nat.div_one]
    rfl
  | succ k ih =>
    rw [bitsOf, ih (n / 2), bitsOf, Nat.div_div_eq_div_mul, Nat.pow_succ, Nat.mul_comm 2]
    rfl
theorem bitsOf_add (n j k : Nat) : bitsOf n (j + k) = bitsOf n j ++ bitsOf (n / 2 ^ j) k := by
  induction j generalizing n with
  | zero =>
    rw [Nat.zero_add, bitsOf, Nat.pow_zero, Nat.div_one]
    rfl
  | succ j ih =>
    rw [Nat.succ_add, bitsOf, ih (n / 2), bitsOf, Nat.div_div_eq_div_mul, Nat.pow_succ, Nat.mul_comm 2]
    rfl
theorem numOf_bitsOf (n k : Nat) : numOf (bitsOf n k) = n % 2 ^ k := by
  induction k generalizing n with
  | zero => rw [bitsOf, numOf, Nat.pow_zero, Nat.mod_one]
  | succ k ih =>
    rw [bitsOf, numOf, ih, Nat.pow_succ, Nat.mul_comm (2 ^ k) 2, Nat.mod_mul]
    rcases Nat.mod_two_eq_zero_or_one n with h | h <;> rw [h] <;> simp
theorem numOf_small (n k : Nat) (h : n < 2 ^ k) : numOf (bitsOf n k) = n := by rw [numOf_bitsOf, Nat.mod_eq_of_lt h]
theorem numOf_below (l : List Bool) : numOf l < 2 ^ l.length := by
  induction l with
  | nil => exact Nat.one_pos
  | cons b l ih =>
    rw [numOf, List.length_cons, Nat.pow_succ]
    cases b <;> simp <;> omega
theorem numOf_append (l m : List Bool) : numOf (l ++ m) = numOf l + 2 ^ l.length * numOf m := by
  induction l with
  | nil => rw [List.nil_append, numOf, List.length_nil, Nat.pow_zero, Nat.one_mul, Nat.zero_add]
  | cons b l ih =>
    rw [List.cons_append, numOf, numOf, ih, List.length_cons, Nat.pow_succ, Nat.mul_add, Nat.mul_comm (2 ^ l.length) 2, Nat.mul_assoc]
    omega
theorem bitsOf_numOf (l : List Bool) : bitsOf (numOf l) l.length = l := by
  induction l with
  | nil => rfl
  | cons b l ih =>
    have h1 : ((if b then 1 else 0) + 2 * numOf l) / 2 = numOf l := by cases b <;> simp <;> omega
    have h2 : (((if b then 1 else 0) + 2 * numOf l) % 2 == 1) = b := by
      cases b
      · have : (0 + 2 * numOf l) % 2 = 0 := by omega
        simp
      · have : (1 + 2 * numOf l) % 2 = 1 := by omega
        simp [this]
    rw [numOf, List.length_cons, bitsOf, h1, h2, ih]
/-- The number of k bits from a place on. -/
def numAt (l : List Bool) (f k : Nat) : Nat := numOf ((l.drop f).take k)
theorem numAt_below (l : List Bool) (f k : Nat) : numAt l f k < 2 ^ k := by
  have h := numOf_below ((l.drop f).take k)
  have h2 : ((l.drop f).take k).length ≤ k := by rw [List.length_take]; omega
  have h3 : 2 ^ ((l.drop f).take k).length ≤ 2 ^ k := Nat.pow_le_pow_right (by decide) h2
  unfold numAt
  omega
theorem numAt_zero (l : List Bool) (f : Nat) : numAt l f 0 = 0 := by
  unfold numAt
  rw [List.take_zero, numOf]
theorem numAt_down (l : List Bool) (f k : Nat) (b : Bool) (h : l[f]? = some b) : numAt l f (k + 1) = numAt l (f + 1) k * 2 + if b then 1 else 0 := by
  unfold numAt
  have hf : f < l.length := (List.getElem?_eq_some_iff.mp h).1
  have he : l[f] = b := (List.getElem?_eq_some_iff.mp h).2
  rw [List.drop_eq_getElem_cons hf, List.take_succ_cons, numOf, he]
  omega
/-- Up to whole bytes; bits as bytes. -/
def aligned (l : List Bool) : List Bool := l ++ List.replicate ((8 - l.length % 8) % 8) false
theorem aligned_whole (l : List Bool) : (aligned l).length % 8 = 0 := by
  unfold aligned
  rw [List.length_append, List.length_replicate]
  omega
theorem aligned_length (l : List Bool) : (aligned l).length = (l.length + 7) / 8 * 8 := by
  unfold aligned
  rw [List.length_append, List.length_replicate]
  omega
theorem aligned_done (l : List Bool) (h : l.length % 8 = 0) : aligned l = l := by
  unfold aligned
  rw [h]
  simp
theorem aligned_step (l : List Bool) (h : l.length % 8 ≠ 0) : aligned (l ++ [false]) = aligned l := by
  unfold aligned
  have e : (8 - l.length % 8) % 8 = (8 - (l ++ [false]).length % 8) % 8 + 1 := by
    rw [List.length_append, List.length_singleton]
    omega
  rw [e, List.replicate_succ, List.append_assoc]
  rfl
/-- The bytes from number i up to number j. -/
def bytesAt (l : List Bool) (i : Nat) : Nat → List Nat
  | 0 => []
  | m + 1 => numAt l (8 * i) 8 :: bytesAt l (i + 1) m
theorem bytesAt_length (l : List Bool) (i m : Nat) : (bytesAt l i m).length = m := by
  induction m generalizing i with
  | zero => rfl
  | succ m ih => rw [bytesAt, List.length_cons, ih]
theorem bytesAt_next (l : List Bool) (i m : Nat) : bytesAt l i (m + 1) = bytesAt l i m ++ [numAt l (8 * (i + m)) 8] := by
  induction m generalizing i with
  | zero => rfl
  | succ m ih =>
    rw [bytesAt, ih (i + 1), bytesAt, Nat.add_right_comm, Nat.add_assoc]
    rfl
theorem bytesAt_add (l : List Bool) (i m k : Nat) : bytesAt l i (m + k) = bytesAt l i m ++ bytesAt l (i + m) k := by
  induction m generalizing i with
  | zero =>
    rw [Nat.zero_add, bytesAt]
    rfl
  | succ m ih =>
    rw [Nat.succ_add, bytesAt, bytesAt, ih (i + 1), Nat.add_right_comm, Nat.add_assoc i m 1]
    rfl
theorem bytesAt_bytes (l : List Bool) (i m : Nat) : ∀ b ∈ bytesAt l i m, b < 256 := by
  induction m generalizing i with
  | zero => intro b hb; cases hb
  | succ m ih =>
    intro b hb
    rw [bytesAt] at hb
    rcases List.mem_cons.mp hb with rfl | hb
    · exact numAt_below l (8 * i) 8
    · exact ih _ b hb
/-- The bits of bytes. -/
def bitsOfBytes (zs : List Nat) : List Bool := zs.flatMap fun b => bitsOf b 8
theorem bitsOfBytes_length (zs : List Nat) : (bitsOfBytes zs).length = 8 * zs.length := by
  unfold bitsOfBytes
  induction zs with
  | nil => rfl
  | cons b zs ih =>
    rw [List.flatMap_cons, List.length_append, bitsOf_length, ih, List.length_cons]
    omega
theorem bitsOfBytes_snoc (zs : List Nat) (b : Nat) : bitsOfBytes (zs ++ [b]) = bitsOfBytes zs ++ bitsOf b 8 := by
  unfold bitsOfBytes
  rw [List.flatMap_append]
  simp
/-- What was put comes back: the bytes of whole bytes' bits have those bits. -/
theorem bits_bytes (l : List Bool) (i m : Nat) (h : 8 * (i + m) ≤ l.length) : bitsOfBytes (bytesAt l i m) = (l.drop (8 * i)).take (8 * m) := by
  induction m generalizing i with
  | zero =>
    rw [bytesAt, Nat.mul_zero, List.take_zero]
    rfl
  | succ m ih =>
    have h8 : ((l.drop (8 * i)).take 8).length = 8 := by
      rw [List.length_take, List.length_drop]
      omega
    have e : bitsOf (numAt l (8 * i) 8) 8 = (l.drop (8 * i)).take 8 := by
      have := bitsOf_numOf ((l.drop (8 * i)).take 8)
      rw [h8] at this
      exact this
    have hc : bitsOfBytes (bytesAt l i (m + 1)) = bitsOf (numAt l (8 * i) 8) 8 ++ bitsOfBytes (bytesAt l (i + 1) m) := by
      rw [bytesAt]
      unfold bitsOfBytes
      rw [List.flatMap_cons]
    rw [hc, e, ih (i + 1) (by omega), show 8 * (m + 1) = 8 + 8 * m by omega, List.take_add, List.drop_drop]
    congr 3
end Go.Proofs.Ytefdlidjdmlnaaa.Fx
