/-
  A stored block, as landed: how many bits it has, and how it is put. The conditions stand in each.
-/
import Derived.Test.YtbhmjppnhlmefaaDoorWinK
namespace Go.Proofs.YtbhmjppnhlmefaaDoor.Fx
open Go Go.RowKit Go.Joins Go.Maps
set_option linter.unusedVariables false
/-- How many bits of 0 there are up to a whole byte. -/
def padOf (n : Nat) : Nat := (8 - n % 8) % 8
theorem storedBits_code (g n : Nat) (v : Value) (l : List Bool) (t : Nat) (O : Nat → Prop) (W : World) (hg : W.cell? ⟨g, 0, none⟩ = some v) (h : isW W v l t O) (hl : l.length ≤ 1099511627776) (hn : n ≤ 1099511627776) :
    Calls Tryd.prog 34 #[.pointer (some ⟨g, 0, none⟩), .int .i64 (n : Int)] W fun e w' => e = .returned (.int .i64 ((padOf (l.length + 2) + 32 + 8 * n : Nat) : Int)) ∧ ∃ O', isW w' v l t O' ∧ (∀ b, O' b → O b ∨ W.heap.size ≤ b) ∧ Past O W w' := by
  have KB := bits_code W v l t O h
  have ha := i64_and7 (-((l.length : Int) + 2))
  have e : (-((l.length : Int) + 2)) % 8 = ((padOf (l.length + 2) : Nat) : Int) := by unfold padOf; omega
  rw [e] at ha
  have hp : padOf (l.length + 2) ≤ 7 := by unfold padOf; omega
  obtain ⟨p, ep⟩ : ∃ p, padOf (l.length + 2) = p := ⟨_, rfl⟩
  obtain ⟨L, eL⟩ : ∃ p, l.length = p := ⟨_, rfl⟩
  rw [ep] at ha hp ⊢
  rw [eL] at ha hl KB
  have hvp : ∃ a, v = .pointer a := by
    obtain ⟨g1, g2, s, hh, _⟩ := h
    exact ⟨_, hh.val⟩
  obtain ⟨va, rfl⟩ := hvp
  clear e ep h eL
  go_enter Tryd.func34, Tryd.ntmps34
  go_wp2_with fail
  go_at_call 47
  refine KB.mono ?_
  rintro e w' ⟨O', rfl, k1, k2, k3⟩
  have K := Lib.hid (And.intro k1 (And.intro k2 k3))
  clear k1 k2 k3
  go_wp2_with fail
  go_ret
  exact ⟨by simp; omega, O', K.out⟩
/-- A stored block, behind its first bit. -/
def storedOf (l : List Bool) (b : List Nat) : List Bool := aligned (l ++ bitsOf 0 2) ++ bitsOf b.length 16 ++ bitsOf (65535 - b.length) 16 ++ bitsOfBytes b
theorem bitsOfBytes_take (zs : List Nat) (k x : Nat) (h : zs[k]? = some x) : bitsOfBytes (zs.take (k + 1)) = bitsOfBytes (zs.take k) ++ bitsOf x 8 := by
  rw [List.take_add_one, h]
  exact bitsOfBytes_snoc _ _
/-- What a writer has come to since the world W, where it had the blocks O. -/
def Went (W : World) (O : Nat → Prop) (v : Value) (t : Nat) (l : List Bool) (w : World) : Prop := ∃ O', isW w v l t O' ∧ (∀ b, O' b → O b ∨ W.heap.size ≤ b) ∧ Past O W w
theorem Went.start {W : World} {O : Nat → Prop} {v : Value} {t : Nat} {l : List Bool} (h : isW W v l t O) : Went W O v t l W := ⟨O, h, fun b hb => .inl hb, Past.refl _ _⟩
theorem Went.past {W w : World} {O : Nat → Prop} {v : Value} {t : Nat} {l : List Bool} (h : Went W O v t l w) : Past O W w := by
  obtain ⟨_, _, _, h⟩ := h
  exact h
theorem Went.cell {W w : World} {O : Nat → Prop} {v : Value} {t : Nat} {l : List Bool} (h : Went W O v t l w) {g o : Nat} {x : Value} (hc : W.cell? ⟨g, o, none⟩ = some x) (hg : ¬ O g) : w.cell? ⟨g, o, none⟩ = some x :=
  (World.cell?_of_block (w := W) (a := ⟨g, o, none⟩) (h.past.block g (World.block_lt_of_cell? W _ hc) hg)).trans hc
theorem Went.on {W w w' : World} {O : Nat → Prop} {v : Value} {t : Nat} {l l' : List Bool} {O1 O2 : Nat → Prop} (h1 : ∀ b, O1 b → O b ∨ W.heap.size ≤ b) (h2 : Past O W w) (k1 : isW w' v l' t O2) (k2 : ∀ b, O2 b → O1 b ∨ w.heap.size ≤ b) (k3 : Past O1 w w') : Went W O v t l' w' :=
  ⟨O2, k1, fun b hb => (k2 b hb).elim (fun h => h1 b h) (fun h => .inr (Nat.le_trans h2.size h)), h2.trans k3 h1⟩
theorem Went.put {W w : World} {O : Nat → Prop} {v : Value} {t : Nat} {l : List Bool} (h : Went W O v t l w) (n k : Nat) (hl : l.length ≤ 1099511627776) (hk : k ≤ 32) (hn : n < 2 ^ k) :
    Calls Tryd.prog 16 #[v, .int .u32 (n : Int), .int .i64 (k : Int)] w fun e w' => e = .returned (.int .i64 0) ∧ Went W O v t (l ++ bitsOf n k) w' := by
  obtain ⟨O1, k1, k2, k3⟩ := h
  refine (put_code w v l t O1 n k k1 hl hk hn).mono ?_
  rintro e w' ⟨O2, rfl, j1, j2, j3⟩
  exact ⟨rfl, Went.on (l := l) k2 k3 j1 j2 j3⟩
theorem Went.align {W w : World} {O : Nat → Prop} {v : Value} {t : Nat} {l : List Bool} (h : Went W O v t l w) (hl : l.length ≤ 1099511627776) :
    Calls Tryd.prog 17 #[v] w fun e w' => e = .returned (.int .i64 0) ∧ Went W O v t (aligned l) w' := by
  obtain ⟨O1, k1, k2, k3⟩ := h
  refine (align_code w v l t O1 k1 hl).mono ?_
  rintro e w' ⟨O2, rfl, j1, j2, j3⟩
  exact ⟨rfl, Went.on (l := l) k2 k3 j1 j2 j3⟩
theorem not16 (n : Nat) (hn : n ≤ 65535) : bits .xor .u16 IntKind.u16.max (n : Int) = ((65535 - n : Nat) : Int) := by
  have key : (BitVec.ofInt 16 IntKind.u16.max ^^^ BitVec.ofInt 16 (n : Int)).toNat = 65535 - n := by
    have h1 : BitVec.ofInt 16 IntKind.u16.max = BitVec.allOnes 16 := by decide
    rw [h1, BitVec.allOnes_xor, BitVec.toNat_not, BitVec.toNat_ofInt]
    omega
  show IntKind.u16.wrap ((BitVec.ofInt 16 IntKind.u16.max ^^^ BitVec.ofInt 16 (n : Int)).toNat : Nat) = _
  rw [key]
  simp [IntKind.wrap, IntKind.bits, IntKind.signed]
  omega
theorem isW_ptr {w : World} {v : Value} {l : List Bool} {t : Nat} {O : Nat → Prop} (h : isW w v l t O) : ∃ a, v = .pointer a := by
  obtain ⟨g1, g2, s, hh, _⟩ := h
  exact ⟨_, hh.val⟩
set_option maxHeartbeats 4000000 in
set_option maxRecDepth 100000 in
theorem store_code (g : Nat) (v bv : Value) (l : List Bool) (t : Nat) (O : Nat → Prop) (zs : List Nat) (W : World) (hg : W.cell? ⟨g, 0, none⟩ = some v) (h : isW W v l t O) (hgO : ¬ O g) (hb : bytesIn W bv zs) (h8 : ∀ x ∈ zs, x < 256) (hbO : ∀ b, inBlock bv b → ¬ O b) (hl : l.length ≤ 1099000000000) (hz : zs.length ≤ 65535) :
    Calls Tryd.prog 35 #[.pointer (some ⟨g, 0, none⟩), bv] W fun e w' => e = .returned (.tuple #[]) ∧ Went W O v t (storedOf l zs) w' := by
  obtain ⟨va, rfl⟩ := isW_ptr h
  obtain ⟨bo, bc, rfl⟩ := listed_length hb
  have HG := Lib.hid hg
  have HB := Lib.hid hb
  have H8 := Lib.hid h8
  have HBO := Lib.hid hbO
  have HGO := Lib.hid hgO
  obtain ⟨len, el⟩ : ∃ n, zs.length = n := ⟨_, rfl⟩
  have EL := Lib.hid el
  have hso : storedOf l zs = aligned (l ++ bitsOf 0 2) ++ bitsOf len 16 ++ bitsOf (65535 - len) 16 ++ bitsOfBytes zs := by unfold storedOf; rw [el]
  rw [hso]
  rw [el] at hz HB HBO ⊢
  have KP1 := (Went.start h).put 0 2 (by omega) (by omega) (by decide)
  have hl1 : (aligned (l ++ bitsOf 0 2)).length ≤ 1099000000000 + 16 := by rw [aligned_length, List.length_append, bitsOf_length]; omega
  have hl0 : (l ++ bitsOf 0 2).length ≤ 1099000000000 + 16 := by rw [List.length_append, bitsOf_length]; omega
  generalize l ++ bitsOf 0 2 = l0 at *
  obtain ⟨l1, el1⟩ : ∃ x, aligned l0 = x := ⟨_, rfl⟩
  have EL1 := Lib.hid el1
  rw [el1] at hl1 ⊢
  obtain ⟨q, eq⟩ : ∃ q, 65535 - len = q := ⟨_, rfl⟩
  rw [eq]
  have hnot := not16 len hz
  rw [eq] at hnot
  have hm16 : (len : Int) % 65536 = (len : Int) := by omega
  have hq16 : q ≤ 65535 := by omega
  have hqm : (q : Int) % 4294967296 = (q : Int) := by omega
  clear hb h8 hbO hgO el h el1 hso eq
  go_enter Tryd.func35, Tryd.ntmps35
  go_wp2_with fail
  go_at_call 16
  refine KP1.mono ?_
  rintro e w1 ⟨rfl, H1⟩
  have KA := H1.align (by omega)
  rw [EL1.out] at KA
  have hg1 := H1.cell HG.out HGO.out
  clear H1 KP1 hg
  go_wp2_with fail
  go_at_call 17
  refine KA.mono ?_
  rintro e w2 ⟨rfl, H2⟩
  have KP2 := H2.put len 16 (by omega) (by omega) (by omega)
  have hg2 := H2.cell HG.out HGO.out
  clear H2 KA hg1
  go_wp2_with fail
  go_at_call 16
  refine KP2.mono ?_
  rintro e w3 ⟨rfl, H3⟩
  have KP3 := H3.put q 16 (by rw [List.length_append, bitsOf_length]; omega) (by omega) (by omega)
  have hg3 := H3.cell HG.out HGO.out
  clear H3 KP2 hg2
  go_wp2_with fail
  go_at_call 16
  refine KP3.mono ?_
  rintro e w4 ⟨rfl, H4⟩
  have HS4 : Hid (Went W O (.pointer va) t (l1 ++ bitsOf len 16 ++ bitsOf q 16 ++ bitsOfBytes (zs.take 0)) w4) := by
    show Went _ _ _ _ _ _
    rw [List.take_zero, show bitsOfBytes [] = [] from rfl, List.append_nil]
    exact H4
  have hlb : (l1 ++ bitsOf len 16 ++ bitsOf q 16).length ≤ 1099000000000 + 64 := by
    rw [List.length_append, List.length_append, bitsOf_length, bitsOf_length]
    omega
  obtain ⟨lb, elb⟩ : ∃ x, l1 ++ bitsOf len 16 ++ bitsOf q 16 = x := ⟨_, rfl⟩
  have ELB := Lib.hid elb
  rw [elb] at HS4 hlb
  clear H4 KP3 hg3 elb hnot hqm hm16
  go_wp2_with fail
  go_loopw [36] (fun s36 wr => ∃ k : Nat, k ≤ len ∧ s36 = .int .i64 (k : Int) ∧ Hid (Went W O (.pointer va) t (lb ++ bitsOfBytes (zs.take k)) wr)) (fun s36 _ => len - (intOf s36).toNat)
  case atStart => exact ⟨0, Nat.zero_le _, rfl, HS4⟩
  case round =>
    obtain ⟨k, hk, rfl, hW⟩ := hrel
    have hg5 := hW.out.cell HG.out HGO.out
    by_cases hlt : k < len
    · have d1 : decide ((k : Int) < (len : Int)) = true := decide_eq_true (by omega)
      have d1n : decide (k < len) = true := decide_eq_true hlt
      obtain ⟨x, ex⟩ : ∃ x, zs[k]? = some x := ⟨zs[k]'(by rw [EL.out]; exact hlt), List.getElem?_eq_getElem _⟩
      have hx8 := H8.out x (List.mem_of_getElem? ex)
      obtain ⟨b, off, cap, eb, hblt, hcell⟩ := listed_cell HB.out k x ex
      rw [EL.out] at eb
      simp only [Value.slice.injEq] at eb
      obtain ⟨rfl, _, rfl⟩ := eb
      unfold byteVal at hcell
      have hbO := HBO.out b ⟨off, len, bc, rfl, by omega⟩
      have hc := (World.cell?_of_block (w := W) (a := ⟨b, off + k, none⟩) (hW.out.past.block b hblt hbO)).trans hcell
      have KP := hW.out.put x 8 (by rw [List.length_append, bitsOfBytes_length, List.length_take]; have := EL.out; omega) (by omega) (by omega)
      rw [List.append_assoc, ← bitsOfBytes_take zs k x ex] at KP
      have k1 : (k : Int) < (len : Int) := by omega
      clear ex hcell
      go_wp2_with fail
      go_at_call 16
      refine KP.mono ?_
      rintro e w5 ⟨rfl, H5⟩
      go_wp2_with fail
      go_roundw
      case rel => exact ⟨k + 1, by omega, by go_num, H5⟩
      case measure => simp [intOf]; omega
    · have d1 : decide ((k : Int) < (len : Int)) = false := decide_eq_false (by omega)
      have d1n : decide (k < len) = false := decide_eq_false hlt
      go_wp2_with fail
      refine bodyPost_end (v := .tuple #[]) (by simp [results, Tryd.results35, go_sem]) rfl ⟨rfl, ?_⟩
      rw [ELB.out]
      have := hW.out
      rwa [List.take_of_length_le (by rw [EL.out]; omega)] at this
end Go.Proofs.YtbhmjppnhlmefaaDoor.Fx
