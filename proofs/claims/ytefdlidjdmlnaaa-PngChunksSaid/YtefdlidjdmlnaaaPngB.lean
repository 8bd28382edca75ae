/-
  png's bytes: chunks and the head, as landed; the document's own. The conditions stand in each.
-/
import Derived.Lib.AppendStr
import Derived.Test.YtefdlidjdmlnaaaZlC
import Derived.Test.YtefdlidjdmlnaaaPngC
namespace Go.Proofs.Ytefdlidjdmlnaaa.Fx
open Go Go.RowKit Go.Joins
set_option linter.unusedVariables false
theorem row_own {w : World} {vals : Array Value} {zs : List Nat} {n : Nat} (hv : vals.toList = zs.map byteVal) (hn : zs.length = n) (hl : zs.length ≤ 1000) : (w.alloc (.cells vals 5)).ownsRow w.heap.size 5 1 (.slice (some ⟨w.heap.size, 0, none⟩) n n) n (zs.map byteVal) := by
  subst hn
  have hs : vals.size = zs.length := by rw [← Array.length_toList, hv, List.length_map]
  refine ⟨by rw [List.length_map, Nat.mul_one], .inr ⟨w.heap.size, zs.length, vals, rfl, Nat.le_refl _, heap_alloc_new w _, Nat.le_refl _, by unfold maxLen; omega, by rw [hs, Nat.mul_one], ?_⟩⟩
  rw [Nat.mul_one, hv, ← List.length_map (f := byteVal), List.take_length]
def kindHead : List Nat := [73, 72, 68, 82]
def kindData : List Nat := [73, 68, 65, 84]
def kindEnd : List Nat := [73, 69, 78, 68]
def signOf : List Nat := [137, 80, 78, 71, 13, 10, 26, 10]
def chunkOf (kind b : List Nat) : List Nat := fourOf b.length ++ (kind ++ b) ++ fourOf (Ad.Cr.crc 0 (kind ++ b))
def saysOf (w h : Nat) : List Nat := fourOf w ++ fourOf h ++ [8, 6, 0, 0, 1]
def pngHeadOf (w h : Nat) : List Nat := signOf ++ chunkOf kindHead (saysOf w h)
theorem chunk_length (kind b : List Nat) (hk : kind.length = 4) : (chunkOf kind b).length = b.length + 12 := by
  unfold chunkOf
  simp only [List.length_append, fourOf_length, hk]
  omega
theorem says_length (w h : Nat) : (saysOf w h).length = 13 := by
  unfold saysOf
  simp [fourOf_length]
theorem head_length (w h : Nat) : (pngHeadOf w h).length = 33 := by
  unfold pngHeadOf
  rw [List.length_append, chunk_length _ _ (by decide), says_length]
  decide
theorem chunk_bytes (kind b : List Nat) (hk : ∀ x ∈ kind, x < 256) (hb : ∀ x ∈ b, x < 256) : ∀ x ∈ chunkOf kind b, x < 256 := by
  intro x hx
  unfold chunkOf at hx
  simp only [List.mem_append] at hx
  rcases hx with (h | h | h) | h
  · exact fourOf_bytes _ x h
  · exact hk x h
  · exact hb x h
  · exact fourOf_bytes _ x h
theorem says_bytes (w h : Nat) : ∀ x ∈ saysOf w h, x < 256 := by
  intro x hx
  unfold saysOf at hx
  simp only [List.mem_append] at hx
  rcases hx with (h | h) | h
  · exact fourOf_bytes _ x h
  · exact fourOf_bytes _ x h
  · exact (by decide : ∀ x ∈ ([8, 6, 0, 0, 1] : List Nat), x < 256) x h
theorem head_bytes (w h : Nat) : ∀ x ∈ pngHeadOf w h, x < 256 := by
  intro x hx
  unfold pngHeadOf at hx
  rcases List.mem_append.1 hx with h | h
  · exact (by decide : ∀ x ∈ signOf, x < 256) x h
  · exact chunk_bytes _ _ (by decide) (says_bytes _ _) x h
set_option maxHeartbeats 1000000 in
set_option maxRecDepth 100000 in
theorem fourBytes_code (s : Nat) (W : World) (hs : s ≤ 4294967295) :
    Calls Try.prog 34 #[.int .i64 (s : Int)] W fun e w' => ∃ o c, e = .returned (.slice o 4 c) ∧ Hid (bytesIn w' (.slice o 4 c) (fourOf s)) ∧ Hid (∀ b, inBlock (.slice o 4 c) b → W.heap.size ≤ b) ∧ Hid (Below W.heap.size W w') := by
  obtain ⟨a, ea⟩ : ∃ a, s / 16777216 = a := ⟨_, rfl⟩
  obtain ⟨b, eb⟩ : ∃ a, s / 65536 = a := ⟨_, rfl⟩
  obtain ⟨c, ec⟩ : ∃ a, s / 256 = a := ⟨_, rfl⟩
  have h1 : (s : Int) / 16777216 = (a : Int) := by omega
  have h2 : (s : Int) / 65536 = (b : Int) := by omega
  have h3 : (s : Int) / 256 = (c : Int) := by omega
  have w1 : IntKind.u8.wrap (a : Int) = ((a % 256 : Nat) : Int) := by rw [IntKind.wrap_u8']; omega
  have w2 : IntKind.u8.wrap (b : Int) = ((b % 256 : Nat) : Int) := by rw [IntKind.wrap_u8']; omega
  have w3 : IntKind.u8.wrap (c : Int) = ((c % 256 : Nat) : Int) := by rw [IntKind.wrap_u8']; omega
  have w4 : IntKind.u8.wrap (s : Int) = ((s % 256 : Nat) : Int) := by rw [IntKind.wrap_u8']; omega
  have HF : Hid (fourOf s = [a % 256, b % 256, c % 256, s % 256]) := by
    show _ = _
    unfold fourOf
    rw [ea, eb, ec]
  clear ea eb ec
  generalize a % 256 = A at *
  generalize b % 256 = B at *
  generalize c % 256 = C at *
  generalize s % 256 = D at *
  go_enter Try.func34, Try.ntmps34
  go_wp2_with fail
  go_ret
  rw [HF.out]
  obtain ⟨h1, h2, h3⟩ := row_fresh (w := W) (vals := #[.int .u8 (A : Int), .int .u8 (B : Int), .int .u8 (C : Int), .int .u8 (D : Int)]) (zs := [A, B, C, D]) (n := 4) rfl rfl
  exact ⟨_, _, rfl, h1, h2, h3⟩
set_option maxHeartbeats 1000000 in
set_option maxRecDepth 100000 in
theorem rfour9_any (s : Nat) (W : World) (hs : s ≤ 4294967295) :
    Calls Try.prog 40 #[.int .i64 (s : Int)] W fun e w' => ∃ o c, e = .returned (.slice o 4 c) ∧ Hid (w'.ownsRow W.heap.size 5 1 (.slice o 4 c) 4 ((fourOf s).map byteVal)) ∧ Hid (Below W.heap.size W w') := by
  obtain ⟨a, ea⟩ : ∃ a, s / 16777216 = a := ⟨_, rfl⟩
  obtain ⟨b, eb⟩ : ∃ a, s / 65536 = a := ⟨_, rfl⟩
  obtain ⟨c, ec⟩ : ∃ a, s / 256 = a := ⟨_, rfl⟩
  have h1 : (s : Int) / 16777216 = (a : Int) := by omega
  have h2 : (s : Int) / 65536 = (b : Int) := by omega
  have h3 : (s : Int) / 256 = (c : Int) := by omega
  have t1 : (s : Int).tdiv 16777216 = (a : Int) := by rw [Int.tdiv_eq_ediv_of_nonneg (by omega)]; omega
  have t2 : (s : Int).tdiv 65536 = (b : Int) := by rw [Int.tdiv_eq_ediv_of_nonneg (by omega)]; omega
  have t3 : (s : Int).tdiv 256 = (c : Int) := by rw [Int.tdiv_eq_ediv_of_nonneg (by omega)]; omega
  have w1 : IntKind.u8.wrap (a : Int) = ((a % 256 : Nat) : Int) := by rw [IntKind.wrap_u8']; omega
  have w2 : IntKind.u8.wrap (b : Int) = ((b % 256 : Nat) : Int) := by rw [IntKind.wrap_u8']; omega
  have w3 : IntKind.u8.wrap (c : Int) = ((c % 256 : Nat) : Int) := by rw [IntKind.wrap_u8']; omega
  have w4 : IntKind.u8.wrap (s : Int) = ((s % 256 : Nat) : Int) := by rw [IntKind.wrap_u8']; omega
  have HF : Hid (fourOf s = [a % 256, b % 256, c % 256, s % 256]) := by
    show _ = _
    unfold fourOf
    rw [ea, eb, ec]
  have ba : a ≤ 255 := by omega
  have bb : b ≤ 65535 := by omega
  have bc : c ≤ 16777215 := by omega
  clear ea eb ec
  generalize a % 256 = A at *
  generalize b % 256 = B at *
  generalize c % 256 = C at *
  generalize s % 256 = D at *
  go_enter Try.func40, Try.ntmps40
  go_wp2_with fail
  go_ret
  rw [HF.out]
  exact ⟨_, _, rfl, row_own (vals := #[.int .u8 (A : Int), .int .u8 (B : Int), .int .u8 (C : Int), .int .u8 (D : Int)]) (zs := [A, B, C, D]) (n := 4) rfl rfl (Nat.le_of_ble_eq_true rfl), (row_fresh (w := W) (vals := #[.int .u8 (A : Int), .int .u8 (B : Int), .int .u8 (C : Int), .int .u8 (D : Int)]) (zs := [A, B, C, D]) (n := 4) rfl rfl).2.2⟩
set_option maxHeartbeats 2000000 in
set_option maxRecDepth 100000 in
theorem chunk_code (s : ByteArray) (kind : List Nat) (bv : Value) (zs : List Nat) (W : World) (hs : numsOf s = kind) (hk : kind.length = 4) (hk8 : ∀ x ∈ kind, x < 256) (hb : bytesIn W bv zs) (h8 : ∀ x ∈ zs, x < 256) (hl : zs.length ≤ 1000000000) :
    Calls Try.prog 32 #[.string s, bv] W fun e w' => ∃ o n c, e = .returned (.slice o n c) ∧ Hid ((chunkOf kind zs).length = n) ∧ Hid (w'.ownsRow W.heap.size 5 1 (.slice o n c) n ((chunkOf kind zs).map byteVal)) ∧ Hid (Below W.heap.size W w') := by
  obtain ⟨x, w2, c1, hx, hf, hb2⟩ := run_bytes s W
  rw [hs] at hx
  obtain ⟨xo, xc, ex⟩ := listed_length hx
  rw [hk] at ex
  subst ex
  obtain ⟨bo, bc, eb⟩ := listed_length hb
  subst eb
  have HX := Lib.hid hx
  have HB2 := Lib.hid hb2
  have HZ : Hid (bytesIn w2 (.slice bo zs.length bc) zs) := listed_on hb hb2
  have H8 : Hid (∀ z ∈ kind ++ zs, z < 256) := fun z hz => (List.mem_append.1 hz).elim (hk8 z) (h8 z)
  have HK := Lib.hid hk
  obtain ⟨N, eN⟩ : ∃ N, zs.length = N := ⟨_, rfl⟩
  have HN := Lib.hid eN
  rw [eN] at hl HZ ⊢
  have KC : Hid (∀ w', Calls Try.prog 34 #[.int .i64 (N : Int)] w' fun e w'' => ∃ o c, e = .returned (.slice o 4 c) ∧ Hid (bytesIn w'' (.slice o 4 c) (fourOf N)) ∧ Hid (∀ b, inBlock (.slice o 4 c) b → w'.heap.size ≤ b) ∧ Hid (Below w'.heap.size w' w'')) := fun w' => fourBytes_code N w' (by omega)
  clear hx hf hb2 hb hk8 h8 hk eN hs
  go_enter Try.func32, Try.ntmps32
  go_wp2_with fail
  go_at_call 33
  refine (concats_code _ [kind, zs] _ (lists_two HX.out HZ.out) (by simp only [List.flatten_cons, List.flatten_nil, List.length_append, List.length_nil]; rw [HK.out, HN.out]; omega) (by simp)).mono ?_
  rintro e w3 ⟨u3, rfl, k1, _, k3, _⟩
  have e3 : [kind, zs].flatten = kind ++ zs := by simp
  rw [e3] at k1
  have HU : Hid (bytesIn w3 u3 (kind ++ zs)) := k1
  have HB3 : Hid (Below W.heap.size W w3) := HB2.out.trans (((below_alloc1 w2 _).trans (k3.mono (by show _ ≤ (w2.heap.push _).size; simp))).mono HB2.out.size)
  obtain ⟨uo, uc, eu⟩ := listed_length HU.out
  have HM : Hid ((kind ++ zs).length = N + 4) := by
    show _ = _
    rw [List.length_append, HK.out, HN.out, Nat.add_comm]
  rw [HM.out] at eu
  subst eu
  have hcr := Ad.Cr.crc_below 0 (kind ++ zs)
  obtain ⟨R, eR⟩ : ∃ R, Ad.Cr.crc 0 (kind ++ zs) = R := ⟨_, rfl⟩
  have HR := Lib.hid eR
  have KX : Hid (∀ w', bytesIn w' (.slice uo (N + 4) uc) (kind ++ zs) → Calls Try.prog 50 #[.int .u32 0, .slice uo (N + 4) uc] w' fun e w'' => e = .returned (.int .u32 (R : Int)) ∧ Below w'.heap.size w' w'') := fun w' h => by
    have h1 := Ad.Cr.code 0 _ _ w' (by decide) h H8.out (by rw [HM.out]; omega)
    rw [eR] at h1
    exact h1
  rw [eR] at hcr
  have HFL : Hid ([fourOf N, kind ++ zs, fourOf R].flatten = chunkOf kind zs) := by
    show _ = _
    unfold chunkOf
    rw [HN.out, HR.out]
    simp
  clear k1 k3 e3 c1 eR
  obtain ⟨M, eM⟩ : ∃ M, N + 4 = M := ⟨_, rfl⟩
  have hM : M ≤ 1000000004 := by omega
  rw [eM] at HU KX HM ⊢
  clear eM
  go_wp2_with fail
  go_at_call 34
  refine (KC.out _).mono ?_
  rintro e w4 ⟨o4, c4, rfl, HF4, _, HB4⟩
  go_wp2_with fail
  go_at_call 50
  refine (KX.out _ (listed_on HU.out HB4.out)).mono ?_
  rintro e w5 ⟨rfl, hb5⟩
  have HB5 := Lib.hid hb5
  clear hb5
  go_wp2_with fail
  go_at_call 34
  refine (fourBytes_code R _ (by omega)).mono ?_
  rintro e w6 ⟨o6, c6, rfl, HF6, _, HB6⟩
  have HL : Hid (bytesIn w6 (.slice o4 4 c4) (fourOf N) ∧ bytesIn w6 (.slice uo M uc) (kind ++ zs)) := ⟨listed_on (listed_on HF4.out HB5.out) HB6.out, listed_on (listed_on (listed_on HU.out HB4.out) HB5.out) HB6.out⟩
  have HBA : Hid (Below W.heap.size W w6) := by
    have h4 : Below W.heap.size W w4 := HB3.out.trans (HB4.out.mono HB3.out.size)
    have h5 : Below W.heap.size W w5 := h4.trans (HB5.out.mono h4.size)
    exact h5.trans (HB6.out.mono h5.size)
  go_wp2_with fail
  go_at_call 33
  refine (concats_code _ [fourOf N, kind ++ zs, fourOf R] _ (lists_three HL.out.1 HL.out.2 HF6.out) (by simp only [List.flatten_cons, List.flatten_nil, List.length_append, List.length_nil, fourOf_length]; rw [HK.out, HN.out]; omega) (by simp)).mono ?_
  rintro e w7 ⟨u7, rfl, _, _, k3, k4⟩
  rw [HFL.out] at k4
  obtain ⟨o7, c7, e7⟩ := row_shape k4
  subst e7
  have hsz : w6.heap.size ≤ (w6.alloc (.cells #[.slice o4 4 c4, .slice uo M uc, .slice o6 4 c6] 36)).heap.size := by show _ ≤ (w6.heap.push _).size; simp
  have HB7 : Hid (Below W.heap.size W w7) := HBA.out.trans (((below_alloc1 w6 _).trans (k3.mono hsz)).mono HBA.out.size)
  have HK4 : Hid (w7.ownsRow W.heap.size 5 1 (.slice o7 (chunkOf kind zs).length c7) (chunkOf kind zs).length ((chunkOf kind zs).map byteVal)) := ownsRow_le k4 (Nat.le_trans HBA.out.size hsz)
  have HLN : Hid ((chunkOf kind zs).length = (chunkOf kind zs).length) := rfl
  clear k3 k4 hsz
  generalize eL : (chunkOf kind zs).length = L at *
  go_wp2_with fail
  go_ret
  exact ⟨_, _, _, rfl, eL, HK4.out, HB7.out⟩
end Go.Proofs.Ytefdlidjdmlnaaa.Fx
