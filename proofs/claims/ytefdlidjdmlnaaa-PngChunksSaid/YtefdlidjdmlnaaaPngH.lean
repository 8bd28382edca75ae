/-
  png's head, as landed; the document's own chunks and head. The conditions stand in each.
-/
import Derived.Test.YtefdlidjdmlnaaaPngB
namespace Go.Proofs.Ytefdlidjdmlnaaa.Fx
open Go Go.RowKit Go.Joins
set_option linter.unusedVariables false
theorem numsOf_size (s : ByteArray) : (numsOf s).length = s.size := by
  unfold numsOf
  rw [List.length_map, Array.length_toList]
  rfl
theorem strCells_of (s : ByteArray) : Lib.strCells s = (numsOf s).map byteVal := by
  unfold Lib.strCells numsOf byteVal
  rw [List.map_map]
  rfl
/-- A string's bytes behind a row of the call's own. -/
theorem wpList_append_str {P : Program} {w : World} {ops : Array Oper} {rest : List Oper} {o : Oper} {a : Act} {Q : Exit → Act → World → Prop} (hgd : o.guard = none) (sl x : Operand) (t u : TypeId)
    (ho : o.op = .call { callee := .builtin .append, args := #[sl, x], argTypes := #[t, u] })
    (base : Nat) (e : TypeId) (ht : P.underlying t = some (.slice e)) (hu : P.underlying u = some .string) (hinfo : (P.info? e).map (fun i => (i.zero, i.size, i.bytes)) = some (some (.int .u8 0), 1, 1))
    (v : Value) (n : Nat) (zs : List Nat) (hs : a.eval sl = v) (hown : w.ownsRow base e 1 v n (zs.map byteVal)) (s : ByteArray) (hx : a.eval x = .string s) (hl : n + s.size ≤ 1000000) (hbase : base ≤ w.heap.size)
    (h : ∀ v' w', w'.ownsRow base e 1 v' (n + s.size) ((zs ++ numsOf s).map byteVal) → w.grownBy w' v.ownBlock → wpList P ops Q rest (a.put o.dst v') w') : wpList P ops Q (o :: rest) a w := by
  refine wpList_plain hgd fun K hK => ?_
  obtain ⟨i, hi, hz, hsize, hby⟩ := info_parts hinfo
  obtain ⟨v', w', hrun, r1, r2, _⟩ := Lib.run_append_own_string (P := P) w base t u o.type e i ht hu hi hz hsize hby v n (zs.map byteVal) hown s (by unfold maxLen; omega) (by omega) hbase
  unfold Oper.wp execOp
  simp only [ho, resolve, invoke, builtin, Sem.run_bind, Sem.run_pure, Result.andThen_ok, List.map_toArray, List.map_cons, List.map_nil, hs, hx, hrun]
  exact hK _ _ (h v' w' (by rw [List.map_append, ← strCells_of]; exact r1) r2)
theorem below_grown {B : Nat} {W w w' : World} {e : TypeId} {v : Value} {n : Nat} {xs : List Value} (h : Below B W w) (hown : w.ownsRow B e 1 v n xs) (hg : w.grownBy w' v.ownBlock) (hs : B ≤ w.heap.size) : Below B W w' :=
  h.grown hg hs (fun q hq => (hown.lt q hq).1)
set_option maxHeartbeats 2000000 in
set_option maxRecDepth 100000 in
theorem rchunk_any (s : ByteArray) (kind : List Nat) (bv : Value) (zs : List Nat) (W : World) (hs : numsOf s = kind) (hk : kind.length = 4) (hk8 : ∀ x ∈ kind, x < 256) (hb : bytesIn W bv zs) (h8 : ∀ x ∈ zs, x < 256) (hl : zs.length ≤ 1000000000) :
    Calls Try.prog 30 #[.string s, bv] W fun e w' => ∃ o n c, e = .returned (.slice o n c) ∧ Hid ((chunkOf kind zs).length = n) ∧ Hid (w'.ownsRow W.heap.size 5 1 (.slice o n c) n ((chunkOf kind zs).map byteVal)) ∧ Hid (Below W.heap.size W w') := by
  obtain ⟨bo, bc, eb⟩ := listed_length hb
  subst eb
  have hsz4 : s.size = 4 := by rw [← numsOf_size, hs, hk]
  have HB := Lib.hid hb
  have HS := Lib.hid hs
  have H8 : Hid (∀ z ∈ kind ++ zs, z < 256) := fun z hz => (List.mem_append.1 hz).elim (hk8 z) (h8 z)
  have HK := Lib.hid hk
  obtain ⟨N, eN⟩ : ∃ N, zs.length = N := ⟨_, rfl⟩
  have HN := Lib.hid eN
  rw [eN] at hl HB ⊢
  have HZ4 := Lib.hid hsz4
  have hcr := Ad.Cr.crc_below 0 (kind ++ zs)
  obtain ⟨R, eR⟩ : ∃ R, Ad.Cr.crc 0 (kind ++ zs) = R := ⟨_, rfl⟩
  have HR := Lib.hid eR
  rw [eR] at hcr
  clear hb hk8 h8 hk eN hs hsz4 eR
  go_enter Try.func30, Try.ntmps30
  go_wp2_with (at_builtin; refine wpList_append_str rfl _ _ 36 9 rfl W.heap.size 5 Try.underlying36 Try.underlying9 infoU8 (.slice none 0 0) 0 [] rfl (World.ownsRow_nil _ _ _ _) s rfl (by rw [HZ4.out]; omega) (Nat.le_refl _) ?_)
  intro v1 w1 g1 g2
  have g1 : w1.ownsRow W.heap.size 5 1 v1 4 (kind.map byteVal) := by
    have h := g1
    simp only [HZ4.out, HS.out] at h
    exact h
  have HB1 : Hid (Below W.heap.size W w1) := below_grown (e := 5) (Below.refl _ _) (World.ownsRow_nil _ _ _ _) g2 (Nat.le_refl _)
  have HR1 := Lib.hid g1
  obtain ⟨o1, c1, rfl⟩ := row_shape g1
  clear g1 g2
  go_wp2_with (at_builtin; refine wpList_append_listed (c := byteVal) rfl _ _ 36 rfl W.heap.size 5 (.int .u8 0) Try.underlying36 infoU8 rfl (fun _ => rfl) (.slice o1 4 c1) 4 kind rfl HR1.out (.slice bo N bc) zs rfl (listed_on HB.out HB1.out) (by rw [HN.out]; omega) HB1.out.size ?_)
  intro v2 w2 g1 g2
  simp only [HN.out] at g1
  have HB2 : Hid (Below W.heap.size W w2) := below_grown HB1.out HR1.out g2 HB1.out.size
  have g1' : w2.ownsRow W.heap.size 5 1 v2 (4 + N) ((kind ++ zs).map byteVal) := by rw [List.map_append]; simpa using g1
  have HR2 := Lib.hid g1'
  obtain ⟨o2, c2, rfl⟩ := row_shape g1
  clear g1 g2 g1' HR1
  obtain ⟨M, eM⟩ : ∃ v, 4 + N = v := ⟨_, rfl⟩
  have HM : Hid ((kind ++ zs).length = M) := by show _ = _; rw [List.length_append, HK.out, HN.out, eM]
  rw [eM] at HR2 ⊢
  have hM : M ≤ 1000000004 := by omega
  clear eM
  go_wp2_with fail
  go_at_call 40
  refine (rfour9_any N _ (by omega)).mono ?_
  rintro e w3 ⟨o3, c3, rfl, HF3, HB3⟩
  go_wp2_with (at_builtin; refine wpList_append_listed (c := byteVal) rfl _ _ 36 rfl w2.heap.size 5 (.int .u8 0) Try.underlying36 infoU8 rfl (fun _ => rfl) (.slice none 0 0) 0 [] rfl (World.ownsRow_nil _ _ _ _) (.slice o3 4 c3) (fourOf N) rfl (own_listed HF3.out) (by rw [fourOf_length]; omega) HB3.out.size ?_)
  intro v4 w4 g1 g2
  have g1 : w4.ownsRow w2.heap.size 5 1 v4 4 ((fourOf N).map byteVal) := by
    have h := g1
    simp only [fourOf_length] at h
    exact h
  have HB4 : Hid (Below w2.heap.size w2 w4) := below_grown (e := 5) HB3.out (World.ownsRow_nil _ _ _ _) g2 HB3.out.size
  have HR4 := Lib.hid g1
  obtain ⟨o4, c4, rfl⟩ := row_shape g1
  clear g1 g2 HF3 HB3
  have HU4 : Hid (bytesIn w4 (.slice o2 M c2) (kind ++ zs)) := listed_on (own_listed HR2.out) HB4.out
  go_wp2_with (at_builtin; refine wpList_append_listed (c := byteVal) rfl _ _ 36 rfl w2.heap.size 5 (.int .u8 0) Try.underlying36 infoU8 rfl (fun _ => rfl) (.slice o4 4 c4) 4 (fourOf N) rfl HR4.out (.slice o2 M c2) (kind ++ zs) rfl HU4.out (by rw [HM.out]; omega) HB4.out.size ?_)
  intro v5 w5 g1 g2
  have hlen : kind.length + zs.length = M := by rw [← List.length_append]; exact HM.out
  simp only [hlen] at g1
  have HB5 : Hid (Below w2.heap.size w2 w5) := below_grown HB4.out HR4.out g2 HB4.out.size
  have g1' : w5.ownsRow w2.heap.size 5 1 v5 (4 + M) ((fourOf N ++ (kind ++ zs)).map byteVal) := by rw [List.map_append]; simpa using g1
  have HR5 := Lib.hid g1'
  obtain ⟨o5, c5, rfl⟩ := row_shape g1
  clear g1 g2 g1' HR4 HU4 HB4
  obtain ⟨L, eL⟩ : ∃ v, 4 + M = v := ⟨_, rfl⟩
  have HL : Hid ((fourOf N ++ (kind ++ zs)).length = L) := by show _ = _; rw [List.length_append, fourOf_length, HM.out, eL]
  have hL : L ≤ 1000000008 := by omega
  rw [eL] at HR5 ⊢
  clear eL
  have HU5 : Hid (bytesIn w5 (.slice o2 M c2) (kind ++ zs)) := listed_on (own_listed HR2.out) HB5.out
  have KX : Hid (∀ w', w' = w5 → Calls Try.prog 46 #[.int .u32 0, .slice o2 M c2] w' fun e w'' => e = .returned (.int .u32 (R : Int)) ∧ w' = w'') := by
    rintro w' rfl
    have h1 := Ad.Cr.ref 0 _ _ w' (by decide) HU5.out H8.out (by rw [HM.out]; omega)
    rw [HR.out] at h1
    exact h1
  go_wp2_with fail
  go_at_call 46
  refine (KX.out _ rfl).mono ?_
  rintro e w6 ⟨rfl, rfl⟩
  clear KX
  go_wp2_with fail
  go_at_call 40
  refine (rfour9_any R _ (by omega)).mono ?_
  rintro e w7 ⟨o7, c7, rfl, HF7, HB7⟩
  have HR7 : Hid (w7.ownsRow w2.heap.size 5 1 (.slice o5 L c5) L ((fourOf N ++ (kind ++ zs)).map byteVal)) := owns_kept HR5.out (fun k hk => HB7.out.block k ((HR5.out.lt k hk).2))
  have HBA : Hid (Below w2.heap.size w2 w7) := HB5.out.trans (HB7.out.mono HB5.out.size)
  go_wp2_with (at_builtin; refine wpList_append_listed (c := byteVal) rfl _ _ 36 rfl w2.heap.size 5 (.int .u8 0) Try.underlying36 infoU8 rfl (fun _ => rfl) (.slice o5 L c5) L (fourOf N ++ (kind ++ zs)) rfl HR7.out (.slice o7 4 c7) (fourOf R) rfl (own_listed HF7.out) (by rw [fourOf_length]; omega) HBA.out.size ?_)
  intro v8 w8 g1 g2
  simp only [fourOf_length] at g1
  have HB8 : Hid (Below W.heap.size W w8) := HB2.out.trans ((below_grown HBA.out HR7.out g2 HBA.out.size).mono HB2.out.size)
  have hch : chunkOf kind zs = fourOf N ++ (kind ++ zs) ++ fourOf R := by unfold chunkOf; rw [HN.out, HR.out]
  have g1' : w8.ownsRow w2.heap.size 5 1 v8 (L + 4) ((chunkOf kind zs).map byteVal) := by rw [hch, List.map_append]; simpa using g1
  have HR8 : Hid (w8.ownsRow W.heap.size 5 1 v8 (L + 4) ((chunkOf kind zs).map byteVal)) := ownsRow_le g1' HB2.out.size
  have HLL : Hid ((chunkOf kind zs).length = L + 4) := by show _ = _; rw [hch, List.length_append, HL.out, fourOf_length]
  obtain ⟨o8, c8, rfl⟩ := row_shape g1
  clear g1 g2 g1' hch
  generalize L + 4 = L8 at *
  go_wp2_with fail
  go_ret
  exact ⟨_, _, _, rfl, HLL.out, HR8.out, HB8.out⟩
abbrev lit5 : Array Value := #[.int .u8 8, .int .u8 6, .int .u8 0, .int .u8 0, .int .u8 1]
abbrev lit8 : Array Value := #[.int .u8 137, .int .u8 80, .int .u8 78, .int .u8 71, .int .u8 13, .int .u8 10, .int .u8 26, .int .u8 10]
theorem head_text : numsOf ⟨#[73, 72, 68, 82]⟩ = kindHead := rfl
theorem data_text : numsOf ⟨#[73, 68, 65, 84]⟩ = kindData := rfl
theorem end_text : numsOf ⟨#[73, 69, 78, 68]⟩ = kindEnd := rfl
theorem kind_small : (∀ x ∈ kindHead, x < 256) ∧ (∀ x ∈ kindData, x < 256) ∧ (∀ x ∈ kindEnd, x < 256) := by decide
set_option maxHeartbeats 2000000 in
set_option maxRecDepth 100000 in
theorem head_code (w h : Nat) (W : World) (hw : w ≤ 1024) (hh : h ≤ 1024) :
    Calls Try.prog 21 #[.int .i64 (w : Int), .int .i64 (h : Int)] W fun e w' => ∃ o c, e = .returned (.slice o 33 c) ∧ Hid (w'.ownsRow W.heap.size 5 1 (.slice o 33 c) 33 ((pngHeadOf w h).map byteVal)) ∧ Hid (Below W.heap.size W w') := by
  go_enter Try.func21, Try.ntmps21
  go_wp2_with fail
  go_at_call 34
  refine (fourBytes_code w _ (by omega)).mono ?_
  rintro e w1 ⟨o1, c1, rfl, HF1, _, HB1⟩
  go_wp2_with fail
  go_at_call 34
  refine (fourBytes_code h _ (by omega)).mono ?_
  rintro e w2 ⟨o2, c2, rfl, HF2, _, HB2⟩
  have HBA : Hid (Below W.heap.size W w2) := HB1.out.trans (HB2.out.mono HB1.out.size)
  have HF3 : Hid (bytesIn w2 (.slice o1 4 c1) (fourOf w)) := listed_on HF1.out HB2.out
  go_wp2_with fail
  go_at_call 33
  refine (concats_code _ [fourOf w, fourOf h] _ (lists_two HF3.out HF2.out) (by simp [fourOf_length]) (by simp)).mono ?_
  rintro e w3 ⟨u3, rfl, _, _, k3, k4⟩
  have e3 : [fourOf w, fourOf h].flatten = fourOf w ++ fourOf h := by simp
  rw [e3, List.length_append, fourOf_length, fourOf_length] at k4
  have k4 : w3.ownsRow (w2.alloc (.cells #[.slice o1 4 c1, .slice o2 4 c2] 36)).heap.size 5 1 u3 8 ((fourOf w ++ fourOf h).map byteVal) := k4
  obtain ⟨o3, c3, rfl⟩ := row_shape k4
  have hsz : w2.heap.size ≤ (w2.alloc (.cells #[.slice o1 4 c1, .slice o2 4 c2] 36)).heap.size := by show _ ≤ (w2.heap.push _).size; simp
  have HB3 : Hid (Below W.heap.size W w3) := HBA.out.trans (((below_alloc1 w2 _).trans (k3.mono hsz)).mono HBA.out.size)
  have HR3 : Hid (w3.ownsRow W.heap.size 5 1 (.slice o3 8 c3) 8 ((fourOf w ++ fourOf h).map byteVal)) := ownsRow_le k4 (Nat.le_trans HBA.out.size hsz)
  clear k3 k4 e3 hsz HF1 HF2 HF3 HB1 HB2
  have HL5 : Hid (bytesIn (w3.alloc (.cells lit5 5)) (.slice (some ⟨w3.heap.size, 0, none⟩) 5 5) [8, 6, 0, 0, 1] ∧ Below W.heap.size W (w3.alloc (.cells lit5 5))) := by
    have h1 := row_fresh (w := w3) (vals := lit5) (zs := [8, 6, 0, 0, 1]) (n := 5) rfl rfl
    exact ⟨h1.1, HB3.out.trans (h1.2.2.mono HB3.out.size)⟩
  go_wp2_with (at_builtin; refine wpList_append_listed (c := byteVal) rfl _ _ 36 rfl W.heap.size 5 (.int .u8 0) Try.underlying36 infoU8 rfl (fun _ => rfl) (.slice o3 8 c3) 8 (fourOf w ++ fourOf h) rfl (HR3.out.alloc _) _ [8, 6, 0, 0, 1] rfl HL5.out.1 (by decide) HL5.out.2.size ?_)
  intro v4 w4 g1 g2
  have g1 : w4.ownsRow W.heap.size 5 1 v4 13 ((saysOf w h).map byteVal) := by
    unfold saysOf
    rw [List.map_append]
    simpa using g1
  have HB4 : Hid (Below W.heap.size W w4) := below_grown HL5.out.2 (HR3.out.alloc _) g2 HL5.out.2.size
  have HR4 : Hid (bytesIn w4 v4 (saysOf w h)) := own_listed g1
  obtain ⟨o4, c4, rfl⟩ := row_shape g1
  clear g1 g2 HL5 HR3
  have HL8 : Hid (bytesIn (w4.alloc (.cells lit8 5)) (.slice (some ⟨w4.heap.size, 0, none⟩) 8 8) signOf ∧ bytesIn (w4.alloc (.cells lit8 5)) (.slice o4 13 c4) (saysOf w h) ∧ Below W.heap.size W (w4.alloc (.cells lit8 5))) := by
    have h1 := row_fresh (w := w4) (vals := lit8) (zs := signOf) (n := 8) rfl rfl
    exact ⟨h1.1, listed_on HR4.out h1.2.2, HB4.out.trans (h1.2.2.mono HB4.out.size)⟩
  go_wp2_with fail
  go_at_call 32
  refine (chunk_code _ kindHead _ _ _ head_text rfl kind_small.1 HL8.out.2.1 (says_bytes w h) (by rw [says_length]; decide)).mono ?_
  rintro e w5 ⟨o5, n5, c5, rfl, HN5, HR5, HB5⟩
  have hn5 := HN5.out
  rw [chunk_length _ _ rfl, says_length] at hn5
  subst hn5
  have HBB : Hid (Below W.heap.size W w5) := HL8.out.2.2.trans (HB5.out.mono HL8.out.2.2.size)
  have HS5 : Hid (bytesIn w5 (.slice (some ⟨w4.heap.size, 0, none⟩) 8 8) signOf) := listed_on HL8.out.1 HB5.out
  have HC5 : Hid (bytesIn w5 (.slice o5 25 c5) (chunkOf kindHead (saysOf w h))) := own_listed HR5.out
  clear HN5 HR5 HB5 HL8
  go_wp2_with fail
  go_at_call 33
  have hlen : [signOf, chunkOf kindHead (saysOf w h)].flatten.length = 33 := by
    have := head_length w h
    unfold pngHeadOf at this
    simpa using this
  refine (concats_code _ [signOf, chunkOf kindHead (saysOf w h)] _ (lists_two HS5.out HC5.out) (by rw [hlen]; decide) (by simp)).mono ?_
  rintro e w6 ⟨u6, rfl, _, _, k3, k4⟩
  rw [hlen] at k4
  have e6 : [signOf, chunkOf kindHead (saysOf w h)].flatten = pngHeadOf w h := by unfold pngHeadOf; simp
  rw [e6] at k4
  obtain ⟨o6, c6, rfl⟩ := row_shape k4
  have hsz : w5.heap.size ≤ (w5.alloc (.cells #[.slice (some ⟨w4.heap.size, 0, none⟩) 8 8, .slice o5 25 c5] 36)).heap.size := by show _ ≤ (w5.heap.push _).size; simp
  have HB6 : Hid (Below W.heap.size W w6) := HBB.out.trans (((below_alloc1 w5 _).trans (k3.mono hsz)).mono HBB.out.size)
  have HR6 : Hid (w6.ownsRow W.heap.size 5 1 (.slice o6 33 c6) 33 ((pngHeadOf w h).map byteVal)) := ownsRow_le k4 (Nat.le_trans HBB.out.size hsz)
  clear k3 k4 hsz e6 hlen
  go_wp2_with fail
  go_ret
  exact ⟨_, _, rfl, HR6.out, HB6.out⟩
set_option maxHeartbeats 2000000 in
set_option maxRecDepth 100000 in
theorem rhead_any (w h : Nat) (W : World) (hw : w ≤ 1024) (hh : h ≤ 1024) :
    Calls Try.prog 27 #[.int .i64 (w : Int), .int .i64 (h : Int)] W fun e w' => ∃ o c, e = .returned (.slice o 33 c) ∧ Hid (w'.ownsRow W.heap.size 5 1 (.slice o 33 c) 33 ((pngHeadOf w h).map byteVal)) ∧ Hid (Below W.heap.size W w') := by
  obtain ⟨w0, ew0⟩ : ∃ w0, w0 = W.alloc (.cells lit8 5) := ⟨_, rfl⟩
  have HR0 : Hid (w0.ownsRow W.heap.size 5 1 (.slice (some ⟨W.heap.size, 0, none⟩) 8 8) 8 (signOf.map byteVal) ∧ Below W.heap.size W w0) := by
    rw [ew0]
    exact ⟨row_own (vals := lit8) (zs := signOf) (n := 8) rfl rfl (by decide), below_alloc1 _ _⟩
  go_enter Try.func27, Try.ntmps27
  go_upto_region 2 with fail
  rw [← ew0]
  clear ew0
  go_wp2_with fail
  go_at_call 40
  refine (rfour9_any w _ (by omega)).mono ?_
  rintro e w1 ⟨o1, c1, rfl, HF1, HB1⟩
  go_wp2_with fail
  go_at_call 40
  refine (rfour9_any h _ (by omega)).mono ?_
  rintro e w2 ⟨o2, c2, rfl, HF2, HB2⟩
  have HR1 : Hid (w2.ownsRow w0.heap.size 5 1 (.slice o1 4 c1) 4 ((fourOf w).map byteVal)) := owns_kept HF1.out (fun k hk => HB2.out.block k ((HF1.out.lt k hk).2))
  have HBA : Hid (Below w0.heap.size w0 w2) := HB1.out.trans (HB2.out.mono HB1.out.size)
  go_wp2_with (at_builtin; refine wpList_append_listed (c := byteVal) rfl _ _ 36 rfl w0.heap.size 5 (.int .u8 0) Try.underlying36 infoU8 rfl (fun _ => rfl) (.slice o1 4 c1) 4 (fourOf w) rfl HR1.out (.slice o2 4 c2) (fourOf h) rfl (own_listed HF2.out) (by rw [fourOf_length]; decide) HBA.out.size ?_)
  intro v3 w3 g1 g2
  have g1 : w3.ownsRow w0.heap.size 5 1 v3 8 ((fourOf w ++ fourOf h).map byteVal) := by
    rw [List.map_append]
    simpa [fourOf_length] using g1
  have HB3 : Hid (Below w0.heap.size w0 w3) := below_grown HBA.out HR1.out g2 HBA.out.size
  have HR3 := Lib.hid g1
  obtain ⟨o3, c3, rfl⟩ := row_shape g1
  clear g1 g2 HR1 HF1 HF2 HB1 HB2
  have HL5 : Hid (bytesIn (w3.alloc (.cells lit5 5)) (.slice (some ⟨w3.heap.size, 0, none⟩) 5 5) [8, 6, 0, 0, 1] ∧ Below w0.heap.size w0 (w3.alloc (.cells lit5 5))) := by
    have h1 := row_fresh (w := w3) (vals := lit5) (zs := [8, 6, 0, 0, 1]) (n := 5) rfl rfl
    exact ⟨h1.1, HB3.out.trans (h1.2.2.mono HB3.out.size)⟩
  go_wp2_with (at_builtin; refine wpList_append_listed (c := byteVal) rfl _ _ 36 rfl w0.heap.size 5 (.int .u8 0) Try.underlying36 infoU8 rfl (fun _ => rfl) (.slice o3 8 c3) 8 (fourOf w ++ fourOf h) rfl (HR3.out.alloc _) _ [8, 6, 0, 0, 1] rfl HL5.out.1 (by decide) HL5.out.2.size ?_)
  intro v4 w4 g1 g2
  have g1 : w4.ownsRow w0.heap.size 5 1 v4 13 ((saysOf w h).map byteVal) := by
    unfold saysOf
    rw [List.map_append]
    simpa using g1
  have HB4 : Hid (Below w0.heap.size w0 w4) := below_grown HL5.out.2 (HR3.out.alloc _) g2 HL5.out.2.size
  have HR4 : Hid (bytesIn w4 v4 (saysOf w h)) := own_listed g1
  obtain ⟨o4, c4, rfl⟩ := row_shape g1
  clear g1 g2 HL5 HR3
  go_wp2_with fail
  go_at_call 30
  refine (rchunk_any _ kindHead _ _ _ head_text rfl kind_small.1 HR4.out (says_bytes w h) (by rw [says_length]; decide)).mono ?_
  rintro e w5 ⟨o5, n5, c5, rfl, HN5, HR5, HB5⟩
  have hn5 := HN5.out
  rw [chunk_length _ _ rfl, says_length] at hn5
  subst hn5
  have HBB : Hid (Below w0.heap.size w0 w5) := HB4.out.trans (HB5.out.mono HB4.out.size)
  have HR6 : Hid (w5.ownsRow W.heap.size 5 1 (.slice (some ⟨W.heap.size, 0, none⟩) 8 8) 8 (signOf.map byteVal)) := owns_kept HR0.out.1 (fun k hk => HBB.out.block k ((HR0.out.1.lt k hk).2))
  have HBC : Hid (Below W.heap.size W w5) := HR0.out.2.trans (HBB.out.mono HR0.out.2.size)
  have HC5 : Hid (bytesIn w5 (.slice o5 25 c5) (chunkOf kindHead (saysOf w h))) := own_listed HR5.out
  have HLN : Hid ((chunkOf kindHead (saysOf w h)).length = 25) := by show _ = _; rw [chunk_length _ _ rfl, says_length]
  clear HN5 HR5 HB5
  go_wp2_with (at_builtin; refine wpList_append_listed (c := byteVal) rfl _ _ 36 rfl W.heap.size 5 (.int .u8 0) Try.underlying36 infoU8 rfl (fun _ => rfl) (.slice (some ⟨W.heap.size, 0, none⟩) 8 8) 8 signOf rfl HR6.out (.slice o5 25 c5) (chunkOf kindHead (saysOf w h)) rfl HC5.out (by rw [HLN.out]; decide) HBC.out.size ?_)
  intro v7 w7 g1 g2
  have g1 : w7.ownsRow W.heap.size 5 1 v7 33 ((pngHeadOf w h).map byteVal) := by
    unfold pngHeadOf
    rw [List.map_append]
    simpa [HLN.out] using g1
  have HB7 : Hid (Below W.heap.size W w7) := below_grown HBC.out HR6.out g2 HBC.out.size
  have HR7 := Lib.hid g1
  obtain ⟨o7, c7, rfl⟩ := row_shape g1
  clear g1 g2
  go_wp2_with fail
  go_ret
  exact ⟨_, _, rfl, HR7.out, HB7.out⟩
end Go.Proofs.Ytefdlidjdmlnaaa.Fx
