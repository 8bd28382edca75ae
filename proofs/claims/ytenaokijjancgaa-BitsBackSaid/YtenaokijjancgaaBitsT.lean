/-
  What the document's own writer hands on; the document's own reader of bytes. The conditions stand in each.
-/
import Derived.Test.YtenaokijjancgaaRegion
import Derived.Test.YtenaokijjancgaaBitsG
namespace Go.Proofs.Ytenaokijjancgaa.Fx
open Go Go.RowKit Go.Joins
set_option linter.unusedVariables false
def byteVal (n : Nat) : Value := .int .u8 (n : Int)
abbrev bytesIn (w : World) (v : Value) (zs : List Nat) : Prop := listed byteVal w v zs
theorem info8 : (Try.prog.info? 5).map (fun i => (i.zero, i.size, i.bytes)) = some (some (.int .u8 0), 1, 1) := by kernel_rfl
set_option maxHeartbeats 4000000 in
set_option maxRecDepth 100000 in
theorem rtake_any (v : Value) (L : List Bool) (t : Nat) (W : World) (hr : bools W v L) (hl : L.length ≤ 1099511627000) (ht : 8 * t ≤ L.length) :
    Calls Try.prog 22 #[.agg #[v, .int .i64 (t : Int)]] W fun e w' =>
      ∃ u, e = .returned (.tuple #[.agg #[v, .int .i64 ((L.length / 8 : Nat) : Int)], u]) ∧ bytesIn w' u (bytesAt L t (L.length / 8 - t)) ∧ (∀ b, inBlock u b → W.heap.size ≤ b) ∧ Below W.heap.size W w' := by
  obtain ⟨w1, e1, hs1, hB0, hB1, hbl⟩ := two_blocks W 40 v (.int .i64 (t : Int)) (.slice none 0 0) (.int .i64 0)
  have HR := Lib.hid hr
  obtain ⟨vo, vc, rfl⟩ := listed_length hr
  clear hr
  obtain ⟨n, en⟩ : ∃ n, L.length = n := ⟨_, rfl⟩
  have EN := Lib.hid en
  rw [en] at HR hl ht hB0 e1 ⊢
  clear en
  have hb1 : Below w1.heap.size w1 w1 := Below.refl _ _
  go_enter Try.func22, Try.ntmps22
  go_wp2_with fail
  rw [← e1]
  clear e1
  go_loopw [4] (fun o wr => ∃ m : Nat, 8 * (t + m) ≤ n ∧ wr.ownsRow (W.heap.size + 2) 5 1 o m ((bytesAt L t m).map byteVal) ∧ wr.heap[W.heap.size]? = some (.cells #[.slice vo n vc, .int .i64 ((t + m : Nat) : Int)] 40 (0, 0)) ∧ wr.heap[W.heap.size + 1]? = some (.cells #[.slice none 0 0, .int .i64 0] 40 (0, 0)) ∧ Below W.heap.size W wr ∧ W.heap.size + 2 ≤ wr.heap.size) (fun o _ => n / 8 - t - sliceLen o)
  case atStart => exact ⟨0, by omega, World.ownsRow_nil _ _ _ _, hB0, hB1, hbl, by omega⟩
  case round =>
    clear hB0 hB1 hbl hs1 hb1
    obtain ⟨m, hm, hown, hB0, hB1, hbl, hsz⟩ := hrel
    have HO := Lib.hid hown
    have HBL := Lib.hid hbl
    have HB0 := Lib.hid hB0
    have HB1 := Lib.hid hB1
    have hrow := own_listed (c := byteVal) hown
    have HFR := Lib.hid (fun b hb => own_fresh hown b hb)
    have HROW := Lib.hid hrow
    obtain ⟨oo, oc, rfl⟩ := listed_length hrow
    have hbm : (bytesAt L t m).length = m := bytesAt_length _ _ _
    rw [hbm] at HO HROW HFR ⊢
    clear hbl hown hbm hrow
    obtain ⟨q, eq⟩ : ∃ q, t + m = q := ⟨_, rfl⟩
    have EQ := Lib.hid eq
    have hm2 : m + 1 ≤ 140737488355328 := by omega
    rw [eq] at hB0 HB0 hm
    have q0 := cell_of_block hB0 0
    have q1 := cell_of_block hB0 1
    have q2 := cell_of_block hB1 0
    have q3 := cell_of_block hB1 1
    have f0 := unfrozen_of_block hB0 0
    have f1 := unfrozen_of_block hB0 1
    have f2 := unfrozen_of_block hB1 0
    have f3 := unfrozen_of_block hB1 1
    have hne : ¬ W.heap.size = W.heap.size + 1 := by omega
    clear hB0 hB1
    by_cases h8 : 8 * (q + 1) ≤ n
    · have hd : decide (8 * ((q : Int) + 1) ≤ (n : Int)) = true := decide_eq_true (by omega)
      obtain ⟨f, ef⟩ : ∃ f, 8 * q = f := ⟨_, rfl⟩
      have hf : 8 * (q : Int) = (f : Int) := by omega
      have KN : Hid (∀ w', Below W.heap.size W w' → Calls Try.prog 31 #[.slice vo n vc, .int .i64 (f : Int), .int .i64 8] w' fun e w'' => e = .returned (.int .u32 (numAt L f 8 : Nat)) ∧ w' = w'') := fun w' hb => number_any _ L f 8 w' (listed_on HR.out hb) (by rw [EN.out]; omega) (by omega) (by rw [EN.out]; omega)
      have bN := numAt_below L f 8
      have HNX := Lib.hid (bytesAt_next L t m)
      rw [EQ.out, ef] at HNX
      obtain ⟨N, eN⟩ : ∃ N, numAt L f 8 = N := ⟨_, rfl⟩
      rw [eN] at KN bN HNX
      clear eN eq
      have hw8 : IntKind.u8.wrap (N : Int) = (N : Int) := by
        rw [IntKind.wrap_u8']
        omega
      go_wp2_with (first | (go_at_call 31; refine (KN.out _ HBL.out).mono ?_; rintro e w' ⟨rfl, rfl⟩) | (at_builtin; refine wpList_append_one (c := byteVal) rfl _ _ 28 rfl (W.heap.size + 2) 5 (.int .u8 0) Try.underlying28 info8 rfl (fun _ => rfl) _ m (bytesAt L t m) rfl (HO.out.alloc _) wr.heap.size N rfl ?c1 hm2 (by simp; omega) ?_))
      case c1 => simp [byteVal]
      intro v' w3 hown' hgrow
      have hown'' : w3.ownsRow (W.heap.size + 2) 5 1 v' (m + 1) ((bytesAt L t (m + 1)).map byteVal) := by
        rw [HNX.out]
        simpa using hown'
      have hb2 : Below (W.heap.size + 2) wr w3 := ((Below.refl _ _).alloc hsz _).grown hgrow (by simp; omega) (fun q hq => (HO.out.lt q hq).1)
      clear hown' hgrow
      obtain ⟨o3, c3, rfl⟩ := listed_length (own_listed (c := byteVal) hown'')
      have hbm : (bytesAt L t (m + 1)).length = m + 1 := bytesAt_length _ _ _
      rw [hbm] at hown'' ⊢
      have HOWN := Lib.hid hown''
      have HB2 := Lib.hid hb2
      have hC0 := (hb2.block W.heap.size (by omega)).trans HB0.out
      have hC1 := (hb2.block (W.heap.size + 1) (by omega)).trans HB1.out
      clear q0 q1 q2 q3 f0 f1 f2 f3 hown'' hb2 hbm
      have q1 := cell_of_block hC0 1
      have f1 := unfrozen_of_block hC0 1
      have HC0 := Lib.hid hC0
      have HC1 := Lib.hid hC1
      have H8 := Lib.hid h8
      clear hC0 hC1
      go_wp2_with fail
      go_roundw
      case rel =>
        have e1 : t + (m + 1) = q + 1 := by have := EQ.out; omega
        have hN0 : (w3.setCell ⟨W.heap.size, 1, none⟩ (.int .i64 ((q : Int) + 1))).heap[W.heap.size]? = some (.cells #[.slice vo n vc, .int .i64 ((q + 1 : Nat) : Int)] 40 (0, 0)) := block_setCell HC0.out _
        refine ⟨m + 1, by rw [e1]; exact H8.out, ownsRow_setCell_below HOWN.out (by show W.heap.size < W.heap.size + 2; omega) _, by rw [e1]; exact hN0, ?_, ?_, ?_⟩
        · rw [Below.heap_setCell _ _ _ _ (by show W.heap.size + 1 ≠ W.heap.size; omega)]
          exact HC1.out
        · exact (HBL.out.trans (HB2.out.mono (by omega))).setCell (p := ⟨W.heap.size, 1, none⟩) (Nat.le_refl _) _
        · have := HB2.out.size
          simp
          omega
      case measure =>
        have h1 := H8.out
        have h2 := EQ.out
        simp [sliceLen]
        omega
    · have hd : decide (8 * ((q : Int) + 1) ≤ (n : Int)) = false := decide_eq_false (by omega)
      have hq : q = n / 8 := by omega
      have HQ := Lib.hid hq
      have hmm : n / 8 - t = m := by omega
      have HM := Lib.hid hmm
      clear hq hmm eq h8
      go_wp2_with fail
      refine bodyPost_ret (v := .tuple #[.agg #[.slice vo n vc, .int .i64 (q : Int)], .slice oo m oc]) ?_ rfl ⟨_, by rw [← HQ.out], ?_, fun b hb => Nat.le_trans (by omega) (HFR.out b hb), ?_⟩
      · rw [results_cell_tmp rfl]
        simp [asAddr, Result.andThen, go_sem, q2, q3]
      · rw [HM.out]
        refine listed_kept HROW.out (Nat.le_of_eq (by simp)) (fun b hb => ?_)
        have hge := HFR.out b hb
        rw [Below.heap_setCell _ _ _ b (by show b ≠ W.heap.size + 1; omega), Below.heap_setCell _ _ _ b (by show b ≠ W.heap.size + 1; omega)]
      · exact (HBL.out.setCell (p := ⟨W.heap.size + 1, 0, none⟩) (Nat.le_succ _) _).setCell (p := ⟨W.heap.size + 1, 1, none⟩) (Nat.le_succ _) _
theorem array11 {α : Type} {l : Array α} (h : l.size = 11) : ∃ b0 b1 b2 b3 b4 b5 b6 b7 b8 b9 b10, l = #[b0, b1, b2, b3, b4, b5, b6, b7, b8, b9, b10] := by
  obtain ⟨l⟩ := l
  match l, h with
  | [b0, b1, b2, b3, b4, b5, b6, b7, b8, b9, b10], _ => exact ⟨b0, b1, b2, b3, b4, b5, b6, b7, b8, b9, b10, rfl⟩
/-- Behind the call of Put; behind the store of what it handed back. -/
def Mid (wr : World) (X : List Bool) (u : Value) (w : World) : Prop := bools w u X ∧ (∀ b, inBlock u b → wr.heap.size ≤ b) ∧ Below wr.heap.size wr w
def Fin (W wr : World) (X : List Bool) (u : Value) (w : World) : Prop := bools w u X ∧ (∀ b, inBlock u b → wr.heap.size ≤ b) ∧ w.heap[W.heap.size]? = some (.cells #[.slice none 0 0, .int .i64 0] 50 (0, 0)) ∧ w.heap[W.heap.size + 1]? = some (.cells #[u, .int .i64 0] 40 (0, 0)) ∧ W.heap.size + 2 ≤ w.heap.size
structure Stage (W wr : World) (X : List Bool) (u : Value) (b6 b10 : Bool) (w : World) : Prop where
  before : b6 = false → Below wr.heap.size wr w
  mid : b6 = true → b10 = false → Mid wr X u w
  fin : b10 = true → Fin W wr X u w
  base : Below W.heap.size W w
theorem fin_store {W wr w : World} {X : List Bool} {o2 : Option Addr} {n2 c2 : Nat} {x : Value} (h1 : bools w (.slice o2 n2 c2) X) (h2 : ∀ b, inBlock (.slice o2 n2 c2) b → wr.heap.size ≤ b) (h3 : Below wr.heap.size wr w) (h4 : Below W.heap.size W w) (hsz : W.heap.size + 2 ≤ wr.heap.size)
    (hC0 : w.heap[W.heap.size]? = some (.cells #[.slice none 0 0, .int .i64 0] 50 (0, 0))) (hC1 : w.heap[W.heap.size + 1]? = some (.cells #[x, .int .i64 0] 40 (0, 0))) :
    Stage W wr X (.slice o2 n2 c2) true true ((w.setCell ⟨W.heap.size + 1, 0, none⟩ (.slice o2 n2 c2)).setCell ⟨W.heap.size + 1, 1, none⟩ (.int .i64 0)) := by
  refine ⟨by simp, by simp, fun _ => ⟨?_, h2, ?_, block_setCell (block_setCell hC1 _) _, ?_⟩, (h4.setCell (p := ⟨W.heap.size + 1, 0, none⟩) (Nat.le_succ _) _).setCell (p := ⟨W.heap.size + 1, 1, none⟩) (Nat.le_succ _) _⟩
  · refine listed_kept h1 (Nat.le_of_eq (by simp)) (fun b hb => ?_)
    have hge := h2 b hb
    rw [Below.heap_setCell _ _ _ b (by show b ≠ W.heap.size + 1; omega), Below.heap_setCell _ _ _ b (by show b ≠ W.heap.size + 1; omega)]
  · rw [Below.heap_setCell _ _ _ _ (by show W.heap.size ≠ W.heap.size + 1; omega), Below.heap_setCell _ _ _ _ (by show W.heap.size ≠ W.heap.size + 1; omega)]
    exact hC0
  · have := h3.size
    simp
    omega
set_option maxHeartbeats 4000000 in
set_option maxRecDepth 100000 in
theorem rnew_any (v : Value) (zs : List Nat) (W : World) (hr : bytesIn W v zs) (h8 : ∀ b ∈ zs, b < 256) (hl : zs.length ≤ 34359738368) :
    Calls Try.prog 24 #[v] W fun e w' => ∃ u, e = .returned (.agg #[u, .int .i64 0]) ∧ bools w' u (bitsOfBytes zs) ∧ (∀ b, inBlock u b → W.heap.size ≤ b) ∧ Below W.heap.size W w' := by
  have hlen := fun w => listed_len (u := 3) Try.underlying28 hr w
  have HR := Lib.hid hr
  have H8 := Lib.hid h8
  obtain ⟨n, en⟩ : ∃ n, zs.length = n := ⟨_, rfl⟩
  have EN := Lib.hid en
  rw [en] at hlen hl
  clear hr h8 en
  obtain ⟨w1, e1⟩ : ∃ w1, w1 = (W.alloc (.cells #[.slice none 0 0, .int .i64 0] 50)).alloc (.cells #[.slice none 0 0, .int .i64 0] 40) := ⟨_, rfl⟩
  have hs0 : (W.alloc (.cells #[.slice none 0 0, .int .i64 0] 50)).heap.size = W.heap.size + 1 := by
    show (W.heap.push _).size = _
    simp
  have hs1 : w1.heap.size = W.heap.size + 2 := by
    rw [e1]
    show ((W.alloc _).heap.push _).size = _
    rw [Array.size_push, hs0]
  have hB0 : w1.heap[W.heap.size]? = some (.cells #[.slice none 0 0, .int .i64 0] 50 (0, 0)) := by
    rw [e1]
    exact alloc_old (heap_alloc_new W _)
  have hB1 : w1.heap[W.heap.size + 1]? = some (.cells #[.slice none 0 0, .int .i64 0] 40 (0, 0)) := by
    rw [e1, ← hs0]
    exact heap_alloc_new _ _
  have hbl : Below W.heap.size W w1 := by
    rw [e1]
    exact below_two W _ _
  clear hs0
  have HS1 := Lib.hid hs1
  clear hs1
  go_enter Try.func24, Try.ntmps24
  go_wp2_with fail
  rw [← e1]
  clear e1
  go_loopw [4] (fun i wr => ∃ (k : Nat) (u : Value), k ≤ n ∧ i = .int .i64 k ∧ bools wr u (bitsOfBytes (zs.take k)) ∧ wr.heap[W.heap.size]? = some (.cells #[.slice none 0 0, .int .i64 0] 50 (0, 0)) ∧ wr.heap[W.heap.size + 1]? = some (.cells #[u, .int .i64 0] 40 (0, 0)) ∧ (∀ b, inBlock u b → W.heap.size + 2 ≤ b) ∧ Below W.heap.size W wr ∧ W.heap.size + 2 ≤ wr.heap.size) (fun i _ => n - (intOf i).toNat)
  case atStart =>
    refine ⟨0, .slice none 0 0, Nat.zero_le _, rfl, ?_, hB0, hB1, fun b hb => ?_, hbl, by have := HS1.out; omega⟩
    · rw [List.take_zero]
      exact listed_none _ _
    · obtain ⟨off, m, cap, h, _⟩ := hb
      cases h
  case round =>
    clear hB0 hB1 hbl HS1
    obtain ⟨k, u, hk, rfl, hu, hB0, hB1, hfr, hbl, hsz⟩ := hrel
    have HU := Lib.hid hu
    have HFR := Lib.hid hfr
    have HBL := Lib.hid hbl
    obtain ⟨uo, uc, rfl⟩ := listed_length hu
    have hbl8 : (bitsOfBytes (zs.take k)).length = 8 * k := by
      rw [bitsOfBytes_length, List.length_take, EN.out, Nat.min_eq_left hk]
    obtain ⟨m, em⟩ : ∃ m, (bitsOfBytes (zs.take k)).length = m := ⟨_, rfl⟩
    have EM := Lib.hid em
    rw [em] at hB1 HFR hbl8
    have HBL8 := Lib.hid hbl8
    clear hbl8
    have HB0 := Lib.hid hB0
    have HB1 := Lib.hid hB1
    clear hu hfr hbl em
    have q0 := cell_of_block hB0 0
    have q1 := cell_of_block hB0 1
    have q2 := cell_of_block hB1 0
    have q3 := cell_of_block hB1 1
    have f0 := unfrozen_of_block hB0 0
    have f1 := unfrozen_of_block hB0 1
    have f2 := unfrozen_of_block hB1 0
    have f3 := unfrozen_of_block hB1 1
    have hne : ¬ W.heap.size = W.heap.size + 1 := by omega
    clear hB0 hB1
    by_cases hkn : k < n
    · have hd : decide ((k : Int) < (n : Int)) = true := decide_eq_true (by omega)
      have hkz : k < zs.length := by rw [EN.out]; exact hkn
      obtain ⟨z, ez⟩ : ∃ z, zs[k]? = some z := ⟨zs[k], List.getElem?_eq_getElem hkz⟩
      obtain ⟨b, off, cap, rfl, hlt, hcell⟩ := listed_cell HR.out k z ez
      unfold byteVal at hcell
      have HCELL := Lib.hid hcell
      have hcell := (HBL.out.cell (p := ⟨b, off + k, none⟩) hlt).trans hcell
      rw [EN.out]
      have hz : z < 256 := H8.out z (List.mem_of_getElem? ez)
      have HT : Hid (bitsOfBytes (zs.take (k + 1)) = bitsOfBytes (zs.take k) ++ bitsOf z 8) := by
        show _ = _
        rw [List.take_add_one, ez, Option.toList_some, bitsOfBytes_snoc]
      have hk0 : (0 : Int) ≤ (k : Int) := by omega
      have hk1 : (k : Int) < (n : Int) := by omega
      clear ez hkz
      have hm40 : m ≤ 274877906944 := by have := HBL8.out; omega
      have hw32 : IntKind.u32.wrap (z : Int) = (z : Int) := by
        rw [IntKind.wrap_u32']
        omega
      have KP : Hid (∀ w', Below wr.heap.size wr w' → Calls Try.prog 21 #[.agg #[.slice uo m uc, .int .i64 0], .int .u32 (z : Int), .int .i64 8] w' fun e w'' =>
          ∃ u2 c2, e = .returned (.tuple #[.agg #[.slice u2 (m + 8) c2, .int .i64 0], .int .i64 0]) ∧ Hid (bools w'' (.slice u2 (m + 8) c2) (bitsOfBytes (zs.take k) ++ bitsOf z 8) ∧ (∀ b, inBlock (.slice u2 (m + 8) c2) b → wr.heap.size ≤ b) ∧ Below wr.heap.size wr w'')) := fun w' hb => by
        have hu := HU.out
        rw [EM.out] at hu
        refine (rput_any (.slice uo m uc) (bitsOfBytes (zs.take k)) 0 z 8 w' (listed_on hu hb) (by rw [EM.out]; omega) (by omega) hz).mono ?_
        rintro e w'' ⟨u2, rfl, h1, h2, h3⟩
        obtain ⟨o2, c2, rfl⟩ := listed_length h1
        have hl2 : (bitsOfBytes (zs.take k) ++ bitsOf z 8).length = m + 8 := by rw [List.length_append, bitsOf_length, EM.out]
        rw [hl2] at h1 h2 ⊢
        exact ⟨o2, c2, rfl, h1, fun b hb2 => Nat.le_trans hb.size (h2 b hb2), hb.trans (h3.mono hb.size)⟩
      go_wp2_with fail
      clear hcell q0 q1 q2 q3 f0 f1 f2 f3
      refine wp_region_inv (fun a0 l a w' => ∃ (u13 u14 u15 u16 u17 u18 u19 u12 u20 u21 : Value) (o2 : Option Addr) (c2 : Nat), a = ((((((((((a0.put (some 13) u13).put (some 14) u14).put (some 15) u15).put (some 16) u16).put (some 17) u17).put (some 18) u18).put (some 19) u19).put (some 12) u12).put (some 20) u20).put (some 21) u21) ∧ (l.getD 0 false = true → u13 = .agg #[.slice uo m uc, .int .i64 0]) ∧ (l.getD 1 false = true → u14 = .slice (some ⟨b, off, none⟩) n cap) ∧ (l.getD 2 false = true → u15 = .int .i64 (k : Int)) ∧ (l.getD 3 false = true → u16 = .pointer (some ⟨b, off + k, none⟩)) ∧ (l.getD 4 false = true → u17 = .int .u8 (z : Int)) ∧ (l.getD 5 false = true → u18 = .int .u32 (z : Int)) ∧ (l.getD 6 false = true → u19 = .tuple #[.agg #[.slice o2 (m + 8) c2, .int .i64 0], .int .i64 0]) ∧ (l.getD 7 false = true → u12 = .tuple #[.agg #[.slice o2 (m + 8) c2, .int .i64 0], .int .i64 0]) ∧ (l.getD 8 false = true → u20 = .agg #[.slice o2 (m + 8) c2, .int .i64 0]) ∧ (l.getD 9 false = true → u21 = .int .i64 0) ∧ (l.getD 6 false = true → l.getD 0 false = true) ∧ (l.getD 10 false = true → l.getD 6 false = true) ∧ (l.getD 7 false = true → l.getD 6 false = true) ∧ (l.getD 8 false = true → l.getD 7 false = true) ∧ (l.getD 9 false = true → l.getD 7 false = true) ∧ Hid (Stage W wr (bitsOfBytes (zs.take k) ++ bitsOf z 8) (.slice o2 (m + 8) c2) (l.getD 6 false) (l.getD 10 false) w')) (by kernel_rfl) (by kernel_rfl) ?start ?step ?fin
      case start =>
        refine ⟨u13, u14, u15, u16, u17, u18, u19, u12, u20, u21, none, 0, by simp [Act.put], by simp, by simp, by simp, by simp, by simp, by simp, by simp, by simp, by simp, by simp, by simp, by simp, by simp, by simp, by simp, Lib.hid ?_⟩
        exact ⟨fun _ => (Below.refl _ _).drew, by simp, by simp, HBL.out.drew⟩
      case step =>
        intro l a wx i hl hlt hi hd hInv
        obtain ⟨p0, p1, p2, p3, p4, p5, p6, p7, p8, p9, p10, rfl⟩ := array11 hl
        obtain ⟨u13, u14, u15, u16, u17, u18, u19, u12, u20, u21, o2, c2, rfl, h0, h1, h2, h3, h4, h5, h6, h7, h8, h9, hc1, hc2, hc3, hc4, hc5, HW⟩ := hInv
        clear hl
        have hcs : i = 0 ∨ i = 1 ∨ i = 2 ∨ i = 3 ∨ i = 4 ∨ i = 5 ∨ i = 6 ∨ i = 7 ∨ i = 8 ∨ i = 9 ∨ i = 10 := by have : i < 11 := hlt; omega
        clear hlt
        rcases hcs with rfl | rfl | rfl | rfl | rfl | rfl | rfl | rfl | rfl | rfl | rfl
        · clear hd
          have hi : p0 = false := by first | (simp; done) | simpa using hi
          subst hi
          have h6f : p6 = false := by simpa using hc1
          have hbx := HW.out.before h6f
          have q2 := cell_of_block ((hbx.block (W.heap.size + 1) (by omega)).trans HB1.out) 0
          have q3 := cell_of_block ((hbx.block (W.heap.size + 1) (by omega)).trans HB1.out) 1
          refine wpOp_step rfl (fun K hK => ?_)
          go_simp
          refine hK _ _ ?_
          refine ⟨(.agg #[.slice uo m uc, .int .i64 0]), u14, u15, u16, u17, u18, u19, u12, u20, u21, o2, c2, by simp [Act.put], fun _ => rfl, by first | (simp; done) | simpa using h1, by first | (simp; done) | simpa using h2, by first | (simp; done) | simpa using h3, by first | (simp; done) | simpa using h4, by first | (simp; done) | simpa using h5, by first | (simp; done) | simpa using h6, by first | (simp; done) | simpa using h7, by first | (simp; done) | simpa using h8, by first | (simp; done) | simpa using h9, by simp, by first | (simp; done) | simpa using hc2, by first | (simp; done) | simpa using hc3, by first | (simp; done) | simpa using hc4, by first | (simp; done) | simpa using hc5, Lib.hid ?_⟩
          simpa using HW.out
        · clear hd
          have hi : p1 = false := by first | (simp; done) | simpa using hi
          subst hi
          refine wpOp_step rfl (fun K hK => ?_)
          go_simp
          refine hK _ _ ?_
          refine ⟨u13, (.slice (some ⟨b, off, none⟩) n cap), u15, u16, u17, u18, u19, u12, u20, u21, o2, c2, by simp [Act.put], by first | (simp; done) | simpa using h0, fun _ => rfl, by first | (simp; done) | simpa using h2, by first | (simp; done) | simpa using h3, by first | (simp; done) | simpa using h4, by first | (simp; done) | simpa using h5, by first | (simp; done) | simpa using h6, by first | (simp; done) | simpa using h7, by first | (simp; done) | simpa using h8, by first | (simp; done) | simpa using h9, by first | (simp; done) | simpa using hc1, by first | (simp; done) | simpa using hc2, by first | (simp; done) | simpa using hc3, by first | (simp; done) | simpa using hc4, by first | (simp; done) | simpa using hc5, Lib.hid ?_⟩
          simpa using HW.out
        · clear hd
          have hi : p2 = false := by first | (simp; done) | simpa using hi
          subst hi
          refine wpOp_step rfl (fun K hK => ?_)
          go_simp
          refine hK _ _ ?_
          refine ⟨u13, u14, (.int .i64 (k : Int)), u16, u17, u18, u19, u12, u20, u21, o2, c2, by simp [Act.put], by first | (simp; done) | simpa using h0, by first | (simp; done) | simpa using h1, fun _ => rfl, by first | (simp; done) | simpa using h3, by first | (simp; done) | simpa using h4, by first | (simp; done) | simpa using h5, by first | (simp; done) | simpa using h6, by first | (simp; done) | simpa using h7, by first | (simp; done) | simpa using h8, by first | (simp; done) | simpa using h9, by first | (simp; done) | simpa using hc1, by first | (simp; done) | simpa using hc2, by first | (simp; done) | simpa using hc3, by first | (simp; done) | simpa using hc4, by first | (simp; done) | simpa using hc5, Lib.hid ?_⟩
          simpa using HW.out
        · simp [depsB, Region.binds] at hd
          have hi : p3 = false := by first | (simp; done) | simpa using hi
          subst hi
          obtain rfl := h1 (by simp [hd])
          obtain rfl := h2 (by simp [hd])
          refine wpOp_step rfl (fun K hK => ?_)
          go_simp
          refine hK _ _ ?_
          refine ⟨u13, (.slice (some ⟨b, off, none⟩) n cap), (.int .i64 (k : Int)), (.pointer (some ⟨b, off + k, none⟩)), u17, u18, u19, u12, u20, u21, o2, c2, by simp [Act.put], by first | (simp; done) | simpa using h0, fun _ => rfl, fun _ => rfl, fun _ => rfl, by first | (simp; done) | simpa using h4, by first | (simp; done) | simpa using h5, by first | (simp; done) | simpa using h6, by first | (simp; done) | simpa using h7, by first | (simp; done) | simpa using h8, by first | (simp; done) | simpa using h9, by first | (simp; done) | simpa using hc1, by first | (simp; done) | simpa using hc2, by first | (simp; done) | simpa using hc3, by first | (simp; done) | simpa using hc4, by first | (simp; done) | simpa using hc5, Lib.hid ?_⟩
          simpa using HW.out
        · simp [depsB, Region.binds] at hd
          have hi : p4 = false := by first | (simp; done) | simpa using hi
          subst hi
          obtain rfl := h3 (by simp [hd])
          have hcell := (HW.out.base.cell (p := ⟨b, off + k, none⟩) hlt).trans HCELL.out
          refine wpOp_step rfl (fun K hK => ?_)
          go_simp
          refine hK _ _ ?_
          refine ⟨u13, u14, u15, (.pointer (some ⟨b, off + k, none⟩)), (.int .u8 (z : Int)), u18, u19, u12, u20, u21, o2, c2, by simp [Act.put], by first | (simp; done) | simpa using h0, by first | (simp; done) | simpa using h1, by first | (simp; done) | simpa using h2, fun _ => rfl, fun _ => rfl, by first | (simp; done) | simpa using h5, by first | (simp; done) | simpa using h6, by first | (simp; done) | simpa using h7, by first | (simp; done) | simpa using h8, by first | (simp; done) | simpa using h9, by first | (simp; done) | simpa using hc1, by first | (simp; done) | simpa using hc2, by first | (simp; done) | simpa using hc3, by first | (simp; done) | simpa using hc4, by first | (simp; done) | simpa using hc5, Lib.hid ?_⟩
          simpa using HW.out
        · simp [depsB, Region.binds] at hd
          have hi : p5 = false := by first | (simp; done) | simpa using hi
          subst hi
          obtain rfl := h4 (by simp [hd])
          refine wpOp_step rfl (fun K hK => ?_)
          go_simp
          refine hK _ _ ?_
          refine ⟨u13, u14, u15, u16, (.int .u8 (z : Int)), (.int .u32 (z : Int)), u19, u12, u20, u21, o2, c2, by simp [Act.put], by first | (simp; done) | simpa using h0, by first | (simp; done) | simpa using h1, by first | (simp; done) | simpa using h2, by first | (simp; done) | simpa using h3, fun _ => rfl, fun _ => rfl, by first | (simp; done) | simpa using h6, by first | (simp; done) | simpa using h7, by first | (simp; done) | simpa using h8, by first | (simp; done) | simpa using h9, by first | (simp; done) | simpa using hc1, by first | (simp; done) | simpa using hc2, by first | (simp; done) | simpa using hc3, by first | (simp; done) | simpa using hc4, by first | (simp; done) | simpa using hc5, Lib.hid ?_⟩
          simpa using HW.out
        · simp [depsB, Region.binds] at hd
          have hi : p6 = false := by first | (simp; done) | simpa using hi
          subst hi
          obtain rfl := h0 (by simp [hd])
          obtain rfl := h5 (by simp [hd])
          have h10f : p10 = false := by first | (simp; done) | simpa using hc2
          subst h10f
          have h7f : p7 = false := by first | (simp; done) | simpa using hc3
          have h8f : p8 = false := by
            subst h7f
            simpa using hc4
          subst h7f h8f
          have hbx := HW.out.before rfl
          refine wpOp_step rfl (fun K hK => ?_)
          go_simp
          go_at_call 21
          with_reducible refine (KP.out _ hbx).mono ?_
          rintro e w2 ⟨o2', c2', rfl, HP⟩
          go_simp
          refine hK _ _ ?_
          refine ⟨(.agg #[.slice uo m uc, .int .i64 0]), u14, u15, u16, u17, (.int .u32 (z : Int)), (.tuple #[.agg #[.slice o2' (m + 8) c2', .int .i64 0], .int .i64 0]), u12, u20, u21, o2', c2', by simp [Act.put], fun _ => rfl, by first | (simp; done) | simpa using h1, by first | (simp; done) | simpa using h2, by first | (simp; done) | simpa using h3, by first | (simp; done) | simpa using h4, fun _ => rfl, fun _ => rfl, by first | (simp; done) | simpa using h7, by first | (simp; done) | simpa using h8, by first | (simp; done) | simpa using h9, fun _ => by simp [hd], by simp, by simp, by first | (simp; done) | simpa using hc4, by first | (simp; done) | simpa using hc5, Lib.hid ?_⟩
          exact ⟨by simp, fun _ _ => HP.out, by simp, HBL.out.trans (HP.out.2.2.mono (by omega))⟩
        · simp [depsB, Region.binds] at hd
          have hi : p7 = false := by first | (simp; done) | simpa using hi
          subst hi
          obtain rfl := h6 (by simp [hd])
          refine wpOp_step rfl (fun K hK => ?_)
          go_simp
          refine hK _ _ ?_
          refine ⟨u13, u14, u15, u16, u17, u18, (.tuple #[.agg #[.slice o2 (m + 8) c2, .int .i64 0], .int .i64 0]), (.tuple #[.agg #[.slice o2 (m + 8) c2, .int .i64 0], .int .i64 0]), u20, u21, o2, c2, by simp [Act.put], by first | (simp; done) | simpa using h0, by first | (simp; done) | simpa using h1, by first | (simp; done) | simpa using h2, by first | (simp; done) | simpa using h3, by first | (simp; done) | simpa using h4, by first | (simp; done) | simpa using h5, fun _ => rfl, fun _ => rfl, by first | (simp; done) | simpa using h8, by first | (simp; done) | simpa using h9, by first | (simp; done) | simpa using hc1, by first | (simp; done) | simpa using hc2, by simp [hd], by simp, by simp, Lib.hid ?_⟩
          simpa using HW.out
        · simp [depsB, Region.binds] at hd
          have hi : p8 = false := by first | (simp; done) | simpa using hi
          subst hi
          obtain rfl := h7 (by simp [hd])
          refine wpOp_step rfl (fun K hK => ?_)
          go_simp
          refine hK _ _ ?_
          refine ⟨u13, u14, u15, u16, u17, u18, u19, (.tuple #[.agg #[.slice o2 (m + 8) c2, .int .i64 0], .int .i64 0]), (.agg #[.slice o2 (m + 8) c2, .int .i64 0]), u21, o2, c2, by simp [Act.put], by first | (simp; done) | simpa using h0, by first | (simp; done) | simpa using h1, by first | (simp; done) | simpa using h2, by first | (simp; done) | simpa using h3, by first | (simp; done) | simpa using h4, by first | (simp; done) | simpa using h5, by first | (simp; done) | simpa using h6, fun _ => rfl, fun _ => rfl, by first | (simp; done) | simpa using h9, by first | (simp; done) | simpa using hc1, by first | (simp; done) | simpa using hc2, by first | (simp; done) | simpa using hc3, by simp [hd], by first | (simp; done) | simpa using hc5, Lib.hid ?_⟩
          simpa using HW.out
        · simp [depsB, Region.binds] at hd
          have hi : p9 = false := by first | (simp; done) | simpa using hi
          subst hi
          obtain rfl := h7 (by simp [hd])
          refine wpOp_step rfl (fun K hK => ?_)
          go_simp
          refine hK _ _ ?_
          refine ⟨u13, u14, u15, u16, u17, u18, u19, (.tuple #[.agg #[.slice o2 (m + 8) c2, .int .i64 0], .int .i64 0]), u20, (.int .i64 0), o2, c2, by simp [Act.put], by first | (simp; done) | simpa using h0, by first | (simp; done) | simpa using h1, by first | (simp; done) | simpa using h2, by first | (simp; done) | simpa using h3, by first | (simp; done) | simpa using h4, by first | (simp; done) | simpa using h5, by first | (simp; done) | simpa using h6, fun _ => rfl, by first | (simp; done) | simpa using h8, fun _ => rfl, by first | (simp; done) | simpa using hc1, by first | (simp; done) | simpa using hc2, by first | (simp; done) | simpa using hc3, by first | (simp; done) | simpa using hc4, by simp [hd], Lib.hid ?_⟩
          simpa using HW.out
        · simp [depsB, Region.binds] at hd
          have hi : p10 = false := by first | (simp; done) | simpa using hi
          subst hi
          obtain rfl := h0 (by simp [hd])
          obtain rfl := h1 (by simp [hd])
          obtain rfl := h2 (by simp [hd])
          obtain rfl := h3 (by simp [hd])
          obtain rfl := h4 (by simp [hd])
          obtain rfl := h5 (by simp [hd])
          obtain rfl := h6 (by simp [hd])
          obtain rfl := h7 (by simp [hd])
          obtain rfl := h8 (by simp [hd])
          have h6t : p6 = true := by simp [hd]
          subst h6t
          obtain ⟨hm1, hm2, hm3⟩ := HW.out.mid rfl rfl
          have hC0 := (hm3.block W.heap.size (by omega)).trans HB0.out
          have hC1 := (hm3.block (W.heap.size + 1) (by omega)).trans HB1.out
          have q2 := cell_of_block hC1 0
          have q3 := cell_of_block hC1 1
          have f2 := unfrozen_of_block hC1 0
          have f3 := unfrozen_of_block hC1 1
          refine wpOp_step rfl (fun K hK => ?_)
          go_simp
          refine hK _ _ ?_
          refine ⟨(.agg #[.slice uo m uc, .int .i64 0]), (.slice (some ⟨b, off, none⟩) n cap), (.int .i64 (k : Int)), (.pointer (some ⟨b, off + k, none⟩)), (.int .u8 (z : Int)), (.int .u32 (z : Int)), (.tuple #[.agg #[.slice o2 (m + 8) c2, .int .i64 0], .int .i64 0]), (.tuple #[.agg #[.slice o2 (m + 8) c2, .int .i64 0], .int .i64 0]), (.agg #[.slice o2 (m + 8) c2, .int .i64 0]), u21, o2, c2, by simp [Act.put], by first | (simp; done) | simpa using h0, by first | (simp; done) | simpa using h1, by first | (simp; done) | simpa using h2, by first | (simp; done) | simpa using h3, by first | (simp; done) | simpa using h4, by first | (simp; done) | simpa using h5, by first | (simp; done) | simpa using h6, by first | (simp; done) | simpa using h7, fun _ => rfl, by first | (simp; done) | simpa using h9, by first | (simp; done) | simpa using hc1, by simp, by first | (simp; done) | simpa using hc3, by first | (simp; done) | simpa using hc4, by first | (simp; done) | simpa using hc5, Lib.hid ?_⟩
          exact fin_store hm1 hm2 hm3 HW.out.base hsz hC0 hC1
      case fin =>
        intro l a wx hl hall hInv
        obtain ⟨p0, p1, p2, p3, p4, p5, p6, p7, p8, p9, p10, rfl⟩ := array11 hl
        obtain ⟨u13, u14, u15, u16, u17, u18, u19, u12, u20, u21, o2, c2, rfl, h0, h1, h2, h3, h4, h5, h6, h7, h8, h9, hc1, hc2, hc3, hc4, hc5, HW⟩ := hInv
        have ha : ∀ j, j < 11 → (#[p0, p1, p2, p3, p4, p5, p6, p7, p8, p9, p10] : Array Bool).getD j false = true := hall
        have HFIN := Lib.hid (HW.out.fin (ha 10 (by decide)))
        have HBW := Lib.hid HW.out.base
        clear hall ha hl h0 h1 h2 h3 h4 h5 h6 h7 h8 h9 hc1 hc2 hc3 hc4 hc5 HW
        go_simp
        go_wp2_with fail
        go_roundw
        case rel => exact ⟨k + 1, .slice o2 (m + 8) c2, by omega, by go_num, by rw [HT.out]; exact HFIN.out.1, HFIN.out.2.2.1, HFIN.out.2.2.2.1, fun b hb => Nat.le_trans hsz (HFIN.out.2.1 b hb), HBW.out, HFIN.out.2.2.2.2⟩
        case measure => simp [intOf]; omega
    · have hd : decide ((k : Int) < (n : Int)) = false := decide_eq_false (by omega)
      obtain rfl : k = n := by omega
      have HT : Hid (zs.take k = zs) := by
        show zs.take k = zs
        rw [← EN.out, List.take_length]
      go_wp2_with fail
      refine bodyPost_ret (v := .agg #[.slice uo m uc, .int .i64 0]) (by simp [results, Try.results24, asAddr, Result.andThen, go_sem, q0, q1]) rfl ⟨_, rfl, ?_, fun b hb => Nat.le_trans (by omega) (HFR.out b hb), ?_⟩
      · have hu := HU.out
        rw [EM.out, HT.out] at hu
        refine listed_kept hu (Nat.le_of_eq (by simp)) (fun b hb => ?_)
        have hge := HFR.out b hb
        rw [Below.heap_setCell _ _ _ b (by show b ≠ W.heap.size; omega), Below.heap_setCell _ _ _ b (by show b ≠ W.heap.size; omega)]
      · exact (HBL.out.setCell (p := ⟨W.heap.size, 0, none⟩) (Nat.le_refl _) _).setCell (p := ⟨W.heap.size, 1, none⟩) (Nat.le_refl _) _
end Go.Proofs.Ytenaokijjancgaa.Fx
