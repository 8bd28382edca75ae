/-
  Inflate, as landed. The conditions stand in it.
-/
import Derived.Deep.QuietTactic
import Derived.BigQuiet
import Derived.Test.YtbfpbmnnlckldaaDoorInfE2
namespace Go.Proofs.YtbfpbmnnlckldaaDoor.Fx
open Go Go.RowKit Go.Joins
set_option linter.unusedVariables false
theorem at_is (w : World) (v : Value) (l : List Bool) (t : Nat) (O : Nat → Prop) (h : isR w v l t O) : Calls Tryd.prog 50 #[v] w fun e w' => e = .returned (.int .i64 (t : Int)) ∧ w' = w := by
  obtain ⟨g, g', s, zs, hh, _⟩ := h
  obtain ⟨rfl, h1, h2, h3⟩ := hh
  have q0 := cell_of_block h1 0
  have q1 := cell_of_block h2 1
  clear h1 h2 h3
  go_enter Tryd.func50, Tryd.ntmps50
  go_wp2_with fail
  go_ret
  first | exact ⟨rfl, rfl⟩ | simp
theorem own_higher {w : World} {B : Nat} {v : Value} {n : Nat} {xs : List Value} (h : w.ownsRow 0 5 1 v n xs) (hB : ∀ k, v.ownBlock = some k → B ≤ k) : w.ownsRow B 5 1 v n xs := by
  refine ⟨h.1, ?_⟩
  rcases h.2 with hn | ⟨g, cap, cur, rfl, hb, rest⟩
  · exact .inl hn
  · exact .inr ⟨g, cap, cur, rfl, hB g rfl, rest⟩
theorem whole_start {W w1 : World} {r : Value} {zs : List Nat} {R : Nat → Prop} {m : Nat} (hl : LaidOrder W) (h1 : isR w1 r (bitsOfBytes zs) 0 R) (h2 : ∀ k, R k → W.heap.size ≤ k) (hb : Below W.heap.size W w1) :
    ∃ O, Whole (w1.alloc (.cells #[r, .slice none 0 0, .int .i64 (m : Int), .pointer none] 103)) w1.heap.size (bitsOfBytes zs) m ⟨0, []⟩ (.pointer none) O (fun _ => False) ∧ (∀ k, O k → W.heap.size ≤ k) ∧ Below W.heap.size W (w1.alloc (.cells #[r, .slice none 0 0, .int .i64 (m : Int), .pointer none] 103)) := by
  have hb1 : Below w1.heap.size w1 (w1.alloc (.cells #[r, .slice none 0 0, .int .i64 (m : Int), .pointer none] 103)) := (Below.refl _ _).alloc (Nat.le_refl _) _
  have hlt := isR_lt _ _ _ _ _ h1
  have hl0 := World.block_lt_of_cell? W _ (hl 0 (by decide))
  have hb2 := hb.trans (hb1.mono hb.size)
  refine ⟨fun k => k = w1.heap.size ∨ R k ∨ (Value.slice none 0 0).ownBlock = some k, ⟨⟨r, .slice none 0 0, R, heap_alloc_new _ _, isR_keep _ _ _ _ _ _ h1 hb1.size (fun k hk => hb1.block k (hlt k hk)), World.ownsRow_nil _ _ _ _, fun hr => by have := hlt _ hr; omega, by simp [Value.ownBlock], fun k hk => by simp [Value.ownBlock], rfl⟩, .inl rfl, fun k hk => hk.elim, ?_, ?_⟩, ?_, hb2⟩
  · exact hl.went (Past.of_below hb2 : Past (fun _ => False) _ _) (fun h => h)
  · rintro (h | h | h)
    · have := hb.size; simp only at hl0; omega
    · have := h2 _ h; simp only at hl0; omega
    · simp [Value.ownBlock] at h
  · rintro k (rfl | hk | hk)
    · exact hb.size
    · exact h2 k hk
    · simp [Value.ownBlock] at hk
set_option maxHeartbeats 2000000 in
set_option maxRecDepth 100000 in
theorem inflate_code (W : World) (bv : Value) (zs : List Nat) (most : Int) (hr : bytesIn W bv zs) (h8 : ∀ x ∈ zs, x < 256) (hz : zs.length ≤ 34359738368) (hl : LaidOrder W) (hm1 : -9223372036854775808 ≤ most) (hm2 : most ≤ 1099511627776) :
    Calls Tryd.prog 35 #[bv, .int .i64 most] W (InflTo zs most.toNat W) := by
  have hmax := fun w => max_two most 0 w
  have e0 : max most 0 = ((most.toNat : Nat) : Int) := by omega
  rw [e0] at hmax
  have HM : Hid (most.toNat ≤ 1099511627776) := by show _ ≤ _; omega
  obtain ⟨m, em⟩ : ∃ m, most.toNat = m := ⟨_, rfl⟩
  rw [em] at hmax HM ⊢
  have KR := rnew_code W bv zs hr h8 hz
  have HL : Hid ((bitsOfBytes zs).length ≤ 1099511627776) := by show _ ≤ _; rw [bitsOfBytes_length]; omega
  have HL8 : Hid ((bitsOfBytes zs).length % 8 = 0) := by show _ = _; rw [bitsOfBytes_length]; omega
  have HLA := Lib.hid hl
  clear e0 em hr h8 hz hl hm1 hm2
  go_enter Tryd.func35, Tryd.ntmps35
  go_wp2_with fail
  go_at_call 48
  refine KR.mono ?_
  clear KR
  rintro e w1 ⟨r, R, rfl, h1, h2, h3⟩
  obtain ⟨O, hw, hO, hb⟩ := whole_start (m := m) HLA.out h1 h2 h3
  have HW := Lib.hid hw
  have HO := Lib.hid hO
  have HB := Lib.hid hb
  have KB := blocks_go _ _ (bitsOfBytes zs) m ⟨0, []⟩ _ O _ hw HM.out (Nat.zero_le _) HL.out HL8.out
  obtain ⟨g2, g2', s2, zs2, hh, _⟩ := id h1
  obtain rfl := hh.val
  clear hh h1 h2 h3 hw hO hb
  go_wp2_with fail
  go_at_call 49
  refine KB.mono ?_
  clear KB
  rintro e w3 (⟨t, fx, O3, hs, rfl, h1, h2⟩ | ⟨k, hs, rfl, hp⟩)
  · have HS := Lib.hid hs
    have hB3 : Below W.heap.size W w3 := HB.out.trans (h2.past.below HO.out HB.out.size)
    have HB3 := Lib.hid hB3
    have HN3 : Hid (∀ k, O3 k → W.heap.size ≤ k) := fun k hk => (h2.own k hk).elim (HO.out k) (fun h => Nat.le_trans HB.out.size h)
    obtain ⟨r3, v3, R3, hst⟩ := h1
    have q0 := cell_of_block hst.obj 0
    have q1 := cell_of_block hst.obj 1
    have hpos := isR_le hst.rd
    have hpl : t.pos ≤ 1099511627776 := Nat.le_trans hpos HL.out
    have KA : ∀ n, Calls Tryd.prog 50 #[r3] (w3.drewN n) fun e w' => e = .returned (.int .i64 (t.pos : Int)) ∧ w' = w3.drewN n := fun n => at_is (w3.drewN n) r3 _ t.pos R3 (isR_keep _ _ _ _ _ _ hst.rd (Nat.le_refl _) (fun _ _ => rfl))
    have hROW : Hid (w3.ownsRow W.heap.size 5 1 v3 t.out.length (t.out.map byteVal)) := own_higher hst.row (fun k hk => HN3.out k (by rw [hst.own]; exact .inr (.inr hk)))
    obtain ⟨vo3, vc3, rfl⟩ := row_shape hst.row
    obtain ⟨g3, g3', s3, zs3, hh3, _⟩ := id hst.rd
    obtain rfl := hh3.val
    have HT : Hid ((t.pos + 7) / 8 * 1 = (t.pos + 7) / 8) := Nat.mul_one _
    obtain ⟨P, eP⟩ : ∃ P, t.pos = P := ⟨_, rfl⟩
    have EP := Lib.hid eP
    rw [eP] at KA hpl
    have hw7 : IntKind.i64.wrap ((P : Int) + 7) = ((P + 7 : Nat) : Int) := by
      rw [IntKind.wrap_i64]
      omega
    obtain ⟨P7, eP7⟩ : ∃ x, P + 7 = x := ⟨_, rfl⟩
    have EP7 := Lib.hid eP7
    rw [eP7] at hw7
    have hw7' : (P : Int) + 7 = (P7 : Int) := by omega
    have hq : (P7 : Int).tdiv 8 = ((P7 / 8 : Nat) : Int) := by
      rw [Int.tdiv_eq_ediv_of_nonneg (by omega)]
      rfl
    obtain ⟨Q, eQ⟩ : ∃ x, P7 / 8 = x := ⟨_, rfl⟩
    have EQ := Lib.hid eQ
    rw [eQ] at hq
    have hqw : IntKind.i64.wrap (Q : Int) = (Q : Int) := by
      rw [IntKind.wrap_i64]
      omega
    have hPw : IntKind.i64.wrap (P7 : Int) = (P7 : Int) := by
      rw [IntKind.wrap_i64]
      omega
    clear hs hB3 h2 hst hpos hh3 eP eP7 eQ
    go_wp2_with fail
    go_quiet ((go_at_call 50; exact Calls.quiet_of_same (KA _)))
    go_wp2_with fail
    refine bodyPost_ret (v := .tuple #[.slice vo3 t.out.length vc3, .int .i64 (Q : Int), .int .i64 0]) (by simp [results, Tryd.results35, asAddr, go_sem]) rfl ?_
    have hPQ : (t.pos + 7) / 8 = Q := by rw [EP.out, EP7.out, EQ.out]
    exact .inl ⟨t, _, HS.out, by rw [hPQ], hROW.out, HB3.out.os, HB3.out.tape, HB3.out.output, HB3.out.size, HB3.out.block⟩
  · have HK := errs_blocks _ _ _ _ hs
    have HB3 : Hid (Below W.heap.size W w3) := HB.out.trans (hp.below HO.out HB.out.size)
    have f1 : ((k : Int) == 0) = false := by simp; omega
    have f2 : decide ((k : Int) = 0) = false := decide_eq_false (by omega)
    have f3 : ((k : Int) != 0) = true := by simp; omega
    go_wp2_with fail
    refine bodyPost_ret (v := .tuple #[.slice none 0 0, .int .i64 0, .int .i64 (k : Int)]) (by simp [results, Tryd.results35, asAddr, go_sem]) rfl ?_
    exact .inr ⟨k, hs, HK.1, HK.2, rfl, HB3.out⟩
end Go.Proofs.YtbfpbmnnlckldaaDoor.Fx
