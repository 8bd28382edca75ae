/-
  The chapter's examples, plain: by calculation.
  The chapter's examples, as each statement asks them (awake). The conditions stand in each.
-/
import Derived.WalkKit
import Derived.Test.YtbhmjppnhlmefaaDoorInfP
import Derived.Test.YtbhmjppnhlmefaaDoorInfO
namespace Go.Proofs.YtbhmjppnhlmefaaDoor.Fx
open Go
set_option maxRecDepth 100000 in
theorem exi_none : Says blocksW (bitsOfBytes [3, 0]) 9 ⟨0, []⟩ (.ok () ⟨10, []⟩) := ⟨20, by kernel_rfl⟩
set_option maxRecDepth 100000 in
theorem exi_one : Says blocksW (bitsOfBytes [75, 4, 0]) 9 ⟨0, []⟩ (.ok () ⟨18, [97]⟩) := ⟨20, by kernel_rfl⟩
set_option maxRecDepth 100000 in
theorem exi_ten : Says blocksW (bitsOfBytes [75, 132, 3, 0]) 10 ⟨0, []⟩ (.ok () ⟨30, [97, 97, 97, 97, 97, 97, 97, 97, 97, 97]⟩) := ⟨20, by kernel_rfl⟩
set_option maxRecDepth 100000 in
theorem exi_long : Says blocksW (bitsOfBytes [75, 132, 3, 0]) 9 ⟨0, []⟩ (.err 3) := ⟨20, by kernel_rfl⟩
set_option maxRecDepth 100000 in
theorem exi_seven : Says blocksW (bitsOfBytes [1, 1, 0, 254, 255, 7]) 1 ⟨0, []⟩ (.ok () ⟨48, [7]⟩) := ⟨20, by kernel_rfl⟩
set_option maxRecDepth 100000 in
theorem exi_kind : Says blocksW (bitsOfBytes [7]) 9 ⟨0, []⟩ (.err 10) := ⟨20, by kernel_rfl⟩
set_option maxRecDepth 100000 in
theorem exi_empty : Says blocksW (bitsOfBytes []) 9 ⟨0, []⟩ (.err 12) := ⟨20, by kernel_rfl⟩
set_option maxRecDepth 100000 in
theorem exi_short : Says blocksW (bitsOfBytes [75]) 9 ⟨0, []⟩ (.err 12) := ⟨20, by kernel_rfl⟩
set_option maxRecDepth 100000 in
theorem exi_not : Says blocksW (bitsOfBytes [1, 1, 0, 255, 255]) 9 ⟨0, []⟩ (.err 10) := ⟨20, by kernel_rfl⟩
end Go.Proofs.YtbhmjppnhlmefaaDoor.Fx
namespace Go.Proofs.YtbhmjppnhlmefaaDoor.Fx
open Go Go.RowKit Go.Joins
set_option linter.unusedVariables false
theorem listed_new {α : Type} {c : α → Value} (w : World) (vals : Array Value) (ty : TypeId) (fr : Nat × Nat) (zs : List α) (cap : Nat) (hv : vals.toList = zs.map c) (hle : zs.length ≤ cap) : listed c (w.alloc (.cells vals ty fr)) (.slice (some ⟨w.heap.size, 0, none⟩) zs.length cap) zs := by
  refine .inr ⟨w.heap.size, 0, cap, rfl, ?_, hle, fun j z hj => ?_⟩
  · show _ < (w.heap.push _).size
    simp
  · rw [Nat.zero_add, cell_of_block (heap_alloc_new w _) j, ← Array.getElem?_toList, hv, List.getElem?_map, hj]
    rfl
theorem listed_drawn {α : Type} {c : α → Value} {w : World} {v : Value} {zs : List α} (h : listed c w v zs) : listed c w.drew v zs := listed_on h (Below.refl _ _).drew
theorem LaidOrder.below {W w : World} (h : LaidOrder W) (hb : Below W.heap.size W w) : LaidOrder w := h.went (Past.of_below hb : Past (fun _ => False) _ _) (fun h => h)
set_option maxHeartbeats 1600000 in
theorem isInf_code (W : World) (b : Value) (zs : List Nat) (most : Nat) (t : St) (s : ByteArray) (n : Nat) (hr : bytesIn W b zs) (h8 : ∀ x ∈ zs, x < 256) (hz : zs.length ≤ 100) (hl : LaidOrder W) (hm : most ≤ 100) (hs : Says blocksW (bitsOfBytes zs) most ⟨0, []⟩ (.ok () t)) (ht : textOf t.out = s) (hn : (t.pos + 7) / 8 = n) :
    Calls Tryd.prog 19 #[b, .int .i64 (most : Int), .string s, .int .i64 (n : Int)] W fun e w' => e = .returned (.bool true) ∧ Below W.heap.size W w' := by
  have KI := inflate_code W b zs (most : Int) hr h8 (by omega) hl (by omega) (by omega)
  rw [Int.toNat_natCast] at KI
  have HS := Lib.hid hs
  have HT := Lib.hid ht
  have HN := Lib.hid hn
  clear hr h8 hz hl hm hs ht hn
  go_enter Tryd.func19, Tryd.ntmps19
  go_wp2_with fail
  go_at_call 13
  refine KI.mono ?_
  clear KI
  rintro e w1 (⟨t1, v, h1, rfl, hown, hb⟩ | ⟨k, h1, _⟩)
  · have h2 := Way.says_one h1 HS.out
    cases h2
    rw [HN.out]
    have c1 := convert_text (own_listed hown)
    rw [HT.out] at c1
    have HB := Lib.hid hb
    clear h1 hown hb
    go_wp2_with fail
    go_ret
    exact ⟨by simp, HB.out⟩
  · have h2 := Way.says_one h1 HS.out
    cases h2
set_option maxHeartbeats 1600000 in
theorem wrong_code (W : World) (b : Value) (zs : List Nat) (most : Nat) (k : Nat) (hr : bytesIn W b zs) (h8 : ∀ x ∈ zs, x < 256) (hz : zs.length ≤ 100) (hl : LaidOrder W) (hm : most ≤ 100) (hs : Says blocksW (bitsOfBytes zs) most ⟨0, []⟩ (.err k)) :
    Calls Tryd.prog 20 #[.int .i64 (most : Int), .int .i64 (k : Int), b] W fun e w' => e = .returned (.bool true) ∧ Below W.heap.size W w' := by
  have KI := inflate_code W b zs (most : Int) hr h8 (by omega) hl (by omega) (by omega)
  rw [Int.toNat_natCast] at KI
  have HS := Lib.hid hs
  clear hr h8 hz hl hm hs
  go_enter Tryd.func20, Tryd.ntmps20
  go_wp2_with fail
  go_at_call 13
  refine KI.mono ?_
  clear KI
  rintro e w1 (⟨t1, v, h1, _⟩ | ⟨k1, h1, _, _, rfl, hb⟩)
  · have h2 := Way.says_one h1 HS.out
    cases h2
  · have h2 := Way.says_one h1 HS.out
    cases h2
    have HB := Lib.hid hb
    clear h1 hb
    go_wp2_with fail
    go_ret
    exact ⟨by simp, HB.out⟩
theorem row_new {w X : World} {vals : Array Value} {zs : List Nat} {n : Nat} (hX : X = w.alloc (.cells vals 5) ∨ X = (w.alloc (.cells vals 5)).drew) (c3 : vals.toList = zs.map byteVal) (c4 : zs.length = n) :
    bytesIn X (.slice (some ⟨w.heap.size, 0, none⟩) n n) zs ∧ Below w.heap.size w X := by
  subst c4
  rcases hX with rfl | rfl
  · exact ⟨listed_new w _ _ _ zs _ c3 (Nat.le_refl _), below_alloc1 w _⟩
  · exact ⟨listed_drawn (listed_new w _ _ _ zs _ c3 (Nat.le_refl _)), (below_alloc1 w _).drew⟩
theorem isInf_new (W w X : World) (zs : List Nat) (vals : Array Value) (m most n : Nat) (t : St) (s : ByteArray) (hs : Says blocksW (bitsOfBytes zs) most ⟨0, []⟩ (.ok () t)) (ht : textOf t.out = s) (hn : (t.pos + 7) / 8 = n) (c3 : vals.toList = zs.map byteVal) (c4 : zs.length = m) (c8 : ∀ x ∈ zs, x < 256) (c5 : zs.length ≤ 100) (hm : most ≤ 100) (hl : LaidOrder W) (hX : X = w.alloc (.cells vals 5) ∨ X = (w.alloc (.cells vals 5)).drew) (hb : Below W.heap.size W w) :
    Calls Tryd.prog 19 #[.slice (some ⟨w.heap.size, 0, none⟩) m m, .int .i64 (most : Int), .string s, .int .i64 (n : Int)] X fun e w' => e = .returned (.bool true) ∧ Hid (Below W.heap.size W w') := by
  have h1 := row_new hX c3 c4
  refine (isInf_code X _ zs most t s n h1.1 c8 c5 (hl.below (hb.trans (h1.2.mono hb.size))) hm hs ht hn).mono ?_
  rintro e w' ⟨rfl, h⟩
  exact ⟨rfl, hb.trans ((h1.2.trans (h.mono h1.2.size)).mono hb.size)⟩
theorem wrong_new (W w X : World) (zs : List Nat) (vals : Array Value) (m most k : Nat) (hs : Says blocksW (bitsOfBytes zs) most ⟨0, []⟩ (.err k)) (c3 : vals.toList = zs.map byteVal) (c4 : zs.length = m) (c8 : ∀ x ∈ zs, x < 256) (c5 : zs.length ≤ 100) (hm : most ≤ 100) (hl : LaidOrder W) (hX : X = w.alloc (.cells vals 5) ∨ X = (w.alloc (.cells vals 5)).drew) (hb : Below W.heap.size W w) :
    Calls Tryd.prog 20 #[.int .i64 (most : Int), .int .i64 (k : Int), .slice (some ⟨w.heap.size, 0, none⟩) m m] X fun e w' => e = .returned (.bool true) ∧ Hid (Below W.heap.size W w') := by
  have h1 := row_new hX c3 c4
  refine (wrong_code X _ zs most k h1.1 c8 c5 (hl.below (hb.trans (h1.2.mono hb.size))) hm hs).mono ?_
  rintro e w' ⟨rfl, h⟩
  exact ⟨rfl, hb.trans ((h1.2.trans (h.mono h1.2.size)).mono hb.size)⟩
set_option maxHeartbeats 1600000 in
set_option maxRecDepth 100000 in
theorem awakeInf_any (W : World) (hl : LaidOrder W) : Calls Tryd.prog 7 #[] W fun e w' => e = .returned (.bool true) ∧ Below W.heap.size W w' := by
  have HL := Lib.hid hl
  have HB : Hid (Below W.heap.size W W) := Below.refl _ _
  clear hl
  go_enter Tryd.func7, Tryd.ntmps7
  go_wp2_with fail
  go_at_call 19
  refine (isInf_new W W _ [3, 0] #[.int .u8 3, .int .u8 0] 2 9 2 _ _ exi_none (by rfl) (by rfl) (by rfl) rfl (by decide) (by decide) (by decide) HL.out (by first | exact .inl rfl | exact .inr rfl) HB.out).mono ?_
  rintro e w1 ⟨rfl, HB1⟩
  go_wp2_with fail
  go_at_call 19
  refine (isInf_new W w1 _ [75, 4, 0] #[.int .u8 75, .int .u8 4, .int .u8 0] 3 9 3 _ _ exi_one (by rfl) (by rfl) (by rfl) rfl (by decide) (by decide) (by decide) HL.out (by first | exact .inl rfl | exact .inr rfl) HB1.out).mono ?_
  rintro e w2 ⟨rfl, HB2⟩
  go_wp2_with fail
  go_at_call 19
  refine (isInf_new W w2 _ [75, 132, 3, 0] #[.int .u8 75, .int .u8 132, .int .u8 3, .int .u8 0] 4 10 4 _ _ exi_ten (by rfl) (by rfl) (by rfl) rfl (by decide) (by decide) (by decide) HL.out (by first | exact .inl rfl | exact .inr rfl) HB2.out).mono ?_
  rintro e w3 ⟨rfl, HB3⟩
  go_wp2_with fail
  go_at_call 20
  refine (wrong_new W w3 _ [75, 132, 3, 0] #[.int .u8 75, .int .u8 132, .int .u8 3, .int .u8 0] 4 9 3 exi_long (by rfl) rfl (by decide) (by decide) (by decide) HL.out (by first | exact .inl rfl | exact .inr rfl) HB3.out).mono ?_
  rintro e w4 ⟨rfl, HB4⟩
  go_wp2_with fail
  go_at_call 19
  refine (isInf_new W w4 _ [1, 1, 0, 254, 255, 7] #[.int .u8 1, .int .u8 1, .int .u8 0, .int .u8 254, .int .u8 255, .int .u8 7] 6 1 6 _ _ exi_seven (by rfl) (by rfl) (by rfl) rfl (by decide) (by decide) (by decide) HL.out (by first | exact .inl rfl | exact .inr rfl) HB4.out).mono ?_
  rintro e w5 ⟨rfl, HB5⟩
  go_wp2_with fail
  go_at_call 20
  refine (wrong_new W w5 _ [7] #[.int .u8 7] 1 9 10 exi_kind (by rfl) rfl (by decide) (by decide) (by decide) HL.out (by first | exact .inl rfl | exact .inr rfl) HB5.out).mono ?_
  rintro e w6 ⟨rfl, HB6⟩
  go_wp2_with fail
  go_at_call 20
  refine (wrong_code _ _ [] 9 12 (.inl ⟨⟨none, 0, rfl, fun _ => rfl⟩, rfl⟩) (by decide) (by decide) (HL.out.below HB6.out) (by decide) exi_empty).mono ?_
  rintro e w7 ⟨rfl, hb7⟩
  have HB7 : Hid (Below W.heap.size W w7) := HB6.out.trans (hb7.mono HB6.out.size)
  clear hb7
  go_wp2_with fail
  go_at_call 20
  refine (wrong_new W w7 _ [75] #[.int .u8 75] 1 9 12 exi_short (by rfl) rfl (by decide) (by decide) (by decide) HL.out (by first | exact .inl rfl | exact .inr rfl) HB7.out).mono ?_
  rintro e w8 ⟨rfl, HB8⟩
  go_wp2_with fail
  go_at_call 20
  refine (wrong_new W w8 _ [1, 1, 0, 255, 255] #[.int .u8 1, .int .u8 1, .int .u8 0, .int .u8 255, .int .u8 255] 5 9 10 exi_not (by rfl) rfl (by decide) (by decide) (by decide) HL.out (by first | exact .inl rfl | exact .inr rfl) HB8.out).mono ?_
  rintro e w9 ⟨rfl, HB9⟩
  go_wp2_with fail
  go_ret
  exact ⟨rfl, HB9.out⟩
end Go.Proofs.YtbhmjppnhlmefaaDoor.Fx
