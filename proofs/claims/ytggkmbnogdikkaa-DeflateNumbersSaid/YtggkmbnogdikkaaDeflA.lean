/-
  The chapter's examples, as each statement asks them (awake). The conditions stand in each.
-/
import Derived.Test.YtggkmbnogdikkaaWinQ
import Derived.Test.YtggkmbnogdikkaaBytes
import Derived.Test.YtggkmbnogdikkaaDeflY
namespace Go.Proofs.Ytggkmbnogdikkaa.Fx
open Go Go.RowKit Go.Joins
set_option linter.unusedVariables false
theorem listed_row {α : Type} {c : α → Value} (w : World) (vals : Array Value) (ty : TypeId) (fr : Nat × Nat) (zs : List α) (cap : Nat) (hv : vals.toList = zs.map c) (hle : zs.length ≤ cap) : listed c (w.alloc (.cells vals ty fr)) (.slice (some ⟨w.heap.size, 0, none⟩) zs.length cap) zs := by
  refine .inr ⟨w.heap.size, 0, cap, rfl, ?_, hle, fun j z hj => ?_⟩
  · show _ < (w.heap.push _).size
    simp
  · rw [Nat.zero_add, cell_of_block (heap_alloc_new w _) j, ← Array.getElem?_toList, hv, List.getElem?_map, hj]
    rfl
theorem listed_drew {α : Type} {c : α → Value} {w : World} {v : Value} {zs : List α} (h : listed c w v zs) : listed c w.drew v zs := listed_on h (Below.refl _ _).drew
set_option maxHeartbeats 1600000 in
set_option maxRecDepth 100000 in
theorem each_code (W : World) : Calls Try.prog 28 #[] W fun e w' => ∃ u, e = .returned u ∧ bytesIn w' u (List.range 256) ∧ (∀ b, inBlock u b → W.heap.size ≤ b) ∧ Below W.heap.size W w' := by
  obtain ⟨N, eN⟩ : ∃ N, N = 256 := ⟨_, rfl⟩
  have HN := Lib.hid eN
  rw [← eN]
  clear eN
  go_enter Try.func28, Try.ntmps28
  go_wp2_with fail
  go_loopw [1, 2] (fun u i wr => ∃ k : Nat, k ≤ N ∧ i = .int .i64 k ∧ Hid (wr.ownsRow W.heap.size 5 1 u k ((List.range k).map byteVal)) ∧ Hid (Below W.heap.size W wr)) (fun _ i _ => N - (intOf i).toNat)
  case atStart => exact ⟨0, Nat.zero_le _, rfl, World.ownsRow_nil _ _ _ _, Below.refl _ _⟩
  case round =>
    obtain ⟨k, hk, rfl, hown, hbl⟩ := hrel
    obtain ⟨uo, uc, eu⟩ := row_shape hown.out
    subst eu
    by_cases hkl : k < N
    · have hd : decide ((k : Int) < 256) = true := decide_eq_true (by have := HN.out; omega)
      have hdn : decide (k < 256) = true := decide_eq_true (by have := HN.out; omega)
      have hwr : IntKind.u8.wrap (k : Int) = (k : Int) := by
        have := HN.out
        simp [IntKind.wrap, IntKind.signed, IntKind.bits]
        omega
      have HT : Hid (List.range (k + 1) = List.range k ++ [k]) := List.range_succ
      have k1 : (k : Int) < 256 := by have := HN.out; omega
      have hNk : N ≤ 256 := by have := HN.out; omega
      go_wp2_with (at_builtin; refine wpList_append_one (c := byteVal) rfl _ _ 25 rfl W.heap.size 5 (.int .u8 0) Try.underlying25 infoByte rfl (fun _ => rfl) (.slice uo k uc) k (List.range k) rfl (hown.out.alloc _) wr.heap.size k rfl (cell_of_block (heap_alloc_new wr _) 0) (by omega) (by have := hbl.out.size; simp; omega) ?_)
      intro v' w5 hown5 hgrow5
      have hb5 : Below W.heap.size W w5 := (hbl.out.alloc hbl.out.size _).grown hgrow5 (by have := hbl.out.size; simp; omega) (fun q hq => (hown.out.lt q hq).1)
      have HO5 : Hid (w5.ownsRow W.heap.size 5 1 v' (k + 1) ((List.range (k + 1)).map byteVal)) := by
        show World.ownsRow _ _ _ _ _ _ _
        rw [HT.out]
        simpa using hown5
      have HB5 := Lib.hid hb5
      clear hown5 hgrow5 hb5
      go_wp2_with fail
      go_roundw
      case rel => exact ⟨k + 1, by omega, by go_num, HO5, HB5⟩
      case measure => simp [intOf]; omega
    · have hd : decide ((k : Int) < 256) = false := decide_eq_false (by have := HN.out; omega)
      have hdn : decide (k < 256) = false := decide_eq_false (by have := HN.out; omega)
      obtain rfl : k = N := by omega
      go_wp2_with fail
      go_ret
      exact ⟨_, rfl, own_listed hown.out, fun b hb => own_fresh hown.out b hb, hbl.out⟩
set_option maxHeartbeats 1600000 in
theorem is_code (s : ByteArray) (zs : List Nat) (W : World) (v : Value) (hs : numsOf s = zs) (hv : bytesIn W v (wholeOf zs)) (hl : zs.length ≤ 100000000) :
    Calls Try.prog 29 #[.string s, v] W fun e w' => e = .returned (.bool true) ∧ Below W.heap.size W w' := by
  obtain ⟨x, w1, c1, hx, hf, hb⟩ := run_bytes s W
  rw [hs] at hx
  have h8 := numsOf_lt s
  rw [hs] at h8
  have HX := Lib.hid hx
  have HF := Lib.hid hf
  have HB := Lib.hid hb
  have HV := Lib.hid hv
  have H8 := Lib.hid h8
  clear hs hx hf hb hv h8
  go_enter Try.func29, Try.ntmps29
  go_wp2_with fail
  go_at_call 10
  refine (whole_code w1 x zs HX.out H8.out hl).mono ?_
  rintro e w2 ⟨u, rfl, hu, _, hb2⟩
  have HB2 := Lib.hid (HB.out.trans (hb2.mono HB.out.size))
  have HU := Lib.hid hu
  clear hu hb2
  go_wp2_with fail
  go_at_call 9
  refine (same_yes u v (wholeOf zs) w2 HU.out (listed_on HV.out HB2.out)).mono ?_
  rintro e w3 ⟨rfl, rfl⟩
  go_wp2_with fail
  go_ret
  exact ⟨rfl, HB2.out⟩
theorem below_one {w w' : World} {c : Obj} (h : Below (w.alloc c).heap.size (w.alloc c) w') : Below w.heap.size w w' :=
  (below_alloc1 w c).trans (h.mono (by show _ ≤ (w.heap.push _).size; simp))
theorem same_front (W w X : World) (front : Value) (a : Nat) (hf : Hid (bytesIn W front [1, 0, 1, 255, 254])) (ha : w.heap.size = a) (hX : X = w.alloc (.cells #[.int .u8 1, .int .u8 0, .int .u8 1, .int .u8 255, .int .u8 254] 5) ∨ X = (w.alloc (.cells #[.int .u8 1, .int .u8 0, .int .u8 1, .int .u8 255, .int .u8 254] 5)).drew) (hb : Below W.heap.size W w) :
    Calls Try.prog 9 #[front, .slice (some ⟨a, 0, none⟩) 5 5] X fun e w' => e = .returned (.bool true) ∧ X = w' := by
  subst ha
  have h1 : bytesIn X (.slice (some ⟨w.heap.size, 0, none⟩) 5 5) [1, 0, 1, 255, 254] ∧ Below w.heap.size w X := by
    rcases hX with rfl | rfl
    · exact ⟨listed_row w _ _ _ [1, 0, 1, 255, 254] 5 rfl (Nat.le_refl _), below_alloc1 w _⟩
    · exact ⟨listed_drew (listed_row w _ _ _ [1, 0, 1, 255, 254] 5 rfl (Nat.le_refl _)), (below_alloc1 w _).drew⟩
  exact same_yes _ _ _ _ (listed_on hf.out (hb.trans (h1.2.mono hb.size))) h1.1
theorem hid_step {a b c : World} (h2 : Below b.heap.size b c) (h1 : Below a.heap.size a b) : Hid (Below a.heap.size a c) := h1.trans (h2.mono h1.size)
theorem range_bytes : ∀ x ∈ List.range 256, x < 256 := fun x hx => List.mem_range.1 hx
set_option maxRecDepth 100000 in
theorem ex_front : ([1, 0, 1, 255, 254] ++ List.range 256).take 5 = [1, 0, 1, 255, 254] ∧ ([1, 0, 1, 255, 254] ++ List.range 256).drop 5 = List.range 256 ∧ ([1, 0, 1, 255, 254] ++ List.range 256).length = 261 := ⟨by rfl, by rfl, by simp⟩
theorem is_new (W w X : World) (s : ByteArray) (zs want : List Nat) (vals : Array Value) (n : Nat) (hX : X = w.alloc (.cells vals 5) ∨ X = (w.alloc (.cells vals 5)).drew) (c1 : numsOf s = zs) (c2 : wholeOf zs = want) (c3 : vals.toList = want.map byteVal) (c4 : want.length = n) (c5 : zs.length ≤ 100) (hb : Below W.heap.size W w) :
    Calls Try.prog 29 #[.string s, .slice (some ⟨w.heap.size, 0, none⟩) n n] X fun e w' => e = .returned (.bool true) ∧ Hid (Below W.heap.size W w') := by
  subst c4
  have h1 : bytesIn X (.slice (some ⟨w.heap.size, 0, none⟩) want.length want.length) want ∧ Below w.heap.size w X := by
    rcases hX with rfl | rfl
    · exact ⟨listed_row w _ _ _ want _ c3 (Nat.le_refl _), below_alloc1 w _⟩
    · exact ⟨listed_drew (listed_row w _ _ _ want _ c3 (Nat.le_refl _)), (below_alloc1 w _).drew⟩
  refine (is_code s zs _ _ c1 (by rw [c2]; exact h1.1) (by omega)).mono ?_
  rintro e w' ⟨rfl, h⟩
  exact ⟨rfl, hb.trans ((h1.2.trans (h.mono h1.2.size)).mono hb.size)⟩
theorem is_none (W w X : World) (a : Nat) (ha : w.heap.size = a) (hX : X = w.alloc (.cells #[.int .u8 3, .int .u8 0] 5) ∨ X = (w.alloc (.cells #[.int .u8 3, .int .u8 0] 5)).drew) (hb : Below W.heap.size W w) :
    Calls Try.prog 29 #[.string { data := #[] }, .slice (some ⟨a, 0, none⟩) 2 2] X fun e w' => e = .returned (.bool true) ∧ Hid (Below W.heap.size W w') := by
  subst ha
  exact is_new W w X _ [] [3, 0] _ _ hX rfl ex_none rfl rfl (by decide) hb
theorem is_one (W w X : World) (a : Nat) (ha : w.heap.size = a) (hX : X = w.alloc (.cells #[.int .u8 75, .int .u8 4, .int .u8 0] 5) ∨ X = (w.alloc (.cells #[.int .u8 75, .int .u8 4, .int .u8 0] 5)).drew) (hb : Below W.heap.size W w) :
    Calls Try.prog 29 #[.string { data := #[97] }, .slice (some ⟨a, 0, none⟩) 3 3] X fun e w' => e = .returned (.bool true) ∧ Hid (Below W.heap.size W w') := by
  subst ha
  exact is_new W w X _ [97] [75, 4, 0] _ _ hX rfl ex_one rfl rfl (by decide) hb
theorem is_ten (W w X : World) (a : Nat) (ha : w.heap.size = a) (hX : X = w.alloc (.cells #[.int .u8 75, .int .u8 132, .int .u8 3, .int .u8 0] 5) ∨ X = (w.alloc (.cells #[.int .u8 75, .int .u8 132, .int .u8 3, .int .u8 0] 5)).drew) (hb : Below W.heap.size W w) :
    Calls Try.prog 29 #[.string { data := #[97, 97, 97, 97, 97, 97, 97, 97, 97, 97] }, .slice (some ⟨a, 0, none⟩) 4 4] X fun e w' => e = .returned (.bool true) ∧ Hid (Below W.heap.size W w') := by
  subst ha
  exact is_new W w X _ [97, 97, 97, 97, 97, 97, 97, 97, 97, 97] [75, 132, 3, 0] _ _ hX rfl ex_ten rfl rfl (by decide) hb
set_option maxHeartbeats 400000 in
set_option maxRecDepth 100000 in
theorem awake_any (W : World) : Calls Try.prog 13 #[] W fun e w' => e = .returned (.bool true) ∧ Below W.heap.size W w' := by
  go_enter Try.func13, Try.ntmps13
  go_wp2_with fail
  go_at_call 28
  refine (each_code W).mono ?_
  rintro e w1 ⟨u, rfl, hu, hfu, hb1⟩
  go_wp2_with fail
  go_at_call 10
  refine (whole_code w1 u (List.range 256) hu range_bytes (by simp)).mono ?_
  rintro e w2 ⟨b, rfl, hb, hfb, hb2⟩
  rw [ex_each] at hb
  generalize hR : List.range 256 = R at *
  have HB := Lib.hid (hb1.trans (hb2.mono hb1.size))
  obtain ⟨front, hsf, hf, _⟩ := listed_take bytes_type bytes_one hb 5 (by simp)
  obtain ⟨rest, hsr, hr, _⟩ := listed_drop bytes_type bytes_one hb 5 (by simp)
  have hlen := fun w => listed_len (u := 3) Try.underlying25 hb w
  have hx := ex_front
  rw [hR] at hx
  rw [hx.2.2] at hlen
  rw [hx.1] at hf
  rw [hx.2.1] at hr
  have HF := Lib.hid hf
  have HR := Lib.hid hr
  have hs5 : ∀ w, (Instr.slice 25 b none (some (.int .i64 5)) none).run Try.prog w = .ok front w := hsf
  have hd5 : ∀ w, (Instr.slice 25 b (some (.int .i64 5)) none none).run Try.prog w = .ok rest w := hsr
  have hl5 : ∀ w, (Builtin.len_ #[25] 3 #[b]).run Try.prog w = .ok (.int .i64 261) w := hlen
  clear hsf hsr hlen
  clear hx hf hr hb hb1 hb2 hfb hfu hu
  go_wp2_with fail
  have HC : Hid (Below w2.heap.size w2 w2) := Below.refl _ _
  go_region_held3 (fun w' => Below w2.heap.size w2 w') (first | (with_reducible assumption) | (repeat (first | exact HC.out | refine Below.drew ?_ | refine Below.alloc ?_ HC.out.size _))) (first | (go_at_call 29; with_reducible refine (is_none w2 (_) (_) (_) (by exact rfl) (by with_reducible first | exact .inl rfl | exact .inr rfl) (by repeat (first | exact HC.out | refine Below.drew ?_))).mono ?_; rintro e w9 ⟨rfl, HC⟩) | (go_at_call 29; with_reducible refine (is_one w2 (_) (_) (_) (by exact rfl) (by with_reducible first | exact .inl rfl | exact .inr rfl) (by repeat (first | exact HC.out | refine Below.drew ?_))).mono ?_; rintro e w9 ⟨rfl, HC⟩) | (go_at_call 29; with_reducible refine (is_ten w2 (_) (_) (_) (by exact rfl) (by with_reducible first | exact .inl rfl | exact .inr rfl) (by repeat (first | exact HC.out | refine Below.drew ?_))).mono ?_; rintro e w9 ⟨rfl, HC⟩) | (go_at_call 9; with_reducible refine (same_front w2 (_) (_) _ (_) HF (by exact rfl) (by with_reducible first | exact .inl rfl | exact .inr rfl) (by repeat (first | exact HC.out | refine Below.drew ?_))).mono ?_; rintro e w8 ⟨rfl, rfl⟩) | (go_at_call 28; with_reducible refine (each_code _).mono ?_; rintro e w9 ⟨u9, rfl, hu9, _, hb9⟩; rw [hR] at hu9; have HE := Lib.hid hu9; have HC := hid_step hb9 (by (repeat (first | exact HC.out | refine Below.drew ?_ | refine Below.alloc ?_ HC.out.size _)))) | (go_at_call 9; with_reducible refine (same_yes _ _ R _ (listed_on HR.out (by (repeat (first | exact HC.out | refine Below.drew ?_ | refine Below.alloc ?_ HC.out.size _)))) (by repeat (first | exact HE.out | refine listed_drew ?_))).mono ?_; rintro e w8 ⟨rfl, rfl⟩))
  all_goals go_wp2_with fail
  all_goals go_ret
  all_goals exact ⟨rfl, HB.out.trans (Below.mono (by (repeat (first | exact HC.out | refine Below.drew ?_ | refine Below.alloc ?_ HC.out.size _))) HB.out.size)⟩
end Go.Proofs.Ytggkmbnogdikkaa.Fx
