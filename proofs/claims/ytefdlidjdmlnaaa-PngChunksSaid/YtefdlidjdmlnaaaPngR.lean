/-
  The document's own table and order; two lists of numbers that are alike. The conditions stand in each.
-/
import Derived.Test.YtefdlidjdmlnaaaPngL
import Derived.BigQuiet
namespace Go.Proofs.Ytefdlidjdmlnaaa.Fx
open Go Go.RowKit Go.Joins
set_option linter.unusedVariables false
def tableText : ByteArray := ⟨#[49, 54, 52, 54, 50, 54, 52, 54, 55, 55, 55, 55, 55, 55, 55, 55, 53, 54, 53, 54, 53, 54, 53, 54, 55, 55, 55, 55, 55, 55, 55, 55, 51, 54, 52, 54, 51, 54, 52, 54, 55, 55, 55, 55, 55, 55, 55, 55, 53, 54, 53, 54, 53, 54, 53, 54, 55, 55, 55, 55, 55, 55, 55, 55]⟩
theorem passtab_get : ∀ k : Fin 64, (tableText[k.val]'(k.isLt)).toNat = tableOf.getD k.val 0 + 48 := by decide +kernel
theorem passtab_index (k : Nat) (hk : k < 64) (w : World) : (Instr.index 9 (.string tableText) (.int .i64 (k : Int))).run Try.prog w = .ok (.int .u8 ((tableOf.getD k 0 + 48 : Nat) : Int)) w := by
  rw [run_index_string w 9 tableText .i64 (k : Int) Try.underlying9]
  have hs : tableText.size = 64 := rfl
  rw [dif_pos ⟨by omega, by rw [hs]; omega⟩]
  have h2 : (tableText[k]'(by rw [hs]; omega)).toNat = tableOf.getD k 0 + 48 := passtab_get ⟨k, hk⟩
  simp only [Int.toNat_natCast]
  rw [h2]
set_option maxHeartbeats 1000000 in
set_option maxRecDepth 100000 in
theorem rpass_any (x y : Nat) (W : World) (hx : x ≤ 2000000) (hy : y ≤ 2000000) :
    Calls Try.prog 26 #[.int .i64 (x : Int), .int .i64 (y : Int)] W fun e w' => e = .returned (.int .i64 (passNo x y : Int)) ∧ W = w' := by
  obtain ⟨a, ea⟩ : ∃ a, y % 8 = a := ⟨_, rfl⟩
  obtain ⟨b, eb⟩ : ∃ b, x % 8 = b := ⟨_, rfl⟩
  have ta : (y : Int).tmod 8 = (a : Int) := by rw [Int.tmod_eq_emod_of_nonneg (by omega)]; omega
  have tb : (x : Int).tmod 8 = (b : Int) := by rw [Int.tmod_eq_emod_of_nonneg (by omega)]; omega
  have ta' : (y : Int) % 8 = (a : Int) := by omega
  have tb' : (x : Int) % 8 = (b : Int) := by omega
  obtain ⟨k, ek⟩ : ∃ k, 8 * a + b = k := ⟨_, rfl⟩
  have hk : 8 * (a : Int) + (b : Int) = (k : Int) := by omega
  have hk64 : k < 64 := by omega
  have hix := passtab_index k hk64
  have hp := passNo_most x y
  have hpe : passNo x y = tableOf.getD k 0 := by unfold passNo; rw [ea, eb, ek]
  rw [← hpe] at hix
  have ha8 : a < 8 := by omega
  have hb8 : b < 8 := by omega
  obtain ⟨p, ep⟩ : ∃ p, passNo x y = p := ⟨_, rfl⟩
  rw [ep] at hix hp ⊢
  obtain ⟨p48, e48⟩ : ∃ q, p + 48 = q := ⟨_, rfl⟩
  rw [e48] at hix
  have hp48 : (p48 : Int) - 48 = (p : Int) := by omega
  have hp48b : p48 ≤ 55 := by omega
  clear ea eb ek hpe ep e48
  unfold tableText at hix
  go_enter Try.func26, Try.ntmps26
  go_wp2_with fail
  go_ret
  exact ⟨rfl, rfl⟩
theorem numsOwned.grown {W w wa w' : World} {v v' : Value} {ns : List Nat} {n : Nat} (h : numsOwned W w v ns) (hB : Below W.heap.size W w) (hb : Below w.heap.size w wa) (h1 : w'.ownsRow 0 3 1 v' (ns.length + 1) ((ns ++ [n]).map nv)) (h2 : wa.grownBy w' v.ownBlock) (h3 : ∀ k, v'.ownBlock = some k → v.ownBlock = some k ∨ wa.heap.size ≤ k) : numsOwned W w' v' (ns ++ [n]) ∧ Below W.heap.size W w' := by
  have s1 := hB.size
  have s2 := hb.size
  refine ⟨⟨by rw [List.length_append]; exact h1, fun k hk => (h3 k hk).elim (h.2 k) (fun h' => by omega)⟩, ?_⟩
  exact (hB.trans (hb.mono s1)).grown h2 (by omega) (fun q hq => h.2 q hq)
abbrev numsList (w : World) (v : Value) (ns : List Nat) : Prop := listed nv w v ns
def docUpto (w p y x : Nat) : List Nat := ((List.range x).filter fun x => decide (passNo x y = p)).map fun x => y * w + x
theorem doc_next (w p y x : Nat) : docUpto w p y (x + 1) = docUpto w p y x ++ (if passNo x y = p then [y * w + x] else []) := by
  unfold docUpto
  rw [List.range_succ, List.filter_append, List.map_append, List.filter_cons, List.filter_nil]
  by_cases h : passNo x y = p
  · rw [if_pos (by simpa using h), if_pos h]
    rfl
  · rw [if_neg (by simpa using h), if_neg h]
    rfl
def docRows (w p y : Nat) : List Nat := (List.range y).flatMap (docRow w p)
theorem docRows_next (w p y : Nat) : docRows w p (y + 1) = docRows w p y ++ docUpto w p y w := by
  unfold docRows
  rw [List.range_succ, List.flatMap_append]
  simp only [List.flatMap_cons, List.flatMap_nil, List.append_nil]
  rfl
def docPasses (w h k : Nat) : List Nat := (List.range k).flatMap fun i => docPass w h (i + 1)
theorem docPasses_next (w h k : Nat) : docPasses w h (k + 1) = docPasses w h k ++ docRows w (k + 1) h := by
  unfold docPasses
  rw [List.range_succ, List.flatMap_append]
  simp only [List.flatMap_cons, List.flatMap_nil, List.append_nil]
  rfl
theorem docUpto_length (w p y x : Nat) : (docUpto w p y x).length ≤ x := by
  unfold docUpto
  rw [List.length_map]
  exact Nat.le_trans (List.length_filter_le _ _) (by rw [List.length_range]; exact Nat.le_refl _)
theorem docRows_length (w p y : Nat) : (docRows w p y).length ≤ y * w := by
  induction y with
  | zero => simp [docRows]
  | succ y ih =>
    rw [docRows_next, List.length_append, Nat.add_mul, Nat.one_mul]
    have := docUpto_length w p y w
    omega
theorem docPasses_length (w h k : Nat) : (docPasses w h k).length ≤ k * (h * w) := by
  induction k with
  | zero => simp [docPasses]
  | succ k ih =>
    rw [docPasses_next, List.length_append, Nat.add_mul, Nat.one_mul]
    have := docRows_length w (k + 1) h
    omega
/-- What the document's order is, behind k passes, y rows and x columns of the next. -/
def docAt (w h k y x : Nat) : List Nat := docPasses w h k ++ (docRows w (k + 1) y ++ docUpto w (k + 1) y x)
theorem docAt_length {w h k y x : Nat} (hw : w ≤ 1024) (hh : h ≤ 1024) (hk : k ≤ 7) (hy : y ≤ 1024) (hx : x ≤ 1024) : (docAt w h k y x).length ≤ 8 * (1024 * 1024) + 1024 := by
  unfold docAt
  rw [List.length_append, List.length_append]
  have h1 := docPasses_length w h k
  have h2 := docRows_length w (k + 1) y
  have h3 := docUpto_length w (k + 1) y x
  have h4 : h * w ≤ 1024 * 1024 := Nat.mul_le_mul hh hw
  have h5 : k * (h * w) ≤ 7 * (1024 * 1024) := Nat.mul_le_mul hk h4
  have h6 : y * w ≤ 1024 * 1024 := Nat.mul_le_mul hy hw
  omega
set_option maxHeartbeats 2000000 in
set_option maxRecDepth 100000 in
theorem rorder_any (w h : Nat) (W : World) (hw1 : 1 ≤ w) (hw : w ≤ 1024) (hh1 : 1 ≤ h) (hh : h ≤ 1024) :
    Calls Try.prog 14 #[.int .i64 (w : Int), .int .i64 (h : Int)] W fun e w' => ∃ o n c, e = .returned (.slice o n c) ∧ Hid (n = w * h) ∧ Hid (numsOwned W w' (.slice o n c) (orderOf w h)) ∧ Hid (Below W.heap.size W w') := by
  have b1 : decide ((w : Int) < 1) = false := decide_eq_false (by omega)
  have b2 : decide ((1024 : Int) < (w : Int)) = false := decide_eq_false (by omega)
  have b3 : decide ((h : Int) < 1) = false := decide_eq_false (by omega)
  have b4 : decide ((1024 : Int) < (h : Int)) = false := decide_eq_false (by omega)
  have HORD : Hid (docPasses w h 7 = orderOf w h) := (order_doc w h).symm
  have HN : Hid ((orderOf w h).length = w * h) := order_length w h
  go_enter Try.func14, Try.ntmps14
  go_wp2_with fail
  clear b1 b2 b3 b4
  go_loopw [5, 6] (fun s5 s6 wp => ∃ (k : Nat), k ≤ 7 ∧ s6 = .int .i64 ((k + 1 : Nat) : Int) ∧ (∃ o n c, s5 = .slice o n c ∧ Hid ((docPasses w h k).length = n)) ∧ Hid (numsOwned W wp s5 (docPasses w h k)) ∧ Hid (Below W.heap.size W wp)) (fun _ s6 _ => 9 - (intOf s6).toNat)
  case atStart => exact ⟨0, Nat.zero_le _, rfl, ⟨none, 0, 0, rfl, rfl⟩, ⟨World.ownsRow_nil _ _ _ _, fun k hk => by simp [Value.ownBlock] at hk⟩, Below.refl _ _⟩
  case round =>
    obtain ⟨k, hk, rfl, ⟨o, n, c, rfl, hn⟩, HO, HB⟩ := hrel
    obtain ⟨k1, ek1⟩ : ∃ v, k + 1 = v := ⟨_, rfl⟩
    have HK1 := Lib.hid ek1
    rw [ek1]
    have hkk : k < k1 := by omega
    have hk1b : k1 ≤ 8 := by omega
    by_cases hk7 : k < 7
    · have d1 : decide ((k1 : Int) ≤ 7) = true := decide_eq_true (by omega)
      have d1' : decide (k1 ≤ 7) = true := decide_eq_true (by omega)
      have hk17 : k1 ≤ 7 := by omega
      clear ek1
      go_wp2_with fail
      go_loopw [5, 7] (fun s5 s7 wy => ∃ (y : Nat), y ≤ h ∧ s7 = .int .i64 (y : Int) ∧ (∃ o n c, s5 = .slice o n c ∧ Hid ((docAt w h k y 0).length = n)) ∧ Hid (numsOwned W wy s5 (docAt w h k y 0)) ∧ Hid (Below W.heap.size W wy)) (fun _ s7 _ => 1025 - (intOf s7).toNat)
      case atStart => exact ⟨0, Nat.zero_le _, by first | rfl | trivial, by
        have : docAt w h k 0 0 = docPasses w h k := by simp [docAt, docRows, docUpto]
        rw [this]
        exact ⟨⟨_, _, _, rfl, hn.out⟩, HO.out, HB.out⟩⟩
      case round =>
        clear HO HB hn
        obtain ⟨y, hy, rfl, ⟨o, n, c, rfl, hn⟩, HO, HB⟩ := hrel
        by_cases hyh : y < h
        · have d2 : decide ((y : Int) < (h : Int)) = true := decide_eq_true (by omega)
          obtain ⟨M, eM⟩ : ∃ M, y * w = M := ⟨_, rfl⟩
          have HM := Lib.hid eM
          have hM : M ≤ 1024 * 1024 := by rw [← eM]; exact Nat.mul_le_mul (by omega) hw
          have hmul : (y : Int) * (w : Int) = (M : Int) := by rw [← eM]; exact (Int.natCast_mul y w).symm
          clear eM
          go_wp2_with fail
          go_loopw [5, 8] (fun s5 s8 wx => ∃ (x : Nat), x ≤ w ∧ s8 = .int .i64 (x : Int) ∧ (∃ o n c, s5 = .slice o n c ∧ Hid ((docAt w h k y x).length = n)) ∧ Hid (numsOwned W wx s5 (docAt w h k y x)) ∧ Hid (Below W.heap.size W wx)) (fun _ s8 _ => 1025 - (intOf s8).toNat)
          case atStart => exact ⟨0, Nat.zero_le _, by first | rfl | trivial, ⟨_, _, _, rfl, hn.out⟩, HO.out, HB.out⟩
          case round =>
            clear HO HB hn
            obtain ⟨x, hx, rfl, ⟨o, n, c, rfl, hn⟩, HO, HB⟩ := hrel
            by_cases hxw : x < w
            · have d3 : decide ((x : Int) < (w : Int)) = true := decide_eq_true (by omega)
              have KP := rpass_any x y wr (by omega) (by omega)
              have HNX : Hid (docAt w h k y (x + 1) = docAt w h k y x ++ (if passNo x y = k1 then [M + x] else [])) := by
                show _ = _
                unfold docAt
                rw [doc_next, HM.out, HK1.out]
                simp only [List.append_assoc]
              have hlen := docAt_length (w := w) (h := h) (k := k) (y := y) (x := x) hw hh hk (by omega) (by omega)
              rw [hn.out] at hlen
              have hpm := passNo_most x y
              obtain ⟨x1, ex1⟩ : ∃ v, x + 1 = v := ⟨_, rfl⟩
              have hx1 : (x : Int) + 1 = (x1 : Int) := by omega
              have hxx : x < x1 := by omega
              have hx1b : x1 ≤ w := by omega
              rw [ex1] at HNX
              by_cases hp : passNo x y = k1
              · rw [hp] at KP
                rw [if_pos hp] at HNX
                obtain ⟨m, em⟩ : ∃ m, M + x = m := ⟨_, rfl⟩
                have hm : (M : Int) + (x : Int) = (m : Int) := by omega
                have hmb : m ≤ 2000000 := by omega
                rw [em] at HNX
                clear hp em ex1 hpm
                go_wp2_with fail
                go_at_call 26
                refine KP.mono ?_
                rintro e w' ⟨rfl, rfl⟩
                clear KP
                go_wp2_with (at_builtin; refine wpList_append_to (c := nv) rfl _ _ 28 rfl 3 (.int .i64 0) 8 Try.underlying28 info64 rfl (fun _ => rfl) (.slice o n c) n (docAt w h k y x) rfl (by have h1 := HO.out.1.alloc (.cells #[.int .i64 (m : Int)] 3); rw [hn.out] at h1; exact h1) _ [m] rfl (listed_one wr m _ _ rfl) (by unfold maxLen; simp only [List.length_cons, List.length_nil]; omega) (by simp only [List.length_cons, List.length_nil]; omega) ?_)
                intro v' w' g1 g2 g3
                have hG := HO.out.grown (n := m) HB.out (below_alloc1 wr _) (by rw [List.map_append, hn.out]; exact g1) g2 (fun k hk => (g3 k hk).imp id (fun h => by show (wr.heap.push _).size ≤ k; rw [Array.size_push]; exact h))
                rw [← HNX.out] at hG
                have HG := Lib.hid hG
                have HLN : Hid ((docAt w h k y x1).length = n + 1) := by
                  show _ = _
                  rw [HNX.out, List.length_append, hn.out]
                  rfl
                obtain ⟨o', c', rfl⟩ := row_shape g1
                clear g1 g2 g3 hG
                go_wp2_with fail
                go_roundw
                case rel => exact ⟨x1, hx1b, by first | rfl | go_num, ⟨_, _, _, rfl, HLN.out⟩, HG.out.1, HG.out.2⟩
                case measure => simp [intOf]; omega
              · have e1 : ((passNo x y : Int) == (k1 : Int)) = false := by simp; omega
                have e2 : decide ((passNo x y : Int) = (k1 : Int)) = false := decide_eq_false (by omega)
                have e3 : decide (passNo x y = k1) = false := decide_eq_false hp
                rw [if_neg hp, List.append_nil] at HNX
                obtain ⟨q, eq⟩ : ∃ q, passNo x y = q := ⟨_, rfl⟩
                rw [eq] at KP e1 e2 e3
                clear hp eq hpm ex1
                go_wp2_with fail
                go_at_call 26
                refine KP.mono ?_
                rintro e w' ⟨rfl, rfl⟩
                clear KP
                go_wp2_with fail
                go_roundw
                case rel => exact ⟨x1, hx1b, by first | rfl | go_num, by rw [HNX.out]; exact ⟨⟨_, _, _, rfl, hn.out⟩, HO.out, HB.out⟩⟩
                case measure => simp [intOf]; omega
            · obtain rfl : x = w := by omega
              have d3 : decide ((x : Int) < (x : Int)) = false := decide_eq_false (by omega)
              have HNY : Hid (docAt x h k (y + 1) 0 = docAt x h k y x) := by
                show _ = _
                unfold docAt
                rw [docRows_next]
                simp [docUpto]
              go_wp2_with fail
              go_roundw
              case rel => exact ⟨y + 1, by omega, by first | rfl | go_num, by rw [HNY.out]; exact ⟨⟨_, _, _, rfl, hn.out⟩, HO.out, HB.out⟩⟩
              case measure => simp [intOf]; omega
        · obtain rfl : y = h := by omega
          have d2 : decide ((y : Int) < (y : Int)) = false := decide_eq_false (by omega)
          have HNY : Hid (docPasses w y k1 = docAt w y k y 0) := by
            show _ = _
            rw [← HK1.out, docPasses_next]
            unfold docAt
            simp [docUpto]
          go_wp2_with fail
          go_roundw
          case rel => exact ⟨k1, by omega, by first | rfl | go_num, by rw [HNY.out]; exact ⟨⟨_, _, _, rfl, hn.out⟩, HO.out, HB.out⟩⟩
          case measure => simp [intOf]; omega
    · obtain rfl : k = 7 := by omega
      obtain rfl : k1 = 8 := by omega
      have d1 : decide ((8 : Int) ≤ 7) = false := by decide
      clear ek1
      go_wp2_with fail
      go_ret
      have h1 := HO.out
      have h2 := hn.out
      rw [HORD.out] at h1 h2
      rw [HN.out] at h2
      exact ⟨_, _, _, rfl, h2.symm, h1, HB.out⟩
set_option maxHeartbeats 2000000 in
set_option maxRecDepth 100000 in
/-- Two lists of the same numbers. -/
theorem sameInts_code (p q : Value) (ns : List Nat) (W : World) (hp : numsList W p ns) (hq : numsList W q ns) (hl : ns.length ≤ 2000000) :
    Calls Try.prog 13 #[p, q] W fun e w' => e = .returned (.bool true) ∧ Hid (Below W.heap.size W w') := by
  obtain ⟨po, pc, rfl⟩ := listed_length hp
  obtain ⟨qo, qc, rfl⟩ := listed_length hq
  have HP := Lib.hid hp
  have HQ := Lib.hid hq
  obtain ⟨n, en⟩ : ∃ n, ns.length = n := ⟨_, rfl⟩
  have EN := Lib.hid en
  rw [en] at HP HQ hl ⊢
  clear hp hq en
  go_enter Try.func13, Try.ntmps13
  go_wp2_with fail
  go_loopw [5] (fun s5 wx => ∃ k : Nat, k ≤ n ∧ s5 = .int .i64 (k : Int) ∧ Hid (Below W.heap.size W wx)) (fun s5 _ => (intOf s5).toNat)
  case atStart => exact ⟨n, Nat.le_refl _, rfl, Below.refl _ _⟩
  case round =>
    obtain ⟨k, hk, rfl, HBL⟩ := hrel
    have z1 : ((n : Int) == (n : Int)) = true := by simp
    have z2 : decide ((n : Int) = (n : Int)) = true := by simp
    by_cases hk0 : 0 < k
    · obtain ⟨m, em⟩ : ∃ m, k - 1 = m := ⟨_, rfl⟩
      have hsub : (k : Int) - 1 = (m : Int) := by omega
      have hmn : m < n := by omega
      have hmk : m < k := by omega
      obtain ⟨x, ex⟩ : ∃ x, ns[m]? = some x := ⟨ns[m]'(by rw [EN.out]; exact hmn), List.getElem?_eq_getElem _⟩
      obtain ⟨b1, o1, c1, e1, l1, hc1⟩ := listed_cell HP.out m x ex
      obtain ⟨b2, o2, c2, e2, l2, hc2⟩ := listed_cell HQ.out m x ex
      rw [EN.out] at e1 e2
      simp only [Value.slice.injEq] at e1 e2
      obtain ⟨rfl, _, rfl⟩ := e1
      obtain ⟨rfl, _, rfl⟩ := e2
      unfold nv at hc1 hc2
      have g1 := (HBL.out.cell (p := ⟨b1, o1 + m, none⟩) l1).trans hc1
      have g2 := (HBL.out.cell (p := ⟨b2, o2 + m, none⟩) l2).trans hc2
      have d1 : decide ((0 : Int) < (k : Int)) = true := decide_eq_true (by omega)
      have d1' : decide (0 < k) = true := decide_eq_true hk0
      have y1 : ((x : Int) == (x : Int)) = true := by simp
      clear ex hc1 hc2 l1 l2 em
      go_wp2_with fail
      go_quiet (fail)
      have HBD := Lib.hid (HBL.out.trans (⟨rfl, rfl, rfl, Nat.le_refl _, fun _ _ => rfl⟩ : Below W.heap.size wr (wr.drewN nq)))
      go_wp2_with fail
      go_roundw
      case rel => exact ⟨m, by omega, by first | rfl | go_num, HBD⟩
      case measure => simp [intOf]; omega
    · obtain rfl : k = 0 := by omega
      have d1 : decide ((0 : Int) < ((0 : Nat) : Int)) = false := by decide
      go_wp2_with fail
      go_quiet (fail)
      have HBD := Lib.hid (HBL.out.trans (⟨rfl, rfl, rfl, Nat.le_refl _, fun _ _ => rfl⟩ : Below W.heap.size wr (wr.drewN nq)))
      go_wp2_with fail
      go_ret
      exact ⟨by first | rfl | simp, HBD⟩
end Go.Proofs.Ytefdlidjdmlnaaa.Fx
