/-
  The small calls about zlib: lists put one behind the other, lists alike, a sum's bytes, heads. The conditions stand in each.
  zlib's writer, as landed: New, Write, End; behind End; one that New did not make. The conditions stand in each.
-/
import Derived.Deep.QuietTactic
import Derived.BigQuiet
import Derived.Test.YtefdlidjdmlnaaaZlP
import Derived.Test.YtefdlidjdmlnaaaWinQ
import Derived.Test.YtefdlidjdmlnaaaNums
import Derived.StillTailTactics
import Derived.Deep.RegionHeld3
namespace Go.Proofs.Ytefdlidjdmlnaaa.Fx
open Go Go.RowKit Go.Joins
set_option linter.unusedVariables false
theorem lists_get {W : World} {o : Option Addr} {n c : Nat} {zss : List (List Nat)} (h : listsIn W (.slice o n c) zss) : zss.length = n ∧ ∀ k, k < n → ∃ b off uo uc zs, o = some ⟨b, off, none⟩ ∧ b < W.heap.size ∧ zss[k]? = some zs ∧ W.cell? ⟨b, off + k, none⟩ = some (.slice uo zs.length uc) ∧ bytesIn W (.slice uo zs.length uc) zs := by
  obtain ⟨us, hus, hul, hel⟩ := h
  obtain ⟨o', c', e⟩ := listed_length hus
  simp only [Value.slice.injEq] at e
  obtain ⟨_, hn, _⟩ := e
  refine ⟨by omega, fun k hk => ?_⟩
  have h1 : k < us.length := by omega
  have h2 : k < zss.length := by omega
  have hb := hel k us[k] zss[k] (List.getElem?_eq_getElem h1) (List.getElem?_eq_getElem h2)
  obtain ⟨b, off, cap, eb, hlt, hc⟩ := listed_cell hus k us[k] (List.getElem?_eq_getElem h1)
  obtain ⟨uo, uc, eu⟩ := listed_length hb
  simp only [Value.slice.injEq] at eb
  refine ⟨b, off, uo, uc, zss[k], eb.1, hlt, List.getElem?_eq_getElem h2, ?_, ?_⟩
  · rw [← eu]
    exact hc
  · rw [← eu]
    exact hb
theorem flat_next (zss : List (List Nat)) (k : Nat) (zs : List Nat) (h : zss[k]? = some zs) : (zss.take (k + 1)).flatten = (zss.take k).flatten ++ zs := by
  rw [List.take_add_one, h]
  simp
theorem flat_most (zss : List (List Nat)) (k : Nat) : (zss.take k).flatten.length ≤ zss.flatten.length := by
  have h : zss.flatten = (zss.take k).flatten ++ (zss.drop k).flatten := by rw [← List.flatten_append, List.take_append_drop]
  rw [h, List.length_append]
  omega
set_option maxHeartbeats 2000000 in
set_option maxRecDepth 100000 in
theorem concats_code (v : Value) (zss : List (List Nat)) (W : World) (hr : listsIn W v zss) (hl : zss.flatten.length ≤ 4294967296) (hN : zss.length ≤ 1000) :
    Calls Try.prog 33 #[v] W fun e w' => ∃ u, e = .returned u ∧ bytesIn w' u zss.flatten ∧ (∀ b, inBlock u b → W.heap.size ≤ b) ∧ Below W.heap.size W w' ∧ w'.ownsRow W.heap.size 5 1 u zss.flatten.length (zss.flatten.map byteVal) := by
  obtain ⟨o, c, rfl⟩ : ∃ o c, v = .slice o zss.length c := by
    obtain ⟨us, hus, hul, _⟩ := hr
    obtain ⟨o, c, e⟩ := listed_length hus
    exact ⟨o, c, by rw [e, hul]⟩
  have HG := Lib.hid (lists_get hr).2
  have HF := Lib.hid (flat_most zss)
  have H0 : Hid ((zss.take 0).flatten = []) := rfl
  obtain ⟨n, en⟩ : ∃ n, zss.length = n := ⟨_, rfl⟩
  have HE : Hid ((zss.take n).flatten = zss.flatten) := by
    show _ = _
    rw [← en, List.take_length]
  have EN := Lib.hid en
  rw [en] at HG hN ⊢
  clear hr en
  have HL := Lib.hid hl
  go_enter Try.func33, Try.ntmps33
  go_wp2_with fail
  go_loopw [3, 11] (fun s3 s11 wr => wr = W ∧ ∃ k m : Nat, k ≤ n ∧ m ≤ 4294967296 ∧ s3 = .int .i64 (m : Int) ∧ s11 = .int .i64 (k : Int) ∧ Hid ((zss.take k).flatten.length = m)) (fun _ s11 _ => n - (intOf s11).toNat)
  case atStart => exact ⟨rfl, 0, 0, Nat.zero_le _, Nat.zero_le _, rfl, rfl, by show _ = _; rw [H0.out]; rfl⟩
  case round =>
    obtain ⟨hwr, k, m, hk, hm, rfl, rfl, HM⟩ := hrel
    obtain rfl : W = wr := hwr.symm
    by_cases hkn : k < n
    · obtain ⟨b, off, uo, uc, zs, rfl, hblt, hz, hcell, hzs⟩ := HG.out k hkn
      have HNX : Hid ((zss.take (k + 1)).flatten.length = m + zs.length) := by
        show _ = _
        rw [flat_next zss k zs hz, List.length_append, HM.out]
      have hms : m + zs.length ≤ 4294967296 := by
        have h1 := HF.out (k + 1)
        have h2 := HNX.out
        have h3 := HL.out
        omega
      obtain ⟨l, el⟩ : ∃ l, zs.length = l := ⟨_, rfl⟩
      rw [el] at HNX hms hcell
      clear hzs hz el hblt
      have d1 : decide ((k : Int) < (n : Int)) = true := decide_eq_true (by omega)
      have hsum : (m : Int) + (l : Int) = ((m + l : Nat) : Int) := by omega
      obtain ⟨M, eM⟩ : ∃ M, m + l = M := ⟨_, rfl⟩
      rw [eM] at hsum hms HNX
      have hw : IntKind.i64.wrap ((m : Int) + (l : Int)) = (M : Int) := by rw [IntKind.wrap_i64]; omega
      have d2 : decide ((M : Int) < 0) = false := decide_eq_false (by omega)
      clear eM
      go_wp2_with fail
      go_roundw
      case rel => exact ⟨by first | rfl | trivial, k + 1, M, by omega, hms, by first | rfl | go_num, by go_num, HNX⟩
      case measure => simp [intOf]; omega
    · obtain rfl : k = n := by omega
      have d1 : decide ((k : Int) < (k : Int)) = false := decide_eq_false (by omega)
      have KG := grow_code m W hm
      have HMM : Hid (zss.flatten.length = m) := by
        show _ = _
        rw [← HE.out, HM.out]
      go_wp2_with fail
      go_at_call 51
      refine KG.mono ?_
      rintro e w1 ⟨u, rfl, k1, k2⟩
      have K1 := Lib.hid k1
      have K2 := Lib.hid k2
      obtain ⟨uo, uc, eu⟩ := row_shape k1
      subst eu
      clear k1 k2 KG HM d1
      go_wp2_with fail
      go_loopw [6, 27] (fun s6 s27 wx => ∃ c : Nat, s27 = .int .i64 (c : Int) ∧ c ≤ k ∧ Hid (wx.ownsRow W.heap.size 5 1 s6 (zss.take c).flatten.length ((zss.take c).flatten.map byteVal)) ∧ Hid (Below W.heap.size W wx)) (fun _ s27 _ => k - (intOf s27).toNat)
      case atStart => exact ⟨0, rfl, by omega, K1.out, K2.out⟩
      case round =>
        obtain ⟨c, rfl, hc, hown, hbl⟩ := hrel
        obtain ⟨so, sc, es⟩ := row_shape hown.out
        obtain ⟨j, ej⟩ : ∃ j, (zss.take c).flatten.length = j := ⟨_, rfl⟩
        have EJ := Lib.hid ej
        rw [ej] at es hown
        subst es
        clear ej
        by_cases hcn : c < k
        · obtain ⟨b, off, uo2, uc2, zs, eo, hblt, hz, hcell, hzs⟩ := HG.out c hcn
          subst eo
          have hcx := (hbl.out.cell (p := ⟨b, off + c, none⟩) hblt).trans hcell
          have HNX : Hid ((zss.take (c + 1)).flatten = (zss.take c).flatten ++ zs) := flat_next zss c zs hz
          have hjl : j + zs.length ≤ 4294967296 := by
            have h1 := HF.out (c + 1)
            rw [HNX.out, List.length_append, EJ.out] at h1
            have h3 := HL.out
            omega
          obtain ⟨l, el⟩ : ∃ l, zs.length = l := ⟨_, rfl⟩
          have EL := Lib.hid el
          rw [el] at hjl hcx hzs
          have hz2 := Lib.hid (listed_on hzs hbl.out)
          have hs2 := hbl.out.size
          have d1 : decide ((c : Int) < (k : Int)) = true := decide_eq_true (by omega)
          clear hzs hz el hcell
          go_wp2_with (at_builtin; refine wpList_append_listed (c := byteVal) rfl _ _ 36 rfl W.heap.size 5 (.int .u8 0) Try.underlying36 infoU8 rfl (fun _ => rfl) (.slice so j sc) j (zss.take c).flatten rfl hown.out (.slice uo2 l uc2) zs rfl hz2.out (by rw [EL.out]; omega) hs2 ?_)
          intro v' w5 hown5 hgrow5
          have hb5 : Below W.heap.size W w5 := hbl.out.grown hgrow5 hs2 (fun q hq => (hown.out.lt q hq).1)
          obtain ⟨v5o, v5c, ev5⟩ := row_shape hown5
          subst ev5
          have HO5 : Hid (w5.ownsRow W.heap.size 5 1 (.slice v5o (j + zs.length) v5c) (zss.take (c + 1)).flatten.length ((zss.take (c + 1)).flatten.map byteVal)) := by
            show World.ownsRow _ _ _ _ _ _ _
            rw [HNX.out, List.length_append, EJ.out]
            simpa using hown5
          have HB5 := Lib.hid hb5
          clear hown5 hgrow5 hb5
          go_wp2_with fail
          go_roundw
          case rel => exact ⟨c + 1, by go_num, by omega, HO5.out, HB5.out⟩
          case measure => simp [intOf]; omega
        · obtain rfl : c = k := by omega
          have d1 : decide ((c : Int) < (c : Int)) = false := decide_eq_false (by omega)
          go_wp2_with fail
          go_ret
          have h1 := hown.out
          rw [HE.out] at h1
          have ej2 : zss.flatten.length = j := by
            rw [← HE.out]
            exact EJ.out
          exact ⟨_, rfl, own_listed h1, fun b hb => own_fresh h1 b hb, hbl.out, by rw [ej2]; exact h1⟩
/-- The bytes of a sum. -/
theorem row_fresh {w : World} {vals : Array Value} {zs : List Nat} {n : Nat} (c3 : vals.toList = zs.map byteVal) (c4 : zs.length = n) :
    bytesIn (w.alloc (.cells vals 5)) (.slice (some ⟨w.heap.size, 0, none⟩) n n) zs ∧ (∀ b, inBlock (.slice (some ⟨w.heap.size, 0, none⟩) n n) b → w.heap.size ≤ b) ∧ Below w.heap.size w (w.alloc (.cells vals 5)) := by
  subst c4
  refine ⟨.inr ⟨w.heap.size, 0, zs.length, rfl, ?_, Nat.le_refl _, fun j z hj => ?_⟩, fun b hb => ?_, (Below.refl _ _).alloc (Nat.le_refl _) _⟩
  · show _ < (w.heap.push _).size
    simp
  · rw [Nat.zero_add, cell_of_block (heap_alloc_new w _) j, ← Array.getElem?_toList, c3, List.getElem?_map, hj]
    rfl
  · obtain ⟨off, m, cap, e, _⟩ := hb
    simp only [Value.slice.injEq, Option.some.injEq, Addr.mk.injEq] at e
    obtain ⟨⟨rfl, _⟩, _⟩ := e
    exact Nat.le_refl _
set_option maxHeartbeats 1000000 in
set_option maxRecDepth 100000 in
theorem sumBytes_code (s : Nat) (W : World) (hs : s ≤ 4294967295) :
    Calls Try.prog 64 #[.int .u32 (s : Int)] W fun e w' => ∃ u, e = .returned u ∧ bytesIn w' u (fourOf s) ∧ (∀ b, inBlock u b → W.heap.size ≤ b) ∧ Below W.heap.size W w' := by
  obtain ⟨a, ea⟩ : ∃ a, s / 16777216 = a := ⟨_, rfl⟩
  obtain ⟨b, eb⟩ : ∃ a, s / 65536 = a := ⟨_, rfl⟩
  obtain ⟨c, ec⟩ : ∃ a, s / 256 = a := ⟨_, rfl⟩
  have h1 : (s : Int) / 16777216 = (a : Int) := by omega
  have h2 : (s : Int) / 65536 = (b : Int) := by omega
  have h3 : (s : Int) / 256 = (c : Int) := by omega
  have w1 : IntKind.u8.wrap (a : Int) = ((a % 256 : Nat) : Int) := by rw [IntKind.wrap_u8']; omega
  have w2 : IntKind.u8.wrap (b : Int) = ((b % 256 : Nat) : Int) := by rw [IntKind.wrap_u8']; omega
  have w3 : IntKind.u8.wrap (c : Int) = ((c % 256 : Nat) : Int) := by rw [IntKind.wrap_u8']; omega
  have w4 : IntKind.u8.wrap (s : Int) = ((s % 256 : Nat) : Int) := by rw [IntKind.wrap_u8']; omega
  have HF : Hid (fourOf s = [a % 256, b % 256, c % 256, s % 256]) := by
    show _ = _
    unfold fourOf
    rw [ea, eb, ec]
  clear ea eb ec
  generalize a % 256 = A at *
  generalize b % 256 = B at *
  generalize c % 256 = C at *
  generalize s % 256 = D at *
  go_enter Try.func64, Try.ntmps64
  go_wp2_with fail
  go_ret
  rw [HF.out]
  exact ⟨_, rfl, row_fresh rfl rfl⟩
theorem and32 : ∀ y : Fin 256, bits .and .u8 (y.val : Int) 32 = ((if y.val / 32 % 2 = 0 then 0 else 32 : Nat) : Int) := by decide +kernel
end Go.Proofs.Ytefdlidjdmlnaaa.Fx
namespace Go.Proofs.Ytefdlidjdmlnaaa.Fx
open Go Go.RowKit Go.Joins
set_option linter.unusedVariables false
/-- What has not gone out of the head. -/
def headOf (begun : Bool) : List Nat := if begun then [] else [120, 1]
theorem headOf_two (b : Bool) : (headOf b).length ≤ 2 := by cases b <;> decide
/-- A writer's own block. -/
abbrev streamCells (head dv : Value) (s : Nat) : Array Value := #[head, .func (.func 36) #[dv] #[], .func (.func 37) #[dv] #[], .int .u32 (s : Int)]
/-- A writer: all bytes that were written to it, whether its head went out, in which blocks of memory it lies. -/
def isZW (w : World) (v : Value) (all : List Nat) (begun : Bool) (O : Nat → Prop) : Prop :=
  ∃ h g head dv OD, v = .pointer (some ⟨h, 0, none⟩) ∧ w.heap[h]? = some (.cells #[.pointer (some ⟨g, 0, none⟩)] 84 (0, 0)) ∧ w.heap[g]? = some (.cells (streamCells head dv (sumOf all)) 82 (0, 0)) ∧ bytesIn w head (headOf begun) ∧ (∀ b, inBlock head b → ¬ OD b ∧ b ≠ h ∧ b ≠ g) ∧ isDW w dv all OD ∧ ¬ OD h ∧ ¬ OD g ∧ h ≠ g ∧ O = fun k => k = h ∨ k = g ∨ inBlock head k ∨ OD k
/-- A writer that has ended. -/
def isZE (w : World) (v : Value) (O : Nat → Prop) : Prop :=
  ∃ h g head dv s OD, v = .pointer (some ⟨h, 0, none⟩) ∧ w.heap[h]? = some (.cells #[.pointer (some ⟨g, 0, none⟩)] 84 (0, 0)) ∧ w.heap[g]? = some (.cells (streamCells head dv s) 82 (0, 0)) ∧ isDE w dv OD ∧ O = fun k => k = h ∨ k = g ∨ OD k
theorem isZW_lt {w : World} {v : Value} {all : List Nat} {b : Bool} {O : Nat → Prop} (h : isZW w v all b O) : ∀ k, O k → k < w.heap.size := by
  obtain ⟨h, g, head, dv, OD, _, h1, h2, h3, _, h4, _, _, _, rfl⟩ := h
  rintro k (rfl | rfl | hk | hk)
  · exact (Array.getElem?_eq_some_iff.1 h1).1
  · exact (Array.getElem?_eq_some_iff.1 h2).1
  · exact inBlock_lt h3 hk
  · exact isDW_lt _ _ _ _ h4 k hk
theorem isZE_lt {w : World} {v : Value} {O : Nat → Prop} (h : isZE w v O) : ∀ k, O k → k < w.heap.size := by
  obtain ⟨h, g, head, dv, s, OD, _, h1, h2, h4, rfl⟩ := h
  rintro k (rfl | rfl | hk)
  · exact (Array.getElem?_eq_some_iff.1 h1).1
  · exact (Array.getElem?_eq_some_iff.1 h2).1
  · exact isDE_lt _ _ _ h4 k hk
theorem isZW_keep {w w' : World} {v : Value} {all : List Nat} {b : Bool} {O : Nat → Prop} (h : isZW w v all b O) (hs : w.heap.size ≤ w'.heap.size) (hk : ∀ k, O k → w'.heap[k]? = w.heap[k]?) : isZW w' v all b O := by
  obtain ⟨h, g, head, dv, OD, hv, h1, h2, h3, h5, h4, h6, h7, h8, rfl⟩ := h
  exact ⟨h, g, head, dv, OD, hv, (hk h (.inl rfl)).trans h1, (hk g (.inr (.inl rfl))).trans h2, listed_kept h3 hs (fun q hq => hk q (.inr (.inr (.inl hq)))), h5, isDW_keep _ _ _ _ _ h4 hs (fun q hq => hk q (.inr (.inr (.inr hq)))), h6, h7, h8, rfl⟩
theorem isZE_keep {w w' : World} {v : Value} {O : Nat → Prop} (h : isZE w v O) (hk : ∀ k, O k → w'.heap[k]? = w.heap[k]?) : isZE w' v O := by
  obtain ⟨h, g, head, dv, s, OD, hv, h1, h2, h4, rfl⟩ := h
  exact ⟨h, g, head, dv, s, OD, hv, (hk h (.inl rfl)).trans h1, (hk g (.inr (.inl rfl))).trans h2, isDE_keep _ _ _ _ h4 (fun q hq => hk q (.inr (.inr hq))), rfl⟩
theorem isDW_ptr {w : World} {v : Value} {all : List Nat} {O : Nat → Prop} (h : isDW w v all O) : ∃ a, v = .pointer a := by
  obtain ⟨h, _, _, _, rfl, _⟩ := h
  exact ⟨_, rfl⟩
theorem isDE_ptr {w : World} {v : Value} {O : Nat → Prop} (h : isDE w v O) : ∃ a, v = .pointer a := by
  obtain ⟨h, _, rfl, _⟩ := h
  exact ⟨_, rfl⟩
theorem not_nilBlock (b : Nat) : ¬ inBlock (.slice none 0 0) b := fun hb => by
  obtain ⟨_, _, _, h, _⟩ := hb
  simp at h
theorem make_fn (fn : Fn) (first cap : Array Value) (w : World) : (Instr.makeFunc fn first cap).run Try.prog w = .ok (.func fn first cap) w := rfl
theorem three_blocks (W : World) (x y z : Array Value) (tx ty tz : TypeId) : ∃ w1, w1 = ((W.alloc (.cells x tx)).alloc (.cells y ty)).alloc (.cells z tz) ∧ w1.heap[W.heap.size]? = some (.cells x tx (0, 0)) ∧ w1.heap[W.heap.size + 1]? = some (.cells y ty (0, 0)) ∧ w1.heap[W.heap.size + 2]? = some (.cells z tz (0, 0)) ∧ Below W.heap.size W w1 := by
  have hs0 : (W.alloc (.cells x tx)).heap.size = W.heap.size + 1 := by
    show (W.heap.push _).size = _
    simp
  have hs1 : ((W.alloc (.cells x tx)).alloc (.cells y ty)).heap.size = W.heap.size + 2 := by
    show ((W.alloc (.cells x tx)).heap.push _).size = _
    rw [Array.size_push, hs0]
  refine ⟨_, rfl, alloc_old (alloc_old (heap_alloc_new W _)), ?_, ?_, (((Below.refl _ _).alloc (Nat.le_refl _) _).alloc (by rw [hs0]; omega) _).alloc (by rw [hs1]; omega) _⟩
  · rw [← hs0]
    exact alloc_old (heap_alloc_new _ _)
  · rw [← hs1]
    exact heap_alloc_new _ _
theorem zw_new {W w1 : World} {dv : Value} {OD : Nat → Prop} (k1 : isDW w1 dv [] OD) (k2 : ∀ k, OD k → W.heap.size ≤ k) (k3 : Below W.heap.size W w1) (w' : World)
    (e : w' = ((w1.alloc (.cells #[.int .u8 120, .int .u8 1] 5)).alloc (.cells (streamCells (.slice (some ⟨w1.heap.size, 0, none⟩) 2 2) dv 1) 82)).alloc (.cells #[.pointer (some ⟨w1.heap.size + 1, 0, none⟩)] 84)) :
    ∃ O, isZW w' (.pointer (some ⟨w1.heap.size + 2, 0, none⟩)) [] false O ∧ (∀ k, O k → W.heap.size ≤ k) ∧ Below W.heap.size W w' := by
  obtain ⟨w2, e2, b0, b1, b2, hb⟩ := three_blocks w1 #[.int .u8 120, .int .u8 1] (streamCells (.slice (some ⟨w1.heap.size, 0, none⟩) 2 2) dv 1) #[.pointer (some ⟨w1.heap.size + 1, 0, none⟩)] 5 82 84
  rw [← e2] at e
  subst e
  have hs := k3.size
  have hlt := isDW_lt _ _ _ _ k1
  have hin : ∀ b, inBlock (.slice (some ⟨w1.heap.size, 0, none⟩) 2 2) b → b = w1.heap.size := by
    rintro b ⟨off, n, cap, e, _⟩
    simp only [Value.slice.injEq, Option.some.injEq, Addr.mk.injEq] at e
    exact e.1.1.symm
  refine ⟨_, ⟨w1.heap.size + 2, w1.heap.size + 1, .slice (some ⟨w1.heap.size, 0, none⟩) 2 2, dv, OD, rfl, b2, by rw [sumOf_nil]; exact b1, ?_, fun b hb' => ?_, isDW_keep _ _ _ _ _ k1 hb.size (fun k hk => hb.block k (hlt k hk)), fun h => by have := hlt _ h; omega, fun h => by have := hlt _ h; omega, by omega, rfl⟩, ?_, k3.trans (hb.mono hs)⟩
  · refine .inr ⟨w1.heap.size, 0, 2, rfl, (Array.getElem?_eq_some_iff.1 b0).1, Nat.le_refl _, fun j z hj => ?_⟩
    rw [Nat.zero_add, cell_of_block b0 j]
    match j, hj with
    | 0, hj => obtain rfl := Option.some.inj hj; rfl
    | 1, hj => obtain rfl := Option.some.inj hj; rfl
    | j + 2, hj => simp [headOf] at hj
  · have := hin b hb'
    exact ⟨fun h => by have := hlt b h; omega, by omega, by omega⟩
  · rintro k (rfl | rfl | hk | hk)
    · omega
    · omega
    · have := hin k hk; omega
    · exact k2 k hk
set_option maxHeartbeats 2000000 in
set_option maxRecDepth 100000 in
theorem znew_code (W : World) : Calls Try.prog 22 #[] W fun e w' => ∃ v O, e = .returned (.pointer v) ∧ isZW w' (.pointer v) [] false O ∧ (∀ k, O k → W.heap.size ≤ k) ∧ Below W.heap.size W w' := by
  have hmf := make_fn
  go_enter Try.func22, Try.ntmps22
  go_wp2_with fail
  go_at_call 35
  refine (new_code W).mono ?_
  rintro e w1 ⟨dv, OD, rfl, k1, k2, k3⟩
  obtain ⟨va, rfl⟩ := isDW_ptr k1
  have HZ := Lib.hid (zw_new k1 k2 k3)
  clear k1 k2 k3
  go_wp2_with fail
  go_ret
  obtain ⟨O, h1, h2, h3⟩ := HZ.out _ rfl
  exact ⟨_, O, rfl, h1, h2, h3⟩
set_option maxHeartbeats 1000000 in
set_option maxRecDepth 100000 in
theorem takeHead_code (g : Nat) (dv : Value) (o : Option Addr) (n c s : Nat) (w : World) (hg : w.heap[g]? = some (.cells (streamCells (.slice o n c) dv s) 82 (0, 0))) :
    Calls Try.prog 63 #[.pointer (some ⟨g, 0, none⟩)] w fun e w' => e = .returned (.slice o n c) ∧ w' = w.setCell ⟨g, 0, none⟩ (.slice none 0 0) := by
  have q0 : w.cell? ⟨g, 0, none⟩ = some (.slice o n c) := cell_of_block hg 0
  have f0 := unfrozen_of_block hg 0
  clear hg
  go_enter Try.func63, Try.ntmps63
  go_wp2_with fail
  go_ret
  exact ⟨rfl, rfl⟩
theorem lists_two {w : World} {a b : Value} {xs ys : List Nat} (ha : bytesIn w a xs) (hb : bytesIn w b ys) : listsIn (w.alloc (.cells #[a, b] 36)) (.slice (some ⟨w.heap.size, 0, none⟩) 2 2) [xs, ys] := by
  have hn : Below w.heap.size w (w.alloc (.cells #[a, b] 36)) := (Below.refl _ _).alloc (Nat.le_refl _) _
  refine ⟨[a, b], .inr ⟨w.heap.size, 0, 2, rfl, ?_, Nat.le_refl _, fun j z hj => ?_⟩, rfl, fun j u zs h1 h2 => ?_⟩
  · show _ < (w.heap.push _).size
    simp
  · rw [Nat.zero_add, cell_of_block (heap_alloc_new w _) j, ← Array.getElem?_toList]
    exact hj
  · match j, h1, h2 with
    | 0, h1, h2 => obtain rfl := Option.some.inj h1; obtain rfl := Option.some.inj h2; exact listed_on ha hn
    | 1, h1, h2 => obtain rfl := Option.some.inj h1; obtain rfl := Option.some.inj h2; exact listed_on hb hn
    | j + 2, h1, h2 => simp at h1
theorem lists_three {w : World} {a b c : Value} {xs ys zs : List Nat} (ha : bytesIn w a xs) (hb : bytesIn w b ys) (hc : bytesIn w c zs) : listsIn (w.alloc (.cells #[a, b, c] 36)) (.slice (some ⟨w.heap.size, 0, none⟩) 3 3) [xs, ys, zs] := by
  have hn : Below w.heap.size w (w.alloc (.cells #[a, b, c] 36)) := (Below.refl _ _).alloc (Nat.le_refl _) _
  refine ⟨[a, b, c], .inr ⟨w.heap.size, 0, 3, rfl, ?_, Nat.le_refl _, fun j z hj => ?_⟩, rfl, fun j u zs' h1 h2 => ?_⟩
  · show _ < (w.heap.push _).size
    simp
  · rw [Nat.zero_add, cell_of_block (heap_alloc_new w _) j, ← Array.getElem?_toList]
    exact hj
  · match j, h1, h2 with
    | 0, h1, h2 => obtain rfl := Option.some.inj h1; obtain rfl := Option.some.inj h2; exact listed_on ha hn
    | 1, h1, h2 => obtain rfl := Option.some.inj h1; obtain rfl := Option.some.inj h2; exact listed_on hb hn
    | 2, h1, h2 => obtain rfl := Option.some.inj h1; obtain rfl := Option.some.inj h2; exact listed_on hc hn
    | j + 3, h1, h2 => simp at h1
/-- What Write tells behind the head. -/
def nextOf (all zs : List Nat) : List Nat := bytesAt (outOf (all ++ zs)) ((outOf all).length / 8) ((outOf (all ++ zs)).length / 8 - (outOf all).length / 8)
def restOf (all : List Nat) : List Nat := bytesAt (endOf all) ((outOf all).length / 8) ((endOf all).length / 8 - (outOf all).length / 8)
def ZWrote (W : World) (O : Nat → Prop) (v : Value) (all zs : List Nat) (begun : Bool) (e : Ending) (w' : World) : Prop :=
  ∃ u O', e = .returned (.tuple #[u, .int .i64 0]) ∧ bytesIn w' u (headOf begun ++ nextOf all zs) ∧ (∀ b, inBlock u b → W.heap.size ≤ b ∧ ¬ O' b) ∧ isZW w' v (all ++ zs) true O' ∧ (∀ b, O' b → O b ∨ W.heap.size ≤ b) ∧ Past O W w' ∧ w'.ownsRow W.heap.size 5 1 u (headOf begun ++ nextOf all zs).length ((headOf begun ++ nextOf all zs).map byteVal) ∧ (∀ k, u.ownBlock = some k → ¬ O' k)
def ZEnded (W : World) (O : Nat → Prop) (v : Value) (all : List Nat) (begun : Bool) (e : Ending) (w' : World) : Prop :=
  ∃ u O', e = .returned (.tuple #[u, .int .i64 0]) ∧ bytesIn w' u (headOf begun ++ restOf all ++ fourOf (sumOf all)) ∧ (∀ b, inBlock u b → W.heap.size ≤ b ∧ ¬ O' b) ∧ isZE w' v O' ∧ (∀ b, O' b → O b) ∧ Past O W w'
theorem nextOf_length (all zs : List Nat) (h : (all ++ zs).length ≤ 100000000) : (nextOf all zs).length ≤ 200000000 := by
  unfold nextOf
  rw [bytesAt_length]
  have := outOf_len (all ++ zs)
  omega
theorem restOf_length (all : List Nat) (h : all.length ≤ 100000000) : (restOf all).length ≤ 200000000 := by
  unfold restOf
  rw [bytesAt_length]
  have := end_len all
  omega
end Go.Proofs.Ytefdlidjdmlnaaa.Fx
