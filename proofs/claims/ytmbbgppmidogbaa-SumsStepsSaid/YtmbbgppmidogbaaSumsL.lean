/-
  Copies of bytes, their likeness, a place that is picked. The conditions stand in each.
-/
import Derived.Test.YtmbbgppmidogbaaSumsR
import Derived.Laws.BytesArg
import Derived.Lib.SmallJoins
namespace Go.Proofs.Ytmbbgppmidogbaa.Fx
open Go Go.RowKit
set_option linter.unusedVariables false
theorem pick_any (n m : Int) (hn : -9223372036854775808 ≤ n) (kn : n ≤ 9223372036854775807) (hm : 0 ≤ m) (km : m ≤ 9223372036854775807) (w : World) :
    Calls Try.prog 16 #[.int .i64 n, .int .i64 m] w fun e w' => (∃ p : Nat, e = .returned (.int .i64 (p : Int)) ∧ (1 ≤ m → (p : Int) < m)) ∧ w = w' := by
  by_cases h1 : m ≤ 1
  · have d1 : decide (m ≤ 1) = true := decide_eq_true h1
    go_enter Try.func16, Try.ntmps16
    go_wp2
    go_ret
    exact ⟨⟨0, rfl, fun h => by omega⟩, rfl⟩
  · have d1 : decide (m ≤ 1) = false := decide_eq_false h1
    have hz : ¬ m = 0 := by omega
    have hz2 : (m == 0) = false := by simpa using hz
    by_cases h2 : n < 0
    · have d2 : decide (n < 0) = true := decide_eq_true h2
      have hq : (-(n + 1)).tmod m = (-(n + 1)) % m := Int.tmod_eq_emod_of_nonneg (by omega)
      have hr0 := Int.emod_nonneg (-(n + 1)) hz
      have hr1 := Int.emod_lt_of_pos (-(n + 1)) (show 0 < m by omega)
      generalize (-(n + 1)) % m = r at *
      go_enter Try.func16, Try.ntmps16
      go_wp2
      go_ret
      exact ⟨⟨(m - 1 - r).toNat, by rw [Int.toNat_of_nonneg (by omega)]; rfl, fun h => by omega⟩, rfl⟩
    · have d2 : decide (n < 0) = false := decide_eq_false h2
      have hq : n.tmod m = n % m := Int.tmod_eq_emod_of_nonneg (by omega)
      have hr0 := Int.emod_nonneg n hz
      have hr1 := Int.emod_lt_of_pos n (show 0 < m by omega)
      generalize n % m = r at *
      go_enter Try.func16, Try.ntmps16
      go_wp2
      go_ret
      exact ⟨⟨r.toNat, by rw [Int.toNat_of_nonneg (by omega)]; rfl, fun h => by omega⟩, rfl⟩
def str (zs : List Nat) : ByteArray := strOfNums (zs.map fun (n : Nat) => (n : Int))
theorem convert_reads {w : World} {v : Value} {zs : List Nat} (h : reads w v zs) : (convert 22 9 v).run Try.prog w = .ok (.string (str zs)) w := by
  rcases h with ⟨⟨o, cap, rfl, ho⟩, rfl⟩ | ⟨b, off, cap, rfl, hle, hlt, hc⟩
  · cases o with
    | none => exact run_convert_bytes_nil w 22 5 Try.underlying22 Try.underlying5 0 cap 9 Try.underlying9
    | some a =>
      have hl : (loadCells a 0).run Try.prog w = .ok (([] : List Int).map (Value.int .u8)).toArray w := run_loadCells_list (P := Try.prog) w a [] (fun j v hj => by simp at hj)
      rw [run_convert_bytes_string w 22 9 5 (some a) 0 cap Try.underlying22 Try.underlying5 Try.underlying9, run_bytesToString w a 0 cap [] hl]
      rfl
  · refine run_convert_bytes_arg w 22 5 Try.underlying22 Try.underlying5 b off zs.length cap (zs.map fun (n : Nat) => (n : Int)) (by simp) (fun i hi => ?_) 9 Try.underlying9
    rw [hc i hi]
    simp [List.getD, hi]
theorem same_any (p q : Value) (zs : List Nat) (w : World) (hp : reads w p zs) (hq : reads w q zs) :
    Calls Try.prog 15 #[p, q] w fun e w' => e = .returned (.bool true) ∧ w = w' := by
  have c1 := convert_reads hp
  have c2 := convert_reads hq
  clear hp hq
  generalize str zs = S at *
  go_enter Try.func15, Try.ntmps15
  go_wp2
  go_ret
  first | exact ⟨rfl, rfl⟩ | simp
/-! ### Copies -/
def cells (zs : List Nat) : List Value := zs.map fun (n : Nat) => .int .u8 (n : Int)
theorem cells_length (zs : List Nat) : (cells zs).length = zs.length := by simp [cells]
theorem cells_get (zs : List Nat) (j : Nat) (hj : j < zs.length) : (cells zs)[j]? = some (.int .u8 (zs.getD j 0 : Nat)) := by simp [cells, hj]
theorem cells_step (zs : List Nat) (k : Nat) (hk : k < zs.length) : cells (zs.take (k + 1)) = cells (zs.take k) ++ [.int .u8 (zs.getD k 0 : Nat)] := by
  unfold cells
  rw [List.take_add_one, List.map_append, List.getElem?_eq_getElem hk, Option.toList_some]
  simp [List.getD, hk]
theorem own_reads {w : World} {base e : Nat} {v : Value} {n : Nat} {zs : List Nat} (h : w.ownsRow base e 1 v n (cells zs)) : reads w v zs := by
  have hl := h.1
  rw [cells_length, Nat.mul_one] at hl
  rcases h.2 with ⟨rfl, rfl⟩ | ⟨g, cap, cur, rfl, hb, hg, hn, hm, hs, ht⟩
  · exact .inl ⟨⟨none, 0, rfl, fun _ => rfl⟩, List.eq_nil_of_length_eq_zero hl⟩
  · subst hl
    refine .inr ⟨g, 0, cap, rfl, by omega, (Array.getElem?_eq_some_iff.1 hg).1, fun j hj => ?_⟩
    have := h.cells (g := g) rfl j _ (cells_get zs j hj)
    have hadd : (⟨g, 0, none⟩ : Addr).add j = ⟨g, 0 + j, none⟩ := by unfold Addr.add; split <;> simp_all
    rwa [hadd] at this
theorem info8 : (Try.prog.info? 5).map (fun i => (i.zero, i.size, i.bytes)) = some (some (.int .u8 0), 1, 1) := by kernel_rfl
set_option maxHeartbeats 1600000 in
set_option maxRecDepth 100000 in
theorem copy_row (b off cap len : Nat) (zs : List Nat) (w : World) (hz : zs.length = len) (hbig : len ≤ 140737488355328) (hlt : b < w.heap.size) (hc : ∀ j, j < len → w.cell? ⟨b, off + j, none⟩ = some (.int .u8 (zs.getD j 0 : Nat))) :
    Calls Try.prog 14 #[.slice (some ⟨b, off, none⟩) len cap] w fun e w' => ∃ v, e = .returned v ∧ w'.ownsRow w.heap.size 5 1 v len (cells zs) ∧ Below w.heap.size w w' := by
  obtain ⟨i0, hi, hz0, hz1, hz2⟩ := info_parts info8
  have HZ := Lib.hid hz
  have HC := Lib.hid hc
  clear hz hc
  go_enter Try.func14, Try.ntmps14
  go_wp2
  go_loopw [3, 4] (fun v i wr => ∃ k : Nat, k ≤ len ∧ i = .int .i64 k ∧ wr.ownsRow w.heap.size 5 1 v k (cells (zs.take k)) ∧ Below w.heap.size w wr) (fun _ i _ => len - (intOf i).toNat)
  case atStart => exact ⟨0, Nat.zero_le _, rfl, World.ownsRow_nil _ _ _ _, Below.refl _ _⟩
  case round =>
    obtain ⟨k, hk, rfl, hown, hbl⟩ := hrel
    have hsz := hbl.size
    by_cases hkl : k < len
    · have hd : decide ((k : Int) < (len : Int)) = true := decide_eq_true (by omega)
      have hcell : wr.cell? ⟨b, off + k, none⟩ = some (.int .u8 (zs.getD k 0 : Nat)) := (hbl.cell (p := ⟨b, off + k, none⟩) hlt).trans (HC.out k hkl)
      have HS := Lib.hid (cells_step zs k (by rw [HZ.out]; exact hkl))
      generalize zs.getD k 0 = Z at *
      go_wp2_with (at_builtin; refine wpList_append_own _ rfl _ _ 22 rfl w.heap.size 5 i0 (.int .u8 0) 1 1 Try.underlying22 hi hz0 hz1 hz2 rfl (by decide) _ _ _ rfl (hown.alloc _) ⟨wr.heap.size, 0, none⟩ 1 1 [.int .u8 (Z : Int)] rfl rfl ?c1 ?c2 ?c3 ?c4 ?c5 ?_)
      case c1 =>
        intro j u hj
        match j, hj with
        | 0, hj => simp at hj; subst hj; simp [Addr.add]
      case c2 => intro u hu; simp at hu; subst hu; rfl
      case c3 => unfold maxLen; omega
      case c4 => omega
      case c5 => simp; omega
      · intro v' w1 hown' hgrow _
        have hb1 : Below w.heap.size w w1 := (hbl.alloc hsz _).grown hgrow (by simp; omega) (fun q hq => (hown.lt q hq).1)
        have hown2 : w1.ownsRow w.heap.size 5 1 v' (k + 1) (cells (zs.take (k + 1))) := by rw [HS.out]; exact hown'
        clear hown' hgrow hown hbl hcell
        go_wp2
        go_roundw
        case rel => exact ⟨k + 1, by omega, by go_num, hown2, hb1⟩
        case measure => simp [intOf]; omega
    · have hd : decide ((k : Int) < (len : Int)) = false := decide_eq_false (by omega)
      obtain rfl : k = len := by omega
      have HT : Hid (zs.take k = zs) := by
        show zs.take k = zs
        rw [← HZ.out, List.take_length]
      go_wp2
      go_ret
      exact ⟨_, rfl, by rw [HT.out] at hown; exact hown, hbl⟩
theorem copy_nil (o : Option Addr) (cap : Nat) (w : World) :
    Calls Try.prog 14 #[.slice o 0 cap] w fun e w' => e = .returned (.slice none 0 0) ∧ w = w' := by
  go_enter Try.func14, Try.ntmps14
  go_wp2
  go_rounds 1
  all_goals go_wp2
  all_goals go_ret
  all_goals exact ⟨rfl, rfl⟩
theorem copy_any (v : Value) (zs : List Nat) (w : World) (hr : reads w v zs) (hl : zs.length ≤ 140737488355328) :
    Calls Try.prog 14 #[v] w fun e w' => ∃ u, e = .returned u ∧ w'.ownsRow w.heap.size 5 1 u zs.length (cells zs) ∧ Below w.heap.size w w' := by
  rcases hr with ⟨⟨o, cap, rfl, ho⟩, rfl⟩ | ⟨b, off, cap, rfl, hle, hlt, hc⟩
  · refine (copy_nil o cap w).mono ?_
    rintro e w' ⟨rfl, rfl⟩
    exact ⟨_, rfl, World.ownsRow_nil _ _ _ _, Below.refl _ _⟩
  · exact copy_row b off cap zs.length zs w rfl hl hlt hc
theorem len_reads {W : World} {v : Value} {zs : List Nat} (h : reads W v zs) (w : World) : (Builtin.len_ #[22] 3 #[v]).run Try.prog w = .ok (.int .i64 (zs.length : Int)) w := by
  rcases h with ⟨⟨o, cap, rfl, ho⟩, rfl⟩ | ⟨b, off, cap, rfl, _, _, _⟩
  · exact run_len_slice w 22 3 o 0 cap Try.underlying22
  · exact run_len_slice w 22 3 (some ⟨b, off, none⟩) zs.length cap Try.underlying22
/-- What both calls do: the statements' walks lean on this alone. -/
structure Does : Prop where
  crc : ∀ (s : Nat) (v : Value) (zs : List Nat) (w : World), s ≤ 4294967295 → reads w v zs → bytes zs → zs.length ≤ 140737488355328 →
    Calls Try.prog 11 #[.int .u32 (s : Int), v] w fun e w' => e = .returned (.int .u32 (crc s zs : Nat)) ∧ Below w.heap.size w w'
  adler : ∀ (s : Nat) (v : Value) (zs : List Nat) (w : World), s ≤ 4294967295 → reads w v zs → bytes zs → zs.length ≤ 140737488355328 →
    Calls Try.prog 9 #[.int .u32 (s : Int), v] w fun e w' => e = .returned (.int .u32 (adler s zs : Nat)) ∧ Below w.heap.size w w'
end Go.Proofs.Ytmbbgppmidogbaa.Fx
