/-
  The small calls of BitsBack; a row of bytes, a row of calls that grow. The conditions stand in each.
-/
import Derived.StillTailTactics
import Derived.Laws.Bits64
import Derived.Test.YtenaokijjancgaaBitsBackS
import Derived.Test.YtenaokijjancgaaBitsCp
import Derived.Test.YtenaokijjancgaaBitsA
namespace Go.Proofs.Ytenaokijjancgaa.Fx
open Go Go.RowKit Go.Joins
set_option linter.unusedVariables false
theorem pick33 (n : Int) (hn : -9223372036854775808 ≤ n ∧ n ≤ 9223372036854775807) (w : World) :
    Calls Try.prog 27 #[.int .i64 n, .int .i64 33] w fun e w' => (∃ p : Nat, e = .returned (.int .i64 (p : Int)) ∧ p ≤ 32) ∧ w = w' := by
  obtain ⟨h0, h1⟩ := hn
  by_cases h2 : n < 0
  · have d2 : decide (n < 0) = true := decide_eq_true h2
    have hq : (-(n + 1)).tmod 33 = (-(n + 1)) % 33 := Int.tmod_eq_emod_of_nonneg (by omega)
    have hr0 := Int.emod_nonneg (-(n + 1)) (show (33 : Int) ≠ 0 by decide)
    have hr1 := Int.emod_lt_of_pos (-(n + 1)) (show (0 : Int) < 33 by decide)
    generalize (-(n + 1)) % 33 = r at *
    go_enter Try.func27, Try.ntmps27
    go_wp2
    go_ret
    exact ⟨⟨(32 - r).toNat, by rw [Int.toNat_of_nonneg (by omega)]; rfl, by omega⟩, rfl⟩
  · have d2 : decide (n < 0) = false := decide_eq_false h2
    have hq : n.tmod 33 = n % 33 := Int.tmod_eq_emod_of_nonneg (by omega)
    have hr0 := Int.emod_nonneg n (show (33 : Int) ≠ 0 by decide)
    have hr1 := Int.emod_lt_of_pos n (show (0 : Int) < 33 by decide)
    generalize n % 33 = r at *
    go_enter Try.func27, Try.ntmps27
    go_wp2
    go_ret
    exact ⟨⟨r.toNat, by rw [Int.toNat_of_nonneg hr0]; rfl, by omega⟩, rfl⟩
theorem mask64 (n p : Nat) (hn : n ≤ 4294967295) (hp : p ≤ 32) : ∃ (P M N : Nat), IntKind.u64.wrap ((2 : Int) ^ p) = (P : Int) ∧ IntKind.u64.wrap ((P : Int) - 1) = (M : Int) ∧ bits .and .u64 (n : Int) (M : Int) = (N : Int) ∧ N = n % 2 ^ p ∧ N ≤ 4294967295 ∧ P ≤ 4294967296 ∧ M ≤ 4294967295 ∧ 1 ≤ P := by
  have hb := pow_le p hp
  have hpos : 0 < 2 ^ p := Nat.pow_pos (by decide)
  have hm : n % 2 ^ p ≤ n := Nat.mod_le _ _
  refine ⟨2 ^ p, 2 ^ p - 1, n % 2 ^ p, ?_, ?_, ?_, rfl, by omega, hb, by omega, hpos⟩
  · rw [pow_int, IntKind.wrap_u64]
    omega
  · rw [IntKind.wrap_u64]
    omega
  · rw [u64_and_nat n _ (by omega) (by omega), Nat.and_two_pow_sub_one_eq_mod]
/-- A list of bytes, laid behind a row of the call's own: where the new row lies is told. -/
theorem append_bytes {B : Nat} {w : World} {av u : Value} {n : Nat} {zs ys : List Nat} (hown : w.ownsRow B 5 1 av n (zs.map byteVal)) (hu : bytesIn w u ys) (hl : n + ys.length ≤ 140737488355328) (hB : B ≤ w.heap.size) :
    ∃ v' w', (Builtin.append_ #[28, 28] 28 #[av, u]).run Try.prog w = .ok v' w' ∧ (w'.ownsRow B 5 1 v' (n + ys.length) ((zs ++ ys).map byteVal) ∧ w.grownBy w' av.ownBlock ∧ (∀ k, v'.ownBlock = some k → av.ownBlock = some k ∨ w.heap.size ≤ k)) := by
  obtain ⟨i0, hi, hz0, hz1, hz2⟩ := info_parts info8
  rcases hu with ⟨⟨q, cap, rfl, hq⟩, rfl⟩ | ⟨b, off, cap, rfl, hlt, hle, hc⟩
  · rw [List.append_nil, List.length_nil, Nat.add_zero]
    cases q with
    | none =>
      obtain rfl : cap = 0 := hq rfl
      exact ⟨av, w, run_append_owned_none (P := Try.prog) (w := w) B _ _ 5 i0 1 Try.underlying28 hi av n _ hown, hown, ⟨rfl, rfl, rfl, Nat.le_refl _, fun _ _ _ => rfl⟩, fun k hk => .inl hk⟩
    | some ad =>
      obtain ⟨v', w', h1, h2, h3, h4⟩ := run_append_lies (P := Try.prog) w B _ 28 5 i0 (.int .u8 0) 1 1 Try.underlying28 hi hz0 hz1 hz2 rfl (by decide) av n _ hown ad 0 cap [] rfl (fun j u hj => by simp at hj) (fun u hu => by cases hu) (by unfold maxLen; simp at hl; omega) (by simp at hl; omega) hB
      rw [List.append_nil] at h2
      exact ⟨v', w', h1, h2, h3, h4⟩
  · rw [List.map_append]
    refine run_append_lies (P := Try.prog) w B _ 28 5 i0 (.int .u8 0) 1 1 Try.underlying28 hi hz0 hz1 hz2 rfl (by decide) av n _ hown ⟨b, off, none⟩ ys.length cap (ys.map byteVal) (by rw [List.length_map, Nat.mul_one]) (fun j u hj => ?_) (fun u hu => ?_) (by unfold maxLen; omega) (by omega) hB
    · rw [List.getElem?_map] at hj
      cases hzj : ys[j]? with
      | none => rw [hzj] at hj; cases hj
      | some y =>
        rw [hzj] at hj
        obtain rfl := Option.some.inj hj
        rw [Addr.add_lit]
        exact hc j y hzj
    · obtain ⟨y, _, rfl⟩ := List.mem_map.mp hu
      rfl
theorem info42 : (Try.prog.info? 42).map (fun i => (i.zero, i.size, i.bytes)) = some (some (.agg #[.int .i64 0, .int .u32 0, .int .i64 0]), 3, 24) := by kernel_rfl
/-- A call, laid behind a row of the call's own. -/
theorem append_call {B : Nat} {w : World} {lv : Value} {n g : Nat} {ps : List Put1} {c : Put1} (hown : w.ownsRow B 42 3 lv n (cells3 ps)) (hg : w.heap[g]? = some (.cells #[.int .i64 c.kind, .int .u32 (c.n : Int), .int .i64 (c.k : Int)] 42 (0, 0))) (hl : n + 1 ≤ 1000000) (hB : B ≤ w.heap.size) :
    ∃ v' w', (Builtin.append_ #[37, 37] 37 #[lv, .slice (some ⟨g, 0, none⟩) 1 1]).run Try.prog w = .ok v' w' ∧ (w'.ownsRow B 42 3 v' (n + 1) (cells3 (ps ++ [c])) ∧ w.grownBy w' lv.ownBlock ∧ (∀ k, v'.ownBlock = some k → lv.ownBlock = some k ∨ w.heap.size ≤ k)) := by
  obtain ⟨i0, hi, hz0, hz1, hz2⟩ := info_parts info42
  rw [cells3_snoc]
  refine run_append_lies (P := Try.prog) w B _ 37 42 i0 (.agg #[.int .i64 0, .int .u32 0, .int .i64 0]) 3 24 Try.underlying37 hi hz0 hz1 hz2 rfl (by decide) lv n _ hown ⟨g, 0, none⟩ 1 1 [.int .i64 c.kind, .int .u32 (c.n : Int), .int .i64 (c.k : Int)] rfl (fun j u hj => ?_) (fun u hu => ?_) (by unfold maxLen; omega) (by omega) hB
  · rw [Addr.add_lit]
    match j, hj with
    | 0, hj => exact (cell_of_block hg 0).trans hj
    | 1, hj => exact (cell_of_block hg 1).trans hj
    | 2, hj => exact (cell_of_block hg 2).trans hj
    | j + 3, hj => simp at hj
  · simp at hu
    rcases hu with rfl | rfl | rfl <;> rfl
/-- Behind the first loop: a reader, a writer, the row of calls. -/
structure After (objW objR : World → Value → List Bool → Nat → (Nat → Prop) → Prop) (B : Nat) (w : World) (vw vr : Value) (A : List Bool) (T : Nat) (O1 : Nat → Prop) (t : Nat) (O3 : Nat → Prop) (lv : Value) (ps : List Put1) : Prop where
  iw : objW w vw A T O1
  ir : objR w vr A t O3
  lt3 : ∀ k, O3 k → k < w.heap.size
  lt1 : ∀ k, O1 k → k < w.heap.size
  own3 : ∀ k, O3 k → B ≤ k
  dis : ∀ k, O1 k → ¬ O3 k
  lst : w.ownsRow B 42 3 lv ps.length (cells3 ps)
  fl : ∀ k, lv.ownBlock = some k → ¬ O3 k
theorem After.call {isW isR : World → Value → List Bool → Nat → (Nat → Prop) → Prop} (D : Does isW isR) {B : Nat} {w w' : World} {vw vr : Value} {A : List Bool} {T t t' : Nat} {O1 O3 O' : Nat → Prop} {lv : Value} {ps : List Put1} (h : After isW isR B w vw vr A T O1 t O3 lv ps) (hi : isR w' vr A t' O') (hO : ∀ b, O' b → O3 b ∨ w.heap.size ≤ b) (hp : Past O3 w w') (hB : B ≤ w.heap.size) : After isW isR B w' vw vr A T O1 t' O' lv ps := by
  refine ⟨D.wkeep _ _ _ _ _ _ h.iw hp.size (fun k hk => hp.block k (h.lt1 k hk) (h.dis k hk)), hi, D.rlt _ _ _ _ _ hi, fun k hk => Nat.lt_of_lt_of_le (h.lt1 k hk) hp.size, fun k hk => ?_, fun k hk ho => ?_, ownsRow_hold h.lst (fun k hk => hp.block k (h.lst.lt k hk).2 (h.fl k hk)), fun k hk ho => ?_⟩
  · rcases hO k hk with h1 | h1
    · exact h.own3 k h1
    · omega
  · rcases hO k ho with h1 | h1
    · exact h.dis k hk h1
    · have := h.lt1 k hk
      omega
  · rcases hO k ho with h1 | h1
    · exact h.fl k hk h1
    · have := (h.lst.lt k hk).2
      omega
end Go.Proofs.Ytenaokijjancgaa.Fx
