/-
  The walk of BitsNone: objects that no call made. The conditions are that the numbers are of their kinds.
-/
import Derived.Test.YtenaokijjancgaaBitsCa
import Derived.Test.YtenaokijjancgaaBitsA
namespace Go.Proofs.Ytenaokijjancgaa.Fx
open Go Go.RowKit Go.Joins
set_option linter.unusedVariables false
/-- No object, or one that no call made. -/
def Nobody (w : World) (v : Value) : Prop := v = .pointer none ∨ ∃ g, v = .pointer (some ⟨g, 0, none⟩) ∧ w.cell? ⟨g, 0, none⟩ = some (.pointer none)
theorem nobody_box (W : World) (ty ty2 : TypeId) : Nobody ((W.alloc (.cells #[.pointer none] ty)).alloc (.cells #[.pointer none, .pointer (some ⟨W.heap.size, 0, none⟩)] ty2)) (.pointer (some ⟨W.heap.size, 0, none⟩)) :=
  .inr ⟨_, rfl, cell_of_block (alloc_old (heap_alloc_new W _)) 0⟩
theorem put_none (w : World) (v : Value) (n k : Int) (h : Nobody w v) : Calls Try.prog 11 #[v, .int .u32 n, .int .i64 k] w fun e w' => e = .returned (.int .i64 1) ∧ w = w' := by
  rcases h with rfl | ⟨g, rfl, q⟩ <;>
  · go_enter Try.func11, Try.ntmps11
    go_wp2_with fail
    go_ret
    first | exact ⟨rfl, rfl⟩ | simp
theorem align_none (w : World) (v : Value) (h : Nobody w v) : Calls Try.prog 14 #[v] w fun e w' => e = .returned (.int .i64 1) ∧ w = w' := by
  rcases h with rfl | ⟨g, rfl, q⟩ <;>
  · go_enter Try.func14, Try.ntmps14
    go_wp2_with fail
    go_ret
    first | exact ⟨rfl, rfl⟩ | simp
theorem take_none (w : World) (v : Value) (h : Nobody w v) : Calls Try.prog 13 #[v] w fun e w' => e = .returned (.slice none 0 0) ∧ w = w' := by
  rcases h with rfl | ⟨g, rfl, q⟩ <;>
  · go_enter Try.func13, Try.ntmps13
    go_wp2_with fail
    go_ret
    first | exact ⟨rfl, rfl⟩ | simp
theorem bits_none (w : World) (v : Value) (h : Nobody w v) : Calls Try.prog 12 #[v] w fun e w' => e = .returned (.int .i64 0) ∧ w = w' := by
  rcases h with rfl | ⟨g, rfl, q⟩ <;>
  · go_enter Try.func12, Try.ntmps12
    go_wp2_with fail
    go_ret
    first | exact ⟨rfl, rfl⟩ | simp
theorem get_none (w : World) (v : Value) (k : Int) (h : Nobody w v) : Calls Try.prog 17 #[v, .int .i64 k] w fun e w' => e = .returned (.tuple #[.int .u32 0, .int .i64 1]) ∧ w = w' := by
  rcases h with rfl | ⟨g, rfl, q⟩ <;>
  · go_enter Try.func17, Try.ntmps17
    go_wp2_with fail
    refine bodyPost_ret (v := .tuple #[.int .u32 0, .int .i64 1]) (by simp [results, Try.results17, asAddr, go_sem]) rfl ?_
    first | exact ⟨rfl, rfl⟩ | simp
theorem ralign_none (w : World) (v : Value) (h : Nobody w v) : Calls Try.prog 18 #[v] w fun e w' => e = .returned (.int .i64 1) ∧ w = w' := by
  rcases h with rfl | ⟨g, rfl, q⟩ <;>
  · go_enter Try.func18, Try.ntmps18
    go_wp2_with fail
    go_ret
    first | exact ⟨rfl, rfl⟩ | simp
theorem at_none (w : World) (v : Value) (h : Nobody w v) : Calls Try.prog 19 #[v] w fun e w' => e = .returned (.int .i64 0) ∧ w = w' := by
  rcases h with rfl | ⟨g, rfl, q⟩ <;>
  · go_enter Try.func19, Try.ntmps19
    go_wp2_with fail
    go_ret
    first | exact ⟨rfl, rfl⟩ | simp
set_option maxHeartbeats 4000000 in
set_option maxRecDepth 100000 in
theorem none_any {isW isR : World → Value → List Bool → Nat → (Nat → Prop) → Prop} (D : Does isW isR) (n k : Int) (hn : 0 ≤ n ∧ n ≤ 4294967295) (hk : -9223372036854775808 ≤ k ∧ k ≤ 9223372036854775807) (W : World) :
    Calls Try.prog 6 #[.int .u32 n, .int .i64 k] W fun e w' => e = .returned (.bool true) ∧ Below W.heap.size W w' := by
  go_enter Try.func6, Try.ntmps6
  go_wp2_with fail
  refine wp_loop_rounds 3 ?_
  rw [rounds_succ]
  go_wp2_with (first | (go_at_call 11; refine (put_none _ _ _ _ (by first | exact nobody_box _ _ _ | exact .inl rfl)).mono ?_; rintro e w9 ⟨rfl, rfl⟩) | (go_at_call 14; refine (align_none _ _ (by first | exact nobody_box _ _ _ | exact .inl rfl)).mono ?_; rintro e w9 ⟨rfl, rfl⟩) | (go_at_call 13; refine (take_none _ _ (by first | exact nobody_box _ _ _ | exact .inl rfl)).mono ?_; rintro e w9 ⟨rfl, rfl⟩) | (go_at_call 12; refine (bits_none _ _ (by first | exact nobody_box _ _ _ | exact .inl rfl)).mono ?_; rintro e w9 ⟨rfl, rfl⟩) | (go_at_call 17; refine (get_none _ _ _ (by first | exact nobody_box _ _ _ | exact .inl rfl)).mono ?_; rintro e w9 ⟨rfl, rfl⟩) | (go_at_call 18; refine (ralign_none _ _ (by first | exact nobody_box _ _ _ | exact .inl rfl)).mono ?_; rintro e w9 ⟨rfl, rfl⟩) | (go_at_call 19; refine (at_none _ _ (by first | exact nobody_box _ _ _ | exact .inl rfl)).mono ?_; rintro e w9 ⟨rfl, rfl⟩) | (go_at_call 20; refine (awake_any D _).mono ?_; rintro e w9 ⟨rfl, hb9⟩))
  rw [rounds_succ]
  go_wp2_with (first | (go_at_call 11; refine (put_none _ _ _ _ (by first | exact nobody_box _ _ _ | exact .inl rfl)).mono ?_; rintro e w9 ⟨rfl, rfl⟩) | (go_at_call 14; refine (align_none _ _ (by first | exact nobody_box _ _ _ | exact .inl rfl)).mono ?_; rintro e w9 ⟨rfl, rfl⟩) | (go_at_call 13; refine (take_none _ _ (by first | exact nobody_box _ _ _ | exact .inl rfl)).mono ?_; rintro e w9 ⟨rfl, rfl⟩) | (go_at_call 12; refine (bits_none _ _ (by first | exact nobody_box _ _ _ | exact .inl rfl)).mono ?_; rintro e w9 ⟨rfl, rfl⟩) | (go_at_call 17; refine (get_none _ _ _ (by first | exact nobody_box _ _ _ | exact .inl rfl)).mono ?_; rintro e w9 ⟨rfl, rfl⟩) | (go_at_call 18; refine (ralign_none _ _ (by first | exact nobody_box _ _ _ | exact .inl rfl)).mono ?_; rintro e w9 ⟨rfl, rfl⟩) | (go_at_call 19; refine (at_none _ _ (by first | exact nobody_box _ _ _ | exact .inl rfl)).mono ?_; rintro e w9 ⟨rfl, rfl⟩) | (go_at_call 20; refine (awake_any D _).mono ?_; rintro e w9 ⟨rfl, hb9⟩))
  rw [rounds_succ]
  go_upto_region 9 with fail
  have hb := below_two W (.cells #[.pointer none] 58) (.cells #[.pointer none, .pointer (some ⟨W.heap.size, 0, none⟩)] 22)
  obtain ⟨w1, e1⟩ : ∃ w1, w1 = (W.alloc (.cells #[.pointer none] 58)).alloc (.cells #[.pointer none, .pointer (some ⟨W.heap.size, 0, none⟩)] 22) := ⟨_, rfl⟩
  rw [← e1] at hb ⊢
  clear e1
  go_wp2_with fail
  refine wp_loop_rounds 3 ?_
  rw [rounds_succ]
  go_wp2_with (first | (go_at_call 11; refine (put_none _ _ _ _ (by first | exact nobody_box _ _ _ | exact .inl rfl)).mono ?_; rintro e w9 ⟨rfl, rfl⟩) | (go_at_call 14; refine (align_none _ _ (by first | exact nobody_box _ _ _ | exact .inl rfl)).mono ?_; rintro e w9 ⟨rfl, rfl⟩) | (go_at_call 13; refine (take_none _ _ (by first | exact nobody_box _ _ _ | exact .inl rfl)).mono ?_; rintro e w9 ⟨rfl, rfl⟩) | (go_at_call 12; refine (bits_none _ _ (by first | exact nobody_box _ _ _ | exact .inl rfl)).mono ?_; rintro e w9 ⟨rfl, rfl⟩) | (go_at_call 17; refine (get_none _ _ _ (by first | exact nobody_box _ _ _ | exact .inl rfl)).mono ?_; rintro e w9 ⟨rfl, rfl⟩) | (go_at_call 18; refine (ralign_none _ _ (by first | exact nobody_box _ _ _ | exact .inl rfl)).mono ?_; rintro e w9 ⟨rfl, rfl⟩) | (go_at_call 19; refine (at_none _ _ (by first | exact nobody_box _ _ _ | exact .inl rfl)).mono ?_; rintro e w9 ⟨rfl, rfl⟩) | (go_at_call 20; refine (awake_any D _).mono ?_; rintro e w9 ⟨rfl, hb9⟩))
  rw [rounds_succ]
  go_wp2_with (first | (go_at_call 11; refine (put_none _ _ _ _ (by first | exact nobody_box _ _ _ | exact .inl rfl)).mono ?_; rintro e w9 ⟨rfl, rfl⟩) | (go_at_call 14; refine (align_none _ _ (by first | exact nobody_box _ _ _ | exact .inl rfl)).mono ?_; rintro e w9 ⟨rfl, rfl⟩) | (go_at_call 13; refine (take_none _ _ (by first | exact nobody_box _ _ _ | exact .inl rfl)).mono ?_; rintro e w9 ⟨rfl, rfl⟩) | (go_at_call 12; refine (bits_none _ _ (by first | exact nobody_box _ _ _ | exact .inl rfl)).mono ?_; rintro e w9 ⟨rfl, rfl⟩) | (go_at_call 17; refine (get_none _ _ _ (by first | exact nobody_box _ _ _ | exact .inl rfl)).mono ?_; rintro e w9 ⟨rfl, rfl⟩) | (go_at_call 18; refine (ralign_none _ _ (by first | exact nobody_box _ _ _ | exact .inl rfl)).mono ?_; rintro e w9 ⟨rfl, rfl⟩) | (go_at_call 19; refine (at_none _ _ (by first | exact nobody_box _ _ _ | exact .inl rfl)).mono ?_; rintro e w9 ⟨rfl, rfl⟩) | (go_at_call 20; refine (awake_any D _).mono ?_; rintro e w9 ⟨rfl, hb9⟩))
  rw [rounds_succ]
  go_wp2_with (first | (go_at_call 11; refine (put_none _ _ _ _ (by first | exact nobody_box _ _ _ | exact .inl rfl)).mono ?_; rintro e w9 ⟨rfl, rfl⟩) | (go_at_call 14; refine (align_none _ _ (by first | exact nobody_box _ _ _ | exact .inl rfl)).mono ?_; rintro e w9 ⟨rfl, rfl⟩) | (go_at_call 13; refine (take_none _ _ (by first | exact nobody_box _ _ _ | exact .inl rfl)).mono ?_; rintro e w9 ⟨rfl, rfl⟩) | (go_at_call 12; refine (bits_none _ _ (by first | exact nobody_box _ _ _ | exact .inl rfl)).mono ?_; rintro e w9 ⟨rfl, rfl⟩) | (go_at_call 17; refine (get_none _ _ _ (by first | exact nobody_box _ _ _ | exact .inl rfl)).mono ?_; rintro e w9 ⟨rfl, rfl⟩) | (go_at_call 18; refine (ralign_none _ _ (by first | exact nobody_box _ _ _ | exact .inl rfl)).mono ?_; rintro e w9 ⟨rfl, rfl⟩) | (go_at_call 19; refine (at_none _ _ (by first | exact nobody_box _ _ _ | exact .inl rfl)).mono ?_; rintro e w9 ⟨rfl, rfl⟩) | (go_at_call 20; refine (awake_any D _).mono ?_; rintro e w9 ⟨rfl, hb9⟩))
  go_ret
  have hb2 := below_two w1 (.cells #[.pointer none] 60) (.cells #[.pointer none, .pointer (some ⟨w1.heap.size, 0, none⟩)] 32)
  exact ⟨rfl, (hb.trans (hb2.mono hb.size)).trans (hb9.mono (Nat.le_trans hb.size hb2.size))⟩
end Go.Proofs.Ytenaokijjancgaa.Fx
