/-
  The document's own answers of layer 6: the tables, finding a code, the match. The conditions stand in each.
-/
import Derived.Deep.QuietTactic
import Derived.BigQuiet
import Derived.Test.YtggkmbnogdikkaaDeflB
namespace Go.Proofs.Ytggkmbnogdikkaa.Fx
open Go Go.RowKit Go.Joins
set_option linter.unusedVariables false
def intVal (n : Nat) : Value := .int .i64 (n : Int)
abbrev intsIn (w : World) (v : Value) (l : List Nat) : Prop := listed intVal w v l
theorem lits_in (w : World) (l : List Nat) (n : Nat) (ty : TypeId) (hn : l.length = n) : intsIn (w.alloc (.cells (l.map intVal).toArray ty)) (.slice (some ⟨w.heap.size, 0, none⟩) n n) l := by
  subst hn
  refine .inr ⟨w.heap.size, 0, l.length, rfl, by show _ < (w.heap.push _).size; simp, Nat.le_refl _, fun j z hz => ?_⟩
  rw [Nat.zero_add, World.cell?_alloc_mark]
  simp [hz]
theorem two_rows (w : World) (l m : List Nat) (n k : Nat) (ty : TypeId) (hn : l.length = n) (hk : m.length = k) : intsIn ((w.alloc (.cells (l.map intVal).toArray ty)).alloc (.cells (m.map intVal).toArray ty)) (.slice (some ⟨w.heap.size, 0, none⟩) n n) l ∧ intsIn ((w.alloc (.cells (l.map intVal).toArray ty)).alloc (.cells (m.map intVal).toArray ty)) (.slice (some ⟨w.heap.size + 1, 0, none⟩) k k) m := by
  have hs : (w.alloc (.cells (l.map intVal).toArray ty)).heap.size = w.heap.size + 1 := by simp
  refine ⟨listed_on (lits_in w l n ty hn) ((Below.refl _ _).alloc (Nat.le_refl _) _), ?_⟩
  have := lits_in (w.alloc (.cells (l.map intVal).toArray ty)) m k ty hk
  rwa [hs] at this
set_option maxRecDepth 100000 in
theorem lengths_any (w : World) : Calls Try.prog 75 #[] w fun e w' => ∃ g h, e = .returned (.tuple #[.slice (some ⟨g, 0, none⟩) 29 29, .slice (some ⟨h, 0, none⟩) 29 29]) ∧ intsIn w' (.slice (some ⟨g, 0, none⟩) 29 29) lens ∧ intsIn w' (.slice (some ⟨h, 0, none⟩) 29 29) lext ∧ w.heap.size ≤ g ∧ w.heap.size ≤ h ∧ Below w.heap.size w w' := by
  go_enter Try.func75, Try.ntmps75
  go_wp2_with fail
  refine bodyPost_ret (v := .tuple #[.slice (some ⟨w.heap.size, 0, none⟩) 29 29, .slice (some ⟨w.heap.size + 1, 0, none⟩) 29 29]) (by simp [results, Try.results75, asAddr, go_sem]) rfl ?_
  obtain ⟨h1, h2⟩ := two_rows w lens lext 29 29 3 rfl rfl
  exact ⟨_, _, rfl, h1, h2, Nat.le_refl _, Nat.le_succ _, below_two w _ _⟩
set_option maxRecDepth 100000 in
theorem distances_any (w : World) : Calls Try.prog 77 #[] w fun e w' => ∃ g h, e = .returned (.tuple #[.slice (some ⟨g, 0, none⟩) 30 30, .slice (some ⟨h, 0, none⟩) 30 30]) ∧ intsIn w' (.slice (some ⟨g, 0, none⟩) 30 30) dists ∧ intsIn w' (.slice (some ⟨h, 0, none⟩) 30 30) dext ∧ w.heap.size ≤ g ∧ w.heap.size ≤ h ∧ Below w.heap.size w w' := by
  go_enter Try.func77, Try.ntmps77
  go_wp2_with fail
  refine bodyPost_ret (v := .tuple #[.slice (some ⟨w.heap.size, 0, none⟩) 30 30, .slice (some ⟨w.heap.size + 1, 0, none⟩) 30 30]) (by simp [results, Try.results77, asAddr, go_sem]) rfl ?_
  obtain ⟨h1, h2⟩ := two_rows w dists dext 30 30 3 rfl rfl
  exact ⟨_, _, rfl, h1, h2, Nat.le_refl _, Nat.le_succ _, below_two w _ _⟩
set_option maxRecDepth 100000 in
theorem find_any (v : Value) (l : List Nat) (n : Nat) (w : World) (hr : intsIn w v l) (hl : 0 < l.length) (hl2 : l.length ≤ 1000) (hn : n ≤ 1000000) :
    Calls Try.prog 76 #[v, .int .i64 (n : Int)] w fun e w' => e = .returned (.int .i64 (find l n : Nat)) ∧ w = w' := by
  have hlen := fun w => listed_len (u := 3) Try.underlying27 hr w
  have HR := Lib.hid hr
  obtain ⟨len, el⟩ : ∃ len, l.length = len := ⟨_, rfl⟩
  have EL := Lib.hid el
  have HF : Hid (findFrom l n len 0 = find l n) := by
    show _ = _
    unfold find
    rw [el]
  rw [el] at hlen hl hl2
  clear hr el
  obtain ⟨F, eF⟩ : ∃ F, find l n = F := ⟨_, rfl⟩
  rw [eF] at HF ⊢
  clear eF
  go_enter Try.func76, Try.ntmps76
  go_wp2_with fail
  go_loop [5] (fun s => ∃ k f : Nat, k < len ∧ len ≤ k + f ∧ s = .int .i64 (k : Int) ∧ Hid (findFrom l n f k = F)) (fun s => len - (intOf s).toNat)
  case atStart => exact ⟨0, len, hl, by omega, rfl, HF⟩
  case round =>
    obtain ⟨k, f, hk, hf, rfl, hF⟩ := hrel
    by_cases h1 : k + 1 < len
    · have hd1 : decide ((k : Int) + 1 < (len : Int)) = true := decide_eq_true (by omega)
      obtain ⟨g, rfl⟩ : ∃ g, f = g + 1 := ⟨f - 1, by omega⟩
      obtain ⟨z, ez⟩ : ∃ z, l[k + 1]? = some z := ⟨l[k + 1]'(by rw [EL.out]; exact h1), List.getElem?_eq_getElem _⟩
      obtain ⟨b, off, cap, rfl, hlt, hcell⟩ := listed_cell HR.out (k + 1) z ez
      have hzd : l.getD (k + 1) 0 = z := by rw [List.getD_eq_getElem?_getD, ez]; rfl
      have HZ := Lib.hid hzd
      rw [EL.out]
      unfold intVal at hcell
      have hi : (0 : Int) ≤ (k : Int) + 1 := by omega
      have hi2 : (k : Int) + 1 < (len : Int) := by omega
      clear ez hzd
      by_cases h2 : z ≤ n
      · have hd2 : decide ((z : Int) ≤ (n : Int)) = true := decide_eq_true (by omega)
        have HG : Hid (findFrom l n g (k + 1) = F) := by
          have := hF.out
          unfold findFrom at this
          rwa [if_pos ⟨by rw [EL.out]; exact h1, by rw [HZ.out]; exact h2⟩] at this
        go_wp2_with fail
        go_round
        case rel => exact ⟨k + 1, g, h1, by omega, by go_num, HG⟩
        case measure => simp [intOf]; omega
      · have hd2 : decide ((z : Int) ≤ (n : Int)) = false := decide_eq_false (by omega)
        have HG : Hid (k = F) := by
          have := hF.out
          unfold findFrom at this
          rwa [if_neg (fun h => by rw [HZ.out] at h; omega)] at this
        go_wp2_with fail
        all_goals go_ret
        all_goals exact ⟨by rw [← HG.out]; rfl, rfl⟩
    · have hd1 : decide ((k : Int) + 1 < (len : Int)) = false := decide_eq_false (by omega)
      have HG : Hid (k = F) := by
        have := hF.out
        cases f with
        | zero => exact this
        | succ f =>
          unfold findFrom at this
          rwa [if_neg (fun h => by rw [EL.out] at h; omega)] at this
      go_wp2_with fail
      all_goals go_ret
      all_goals exact ⟨by rw [← HG.out]; rfl, rfl⟩
end Go.Proofs.Ytggkmbnogdikkaa.Fx
