/-
  VecWhole holds: of whole numbers from -100 to 100 dots, crosses and scales obey the laws as written. No condition but the row's own.
-/
import Derived.Test.YtddagmcmajjnfaaRows
import Derived.WalkKit
import Derived.ProofKit
import Derived.OpenShut
import Derived.Lib.SmallJoins
import Derived.Test.YtddagmcmajjnfaaVecWholeWalk
import Derived.Test.YtddagmcmajjnfaaArr3
namespace Go.Proofs.Ytddagmcmajjnfaa.vecWhole
open Go.ChangeShapes Go.WideShapes Go.ChangeAt Go.RowKit Go.Joins Go.Proofs.Ytddagmcmajjnfaa.Fx
set_option linter.unusedVariables false

theorem own : ownKnob Try.prog.godebug = none := by kernel_rfl
theorem cells34 : Try.prog.cellsOf 34 = 3 := by kernel_rfl
theorem cells33 : Try.prog.cellsOf 33 = 1 := by kernel_rfl

set_option maxRecDepth 100000 in
theorem lifted (os : Os) (started : os.Started) (H : Type) (enc : TypeId × Value → H) :
    ReturnsInHanded {} Try.checked os 6 .any (Rows.vecWholeSpec.pre6 enc Try.prog Try.f6 Rows.vecWholeRow.domain false) (Rows.vecWholeSpec.post enc Try.prog Try.f6 false true false false) := by
  refine returnsInHanded_of_change (C := Try.checked) own started (by kernel_rfl) Try.func6
    (ChangeSpec.witness6 (enc := enc) (C := Try.checked) false ⟨#[], #[.agg #[.int .i8 0, .int .i8 0, .int .i8 0], .agg #[.int .i8 0, .int .i8 0, .int .i8 0], .agg #[.int .i8 0, .int .i8 0, .int .i8 0], .int .i8 0], []⟩ 8 (by kernel_rfl) (by kernel_rfl) (by kernel_rfl) (by kernel_rfl)) ?_
  intro W base args ds gs before hval0 hW hcnd _
  have hval : ∀ (j : Nat) t v, Try.f6.params[j]? = some t → args[j]? = some v → Value.okWide Try.prog W .any base t v := hval0
  have hW' := hW
  obtain ⟨p, q, hA0, hV, rfl, hfz, hnd⟩ := hW
  have hA : DataW.TrodAll enc Try.prog W 0 (fun _ => true) true Try.f6.params.toList args.toList ds p := hA0
  rw [Try.params6] at hA hval
  obtain ⟨v0, vs0, d0, ds0, p0, q0, hargs, rfl, rfl, h0, r0⟩ := trodAll_cons hA
  obtain ⟨v1, vs1, d1, ds1, p1, q1, rfl, rfl, rfl, h1, r1⟩ := trodAll_cons r0
  obtain ⟨v2, vs2, d2, ds2, p2, q2, rfl, rfl, rfl, h2, r2⟩ := trodAll_cons r1
  obtain ⟨v3, vs3, d3, ds3, p3, q3, rfl, rfl, rfl, h3, r3⟩ := trodAll_cons r2
  obtain ⟨rfl, rfl, rfl⟩ := trodAll_nil r3
  obtain rfl : args = #[v0, v1, v2, v3] := by cases args; simp_all
  obtain ⟨rfl, rfl⟩ := trodVars_none hV
  obtain ⟨c0_0, c0_1, c0_2, y0_0, y0_1, y0_2, m0, rfl, rfl, rfl, hy0_0, hy0_1, hy0_2⟩ := open_arr3 Try.underlying34 cells34 cells33 (hval 0 34 v0 rfl rfl) h0
  obtain ⟨a0_0, e0_0, rfl, w0_0⟩ := DataW.trod_int Try.underlying33 hy0_0
  obtain ⟨a0_1, e0_1, rfl, w0_1⟩ := DataW.trod_int Try.underlying33 hy0_1
  obtain ⟨a0_2, e0_2, rfl, w0_2⟩ := DataW.trod_int Try.underlying33 hy0_2
  simp at e0_0 e0_1 e0_2
  subst e0_0 e0_1 e0_2
  obtain ⟨c1_0, c1_1, c1_2, y1_0, y1_1, y1_2, m1, rfl, rfl, rfl, hy1_0, hy1_1, hy1_2⟩ := open_arr3 Try.underlying34 cells34 cells33 (hval 1 34 v1 rfl rfl) h1
  obtain ⟨a1_0, e1_0, rfl, w1_0⟩ := DataW.trod_int Try.underlying33 hy1_0
  obtain ⟨a1_1, e1_1, rfl, w1_1⟩ := DataW.trod_int Try.underlying33 hy1_1
  obtain ⟨a1_2, e1_2, rfl, w1_2⟩ := DataW.trod_int Try.underlying33 hy1_2
  simp at e1_0 e1_1 e1_2
  subst e1_0 e1_1 e1_2
  obtain ⟨c2_0, c2_1, c2_2, y2_0, y2_1, y2_2, m2, rfl, rfl, rfl, hy2_0, hy2_1, hy2_2⟩ := open_arr3 Try.underlying34 cells34 cells33 (hval 2 34 v2 rfl rfl) h2
  obtain ⟨a2_0, e2_0, rfl, w2_0⟩ := DataW.trod_int Try.underlying33 hy2_0
  obtain ⟨a2_1, e2_1, rfl, w2_1⟩ := DataW.trod_int Try.underlying33 hy2_1
  obtain ⟨a2_2, e2_2, rfl, w2_2⟩ := DataW.trod_int Try.underlying33 hy2_2
  simp at e2_0 e2_1 e2_2
  subst e2_0 e2_1 e2_2
  obtain ⟨a3, rfl, rfl, rfl, w3⟩ := open_int Try.underlying33 (hval 3 33 v3 rfl rfl) h3
  clear hA0 hval0
  simp only [List.append_nil] at hW'
  refine (whole_walk a0_0 a0_1 a0_2 a1_0 a1_1 a1_2 a2_0 a2_1 a2_2 a3 (bounds_i8 w0_0).1 (bounds_i8 w0_0).2 (bounds_i8 w0_1).1 (bounds_i8 w0_1).2 (bounds_i8 w0_2).1 (bounds_i8 w0_2).2 (bounds_i8 w1_0).1 (bounds_i8 w1_0).2 (bounds_i8 w1_1).1 (bounds_i8 w1_1).2 (bounds_i8 w1_2).1 (bounds_i8 w1_2).2 (bounds_i8 w2_0).1 (bounds_i8 w2_0).2 (bounds_i8 w2_1).1 (bounds_i8 w2_1).2 (bounds_i8 w2_2).1 (bounds_i8 w2_2).2 (bounds_i8 w3).1 (bounds_i8 w3).2 W).mono fun e W' ⟨he, hg⟩ => ?_
  subst he
  exact ⟨_, rfl, _, _, _, [], [], [], hW', (trodAll_cons_mk (shut_bool Try.underlying4 _) trodAll_mk0), (trodAll_cons_mk (shut_arr3 (y0 := (.lit (.int .i8 a0_0), [])) (y1 := (.lit (.int .i8 a0_1), [])) (y2 := (.lit (.int .i8 a0_2), [])) Try.underlying34 cells34 cells33 ⟨1, by simp [DataW.trod, Try.underlying33, w0_0]⟩ ⟨1, by simp [DataW.trod, Try.underlying33, w0_1]⟩ ⟨1, by simp [DataW.trod, Try.underlying33, w0_2]⟩) (trodAll_cons_mk (shut_arr3 (y0 := (.lit (.int .i8 a1_0), [])) (y1 := (.lit (.int .i8 a1_1), [])) (y2 := (.lit (.int .i8 a1_2), [])) Try.underlying34 cells34 cells33 ⟨1, by simp [DataW.trod, Try.underlying33, w1_0]⟩ ⟨1, by simp [DataW.trod, Try.underlying33, w1_1]⟩ ⟨1, by simp [DataW.trod, Try.underlying33, w1_2]⟩) (trodAll_cons_mk (shut_arr3 (y0 := (.lit (.int .i8 a2_0), [])) (y1 := (.lit (.int .i8 a2_1), [])) (y2 := (.lit (.int .i8 a2_2), [])) Try.underlying34 cells34 cells33 ⟨1, by simp [DataW.trod, Try.underlying33, w2_0]⟩ ⟨1, by simp [DataW.trod, Try.underlying33, w2_1]⟩ ⟨1, by simp [DataW.trod, Try.underlying33, w2_2]⟩) (trodAll_cons_mk (shut_int Try.underlying33 w3) trodAll_mk0)))), rfl, hg.frame _, fun h => by cases h⟩

theorem over : Rows.vecWholeRow.holds Try.pinned (OpenSpec.ofChange Rows.vecWholeSpec) :=
  OpenClaim.holds_of_wide 6 Try.f6 rfl rfl rfl rfl rfl rfl rfl ⟨rfl, rfl, rfl, rfl, rfl⟩ rfl rfl rfl rfl rfl (by kernel_rfl) Try.func6 (by kernel_rfl)
    (of_decide_eq_true (by kernel_rfl)) (by unfold Func.isWrapper; first | (rw [if_pos (by decide +kernel)]; kernel_rfl) | (rw [if_neg (by decide +kernel)]; exact ⟨rfl, rfl⟩))
    (fun os started H enc _ => lifted os started H enc)

theorem proved : Rows.VecWholeSaid :=
  over
#print axioms proved
end Go.Proofs.Ytddagmcmajjnfaa.vecWhole
