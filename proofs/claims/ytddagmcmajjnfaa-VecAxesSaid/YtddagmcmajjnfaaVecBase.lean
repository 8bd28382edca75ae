/-
  The chapter's calls as functions on numbers; the contracts of fix's calls on numbers that are in; the closures of package vec. The conditions: each number is one of 64 bits, and what is captured lies where it is.
-/
import Derived.Test.YtddagmcmajjnfaaVecCells
import Derived.Test.YtddagmcmajjnfaaFixLoops
namespace Go.Proofs.Ytddagmcmajjnfaa.Fx
open Go Go.RowKit
set_option linter.unusedVariables false
theorem addI (a b : Int) (ha : isI a) (hb : isI b) (w : World) : Calls Try.prog 36 #[.int .i64 a, .int .i64 b] w fun e w' => e = .returned (.int .i64 (add a b)) ∧ w = w' :=
  add_any a b ha.1 ha.2 hb.1 hb.2 w
theorem subI (a b : Int) (ha : isI a) (hb : isI b) (w : World) : Calls Try.prog 37 #[.int .i64 a, .int .i64 b] w fun e w' => e = .returned (.int .i64 (sub a b)) ∧ w = w' :=
  sub_any a b ha.1 ha.2 hb.1 hb.2 w
theorem negI (a : Int) (ha : isI a) (w : World) : Calls Try.prog 34 #[.int .i64 a] w fun e w' => e = .returned (.int .i64 (neg a)) ∧ w = w' :=
  neg_any a ha.1 ha.2 w
theorem mulI (a b : Int) (ha : isI a) (hb : isI b) (w : World) : Calls Try.prog 43 #[.int .i64 a, .int .i64 b] w fun e w' => e = .returned (.int .i64 (mul a b)) ∧ Below w.heap.size w w' :=
  mul_any a b ha.1 ha.2 hb.1 hb.2 w
theorem divI (a b : Int) (ha : isI a) (hb : isI b) (w : World) : Calls Try.prog 41 #[.int .i64 a, .int .i64 b] w fun e w' => e = .returned (.int .i64 (div a b)) ∧ Below w.heap.size w w' :=
  div_any a b ha.1 ha.2 hb.1 hb.2 w
theorem sqrtI (a : Int) (ha : isI a) (w : World) : Calls Try.prog 38 #[.int .i64 a] w fun e w' => e = .returned (.int .i64 (sqrt a)) ∧ Below w.heap.size w w' :=
  sqrt_any a ha.1 ha.2 w
theorem raddI (a b : Int) (ha : isI a) (hb : isI b) (w : World) : Calls Try.prog 45 #[.int .i64 a, .int .i64 b] w fun e w' => e = .returned (.int .i64 (add a b)) ∧ w = w' :=
  radd_any a b ha.1 ha.2 hb.1 hb.2 w
theorem rsubI (a b : Int) (ha : isI a) (hb : isI b) (w : World) : Calls Try.prog 46 #[.int .i64 a, .int .i64 b] w fun e w' => e = .returned (.int .i64 (sub a b)) ∧ w = w' :=
  rsub_any a b ha.1 ha.2 hb.1 hb.2 w
theorem rnegI (a : Int) (ha : isI a) (w : World) : Calls Try.prog 47 #[.int .i64 a] w fun e w' => e = .returned (.int .i64 (neg a)) ∧ w = w' :=
  rneg_any a ha.1 ha.2 w
theorem rmulI (a b : Int) (ha : isI a) (hb : isI b) (w : World) : Calls Try.prog 48 #[.int .i64 a, .int .i64 b] w fun e w' => e = .returned (.int .i64 (mul a b)) ∧ w = w' :=
  rmul_any a b ha.1 ha.2 hb.1 hb.2 w
theorem rdivI (a b : Int) (ha : isI a) (hb : isI b) (w : World) : Calls Try.prog 49 #[.int .i64 a, .int .i64 b] w fun e w' => e = .returned (.int .i64 (div a b)) ∧ w = w' :=
  rdiv_any a b ha.1 ha.2 hb.1 hb.2 w
theorem rsqrtI (a : Int) (ha : isI a) (w : World) : Calls Try.prog 39 #[.int .i64 a] w fun e w' => e = .returned (.int .i64 (sqrt a)) ∧ w = w' :=
  rsqrt_any a ha.1 ha.2 w
theorem isI_0 : isI 0 := by
  unfold isI
  omega
/-- What the chapter's calls are, number by number. -/
def dot (ax ay az bx by1 bz : Int) : Int := add (add (mul ax bx) (mul ay by1)) (mul az bz)
def len (ax ay az : Int) : Int := sqrt (dot ax ay az ax ay az)
def side (p q r s : Int) : Int := sub (mul p q) (mul r s)
def unit1 (n x : Int) : Int := if n = 0 then 0 else div x n
def bend1 (t d n : Int) : Int := sub d (mul n (add t t))
theorem dot_is (ax ay az bx by1 bz : Int) : isI (dot ax ay az bx by1 bz) := add_is _ _
theorem len_is (ax ay az : Int) : isI (len ax ay az) := sqrt_is (dot_is _ _ _ _ _ _)
theorem side_is (p q r s : Int) : isI (side p q r s) := sub_is _ _
theorem unit1_is (n x : Int) : isI (unit1 n x) := by
  unfold unit1
  split
  · exact isI_0
  · exact div_is _ _
theorem bend1_is (t d n : Int) : isI (bend1 t d n) := sub_is _ _
theorem bcell {W w1 : World} (hb : Below W.heap.size W w1) : (∀ b o, b < W.heap.size → w1.cell? ⟨b, o, none⟩ = W.cell? ⟨b, o, none⟩) ∧ (∀ b o, b < W.heap.size → w1.frozen? ⟨b, o, none⟩ = W.frozen? ⟨b, o, none⟩) :=
  ⟨fun b o h => hb.cell (p := ⟨b, o, none⟩) h, fun b o h => hb.frozen (p := ⟨b, o, none⟩) h⟩
theorem scale_one (x s : Int) (hx : isI x) (hs : isI s) (p : Addr) (w : World) (hc : w.cell? p = some (.int .i64 s)) :
    Calls Try.prog 42 #[.int .i64 x, .pointer (some p)] w fun e w' => e = .returned (.int .i64 (mul x s)) ∧ Below w.heap.size w w' := by
  go_enter Try.func42, Try.ntmps42
  go_wp2_with (first | (go_at_call 43; refine (mulI _ _ (by first | assumption | exact mul_is _ _ | exact add_is _ _ | exact sub_is _ _ | exact neg_is _ | exact div_is _ _) (by first | assumption | exact mul_is _ _ | exact add_is _ _ | exact sub_is _ _ | exact neg_is _ | exact div_is _ _) _).mono ?_; rintro e w1 ⟨rfl, hnew⟩))
  go_ret
  exact ⟨rfl, hnew⟩
theorem unit_one (x n : Int) (hx : isI x) (hn : isI n) (p : Addr) (w : World) (hc : w.cell? p = some (.int .i64 n)) :
    Calls Try.prog 40 #[.int .i64 x, .pointer (some p)] w fun e w' => e = .returned (.int .i64 (div x n)) ∧ Below w.heap.size w w' := by
  go_enter Try.func40, Try.ntmps40
  go_wp2_with (first | (go_at_call 41; refine (divI _ _ (by first | assumption | exact mul_is _ _ | exact add_is _ _ | exact sub_is _ _ | exact neg_is _ | exact div_is _ _) (by first | assumption | exact mul_is _ _ | exact add_is _ _ | exact sub_is _ _ | exact neg_is _ | exact div_is _ _) _).mono ?_; rintro e w1 ⟨rfl, hnew⟩))
  go_ret
  exact ⟨rfl, hnew⟩
theorem side_any (p q r s : Int) (hp : isI p) (hq : isI q) (hr : isI r) (hs : isI s) (w : World) :
    Calls Try.prog 44 #[.int .i64 p, .int .i64 q, .int .i64 r, .int .i64 s] w fun e w' => e = .returned (.int .i64 (side p q r s)) ∧ Below w.heap.size w w' := by
  go_enter Try.func44, Try.ntmps44
  go_wp2_with (go_at_call 43; refine (mulI p q hp hq _).mono ?_; rintro e w1 ⟨rfl, h1⟩; go_wp2_with (go_at_call 43; refine (mulI r s hr hs _).mono ?_; rintro e w2 ⟨rfl, h2⟩; go_wp2_with (go_at_call 37; refine (subI (mul p q) (mul r s) (mul_is _ _) (mul_is _ _) _).mono ?_; rintro e w' ⟨rfl, rfl⟩)))
  go_ret
  exact ⟨rfl, h1.trans (h2.mono h1.size)⟩
end Go.Proofs.Ytddagmcmajjnfaa.Fx
