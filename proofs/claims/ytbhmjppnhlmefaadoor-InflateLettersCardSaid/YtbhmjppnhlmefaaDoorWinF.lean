/-
  The window's map of places, as landed: three bytes as one number, bytes that are added, bytes that are forgotten. The conditions stand in each.
-/
import Derived.Maps.Own
import Derived.Maps.OwnOps
import Derived.Maps.OwnSet
import Derived.Maps.Views
import Derived.Laws.BitsAllLaws
import Derived.Test.YtbhmjppnhlmefaaDoorWinB
import Derived.Test.YtbhmjppnhlmefaaDoorBitsCt
namespace Go.Proofs.YtbhmjppnhlmefaaDoor.Fx
open Go Go.RowKit Go.Joins Go.Maps
set_option linter.unusedVariables false
theorem or_three (x y z : Nat) (hx : x < 256) (hy : y < 256) (hz : z < 256) : (x ||| (y * 256)) ||| (z * 65536) = x + 256 * y + 65536 * z := by
  have h1 : x ||| (y * 256) = x + 256 * y := by
    rw [Nat.or_comm, Nat.mul_comm y 256, show 256 = 2 ^ 8 from rfl, ← Nat.two_pow_add_eq_or_of_lt hx]
    omega
  rw [h1, Nat.or_comm, Nat.mul_comm z 65536, show 65536 = 2 ^ 16 from rfl, ← Nat.two_pow_add_eq_or_of_lt (by omega)]
  omega
set_option maxHeartbeats 2000000 in
theorem three_code (g : Nat) (s : Value) (zs : List Nat) (i : Nat) (W : World) (hs : W.cell? ⟨g, 1, none⟩ = some s) (hb : bytesIn W s zs) (h8 : ∀ x ∈ zs, x < 256) (hi : i + 3 ≤ zs.length) (hl : zs.length ≤ 1099511627776) :
    Calls Tryd.prog 38 #[.pointer (some ⟨g, 1, none⟩), .int .i64 (i : Int)] W fun e w' => e = .returned (.int .u32 (three zs i : Nat)) ∧ ∃ k, w' = W.drewN k := by
  obtain ⟨x, ex⟩ : ∃ x, zs[i]? = some x := ⟨zs[i]'(by omega), List.getElem?_eq_getElem _⟩
  obtain ⟨y, ey⟩ : ∃ x, zs[i + 1]? = some x := ⟨zs[i + 1]'(by omega), List.getElem?_eq_getElem _⟩
  obtain ⟨z, ez⟩ : ∃ x, zs[i + 2]? = some x := ⟨zs[i + 2]'(by omega), List.getElem?_eq_getElem _⟩
  obtain ⟨b, off, cap, ev, hlt1, hc1⟩ := listed_cell hb i x ex
  obtain ⟨b2, off2, cap2, ev2, hlt2, hc2⟩ := listed_cell hb (i + 1) y ey
  obtain ⟨b3, off3, cap3, ev3, hlt3, hc3⟩ := listed_cell hb (i + 2) z ez
  subst ev
  simp only [Value.slice.injEq, Option.some.injEq, Addr.mk.injEq] at ev2 ev3
  obtain ⟨⟨rfl, rfl, _⟩, _, rfl⟩ := ev2
  obtain ⟨⟨rfl, rfl, _⟩, _, rfl⟩ := ev3
  have hx := h8 x (List.mem_of_getElem? ex)
  have hy := h8 y (List.mem_of_getElem? ey)
  have hz := h8 z (List.mem_of_getElem? ez)
  have h3 : three zs i = (x ||| (y * 256)) ||| (z * 65536) := by
    unfold three
    rw [List.getD_eq_getElem?_getD, List.getD_eq_getElem?_getD, List.getD_eq_getElem?_getD, ex, ey, ez, or_three x y z hx hy hz]
    rfl
  have hor := or_three x y z hx hy hz
  rw [h3]
  unfold byteVal at hc1 hc2 hc3
  obtain ⟨Y, eY⟩ : ∃ Y, y * 256 = Y := ⟨_, rfl⟩
  obtain ⟨Z, eZ⟩ : ∃ Y, z * 65536 = Y := ⟨_, rfl⟩
  have y1 : (y : Int) * 256 = (Y : Int) := by omega
  have z1 : (z : Int) * 65536 = (Z : Int) := by omega
  have y2 : IntKind.u32.wrap (Y : Int) = (Y : Int) := by rw [IntKind.wrap_u32']; omega
  have z2 : IntKind.u32.wrap (Z : Int) = (Z : Int) := by rw [IntKind.wrap_u32']; omega
  have y3 : (Y : Int) % 4294967296 = (Y : Int) := by omega
  have z3 : (Z : Int) % 4294967296 = (Z : Int) := by omega
  have xw : IntKind.u32.wrap (x : Int) = (x : Int) := by rw [IntKind.wrap_u32']; omega
  have yw : IntKind.u32.wrap (y : Int) = (y : Int) := by rw [IntKind.wrap_u32']; omega
  have zw : IntKind.u32.wrap (z : Int) = (z : Int) := by rw [IntKind.wrap_u32']; omega
  have hoa := u32_or_nat x Y (by omega) (by omega)
  rw [eY, eZ] at hor ⊢
  obtain ⟨A, eA⟩ : ∃ A, x ||| Y = A := ⟨_, rfl⟩
  rw [eA] at hoa hor ⊢
  have hAl : A < 4294967296 := by rw [← eA]; exact Nat.or_lt_two_pow (n := 32) (by omega) (by omega)
  have hob := u32_or_nat A Z hAl (by omega)
  obtain ⟨B, eB⟩ : ∃ B, A ||| Z = B := ⟨_, rfl⟩
  rw [eB] at hob hor ⊢
  have hB : B < 16777216 := by omega
  obtain ⟨len, el⟩ : ∃ x, zs.length = x := ⟨_, rfl⟩
  rw [el] at hs hi hl
  have a1 : (i : Int) + 1 = ((i + 1 : Nat) : Int) := by omega
  have a2 : (i : Int) + 2 = ((i + 2 : Nat) : Int) := by omega
  obtain ⟨i1, e1⟩ : ∃ x, i + 1 = x := ⟨_, rfl⟩
  obtain ⟨i2, e2⟩ : ∃ x, i + 2 = x := ⟨_, rfl⟩
  rw [e1] at a1 hc2
  rw [e2] at a2 hc3
  have w1 : IntKind.i64.wrap (i1 : Int) = (i1 : Int) := by rw [IntKind.wrap_i64]; omega
  have w2 : IntKind.i64.wrap (i2 : Int) = (i2 : Int) := by rw [IntKind.wrap_i64]; omega
  have b0 : (i : Int) < (len : Int) := by omega
  have b1 : (i1 : Int) < (len : Int) := by omega
  have b2' : (i2 : Int) < (len : Int) := by omega
  have n0 : i < len := by omega
  have n1 : i1 < len := by omega
  have n2 : i2 < len := by omega
  clear hb h8 ex ey ez h3 hor eY eZ eA eB el e1 e2
  go_enter Tryd.func38, Tryd.ntmps38
  go_wp2_with fail
  go_quiet (fail)
  go_wp2_with fail
  go_ret
  trace_state
  exact ⟨rfl, _, rfl⟩
end Go.Proofs.YtbhmjppnhlmefaaDoor.Fx
