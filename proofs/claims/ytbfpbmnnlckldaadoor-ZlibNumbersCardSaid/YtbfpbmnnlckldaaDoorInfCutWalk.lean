/-
  The walk of InflateCut. The conditions are that the list reads as bytes, and that the order lies as the text lays it.
-/
import Derived.Test.YtbfpbmnnlckldaaDoorInfZ
import Derived.Test.YtbfpbmnnlckldaaDoorInfR
import Derived.Test.YtbfpbmnnlckldaaDoorWinE
namespace Go.Proofs.YtbfpbmnnlckldaaDoor.Fx
open Go Go.RowKit Go.Joins
set_option linter.unusedVariables false
theorem told_row {zs : List Nat} {m : Nat} {w : World} {t : St} {e : Ending} {w' : World} (hs : Says blocksW (bitsOfBytes zs) m ⟨0, []⟩ (.ok () t)) (h : InflTo zs m w e w') :
    ∃ v, e = .returned (.tuple #[v, .int .i64 (((t.pos + 7) / 8 : Nat) : Int), .int .i64 0]) ∧ bytesIn w' v t.out ∧ Below w.heap.size w w' := by
  rcases h with ⟨t1, v, h1, rfl, hown, hb⟩ | ⟨k, h1, _⟩
  · have h2 := Way.says_one h1 hs
    cases h2
    exact ⟨v, rfl, own_listed hown, hb⟩
  · have h2 := Way.says_one h1 hs
    cases h2
theorem told_err {zs : List Nat} {m k : Nat} {w : World} {e : Ending} {w' : World} (hs : Says blocksW (bitsOfBytes zs) m ⟨0, []⟩ (.err k)) (h : InflTo zs m w e w') :
    e = .returned (.tuple #[.slice none 0 0, .int .i64 0, .int .i64 (k : Int)]) ∧ Below w.heap.size w w' := by
  rcases h with ⟨t1, v, h1, _⟩ | ⟨k1, h1, _, _, rfl, hb⟩
  · have h2 := Way.says_one h1 hs
    cases h2
  · have h2 := Way.says_one h1 hs
    cases h2
    exact ⟨rfl, hb⟩
theorem infl_any (W : World) (b : Value) (zs : List Nat) (m : Nat) (hr : bytesIn W b zs) (h8 : ∀ x ∈ zs, x < 256) (hz : zs.length ≤ 34359738368) (hl : LaidOrder W) (hm : m ≤ 1099511627776) :
    Calls Tryd.prog 35 #[b, .int .i64 (m : Int)] W (InflTo zs m W) := by
  have h := inflate_code W b zs (m : Int) hr h8 hz hl (by omega) (by omega)
  rwa [Int.toNat_natCast] at h
end Go.Proofs.YtbfpbmnnlckldaaDoor.Fx
