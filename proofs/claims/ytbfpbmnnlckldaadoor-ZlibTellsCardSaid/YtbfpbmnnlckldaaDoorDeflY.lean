/-
  The chapter's examples, plain: by calculation.
-/
import Derived.Test.YtbfpbmnnlckldaaDoorDeflQ
namespace Go.Proofs.YtbfpbmnnlckldaaDoor.Fx
theorem ex_none : wholeOf [] = [3, 0] := by decide +kernel
theorem ex_one : wholeOf [97] = [75, 4, 0] := by decide +kernel
theorem ex_ten : wholeOf [97, 97, 97, 97, 97, 97, 97, 97, 97, 97] = [75, 132, 3, 0] := by decide +kernel
set_option maxRecDepth 100000 in
theorem ex_each : wholeOf (List.range 256) = [1, 0, 1, 255, 254] ++ List.range 256 := by decide +kernel
end Go.Proofs.YtbfpbmnnlckldaaDoor.Fx
