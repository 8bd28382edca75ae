/-
  What the document's own writer hands on; the document's own reader of bytes. The conditions stand in each.
-/
import Derived.Test.YtbhmjppnhlmefaaDoorRegion
import Derived.Test.YtbhmjppnhlmefaaDoorBitsG
namespace Go.Proofs.YtbhmjppnhlmefaaDoor.Fx
open Go Go.RowKit Go.Joins
set_option linter.unusedVariables false
theorem info8 : (Tryd.prog.info? 5).map (fun i => (i.zero, i.size, i.bytes)) = some (some (.int .u8 0), 1, 1) := by kernel_rfl
end Go.Proofs.YtbhmjppnhlmefaaDoor.Fx
