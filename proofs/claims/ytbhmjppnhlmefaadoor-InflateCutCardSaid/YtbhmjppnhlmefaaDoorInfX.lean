/-
  The chapter's examples, plain: by calculation.
-/
import Derived.WalkKit
import Derived.Test.YtbhmjppnhlmefaaDoorInfP
namespace Go.Proofs.YtbhmjppnhlmefaaDoor.Fx
open Go
set_option maxRecDepth 100000 in
theorem exi_none : Says blocksW (bitsOfBytes [3, 0]) 9 ⟨0, []⟩ (.ok () ⟨10, []⟩) := ⟨20, by kernel_rfl⟩
set_option maxRecDepth 100000 in
theorem exi_one : Says blocksW (bitsOfBytes [75, 4, 0]) 9 ⟨0, []⟩ (.ok () ⟨18, [97]⟩) := ⟨20, by kernel_rfl⟩
set_option maxRecDepth 100000 in
theorem exi_ten : Says blocksW (bitsOfBytes [75, 132, 3, 0]) 10 ⟨0, []⟩ (.ok () ⟨30, [97, 97, 97, 97, 97, 97, 97, 97, 97, 97]⟩) := ⟨20, by kernel_rfl⟩
set_option maxRecDepth 100000 in
theorem exi_long : Says blocksW (bitsOfBytes [75, 132, 3, 0]) 9 ⟨0, []⟩ (.err 3) := ⟨20, by kernel_rfl⟩
set_option maxRecDepth 100000 in
theorem exi_seven : Says blocksW (bitsOfBytes [1, 1, 0, 254, 255, 7]) 1 ⟨0, []⟩ (.ok () ⟨48, [7]⟩) := ⟨20, by kernel_rfl⟩
set_option maxRecDepth 100000 in
theorem exi_kind : Says blocksW (bitsOfBytes [7]) 9 ⟨0, []⟩ (.err 10) := ⟨20, by kernel_rfl⟩
set_option maxRecDepth 100000 in
theorem exi_empty : Says blocksW (bitsOfBytes []) 9 ⟨0, []⟩ (.err 12) := ⟨20, by kernel_rfl⟩
set_option maxRecDepth 100000 in
theorem exi_short : Says blocksW (bitsOfBytes [75]) 9 ⟨0, []⟩ (.err 12) := ⟨20, by kernel_rfl⟩
set_option maxRecDepth 100000 in
theorem exi_not : Says blocksW (bitsOfBytes [1, 1, 0, 255, 255]) 9 ⟨0, []⟩ (.err 10) := ⟨20, by kernel_rfl⟩
end Go.Proofs.YtbhmjppnhlmefaaDoor.Fx
