/-
  Layer 10: the names of the blob of no bytes, reckoned.
-/
import Derived.Test.YtmbbigmnliiadaaGreatDoorDa
import Derived.Test.YtmbbigmnliiadaaGreatDoorS1
namespace Go.Proofs.YtmbbigmnliiadaaGreatDoor.Hi
open Go.Proofs.YtmbbigmnliiadaaGreatDoor.Hs Go.Proofs.YtmbbigmnliiadaaGreatDoor.Hd
set_option maxRecDepth 100000 in
theorem scan_none : Dv.scan [98, 108, 111, 98, 32, 48, 0] = false := by kernel_rfl
set_option maxRecDepth 100000 in
theorem narrow_none : Sh.sum [98, 108, 111, 98, 32, 48, 0] = [230, 157, 226, 155, 178, 209, 214, 67, 75, 139, 41, 174, 119, 90, 216, 194, 228, 140, 83, 145] := by kernel_rfl
set_option maxRecDepth 100000 in
theorem wide_none : S2.sum [98, 108, 111, 98, 32, 48, 0] = [71, 58, 15, 76, 59, 232, 169, 54, 129, 162, 103, 227, 177, 233, 167, 220, 218, 17, 133, 67, 111, 225, 65, 247, 116, 145, 32, 163, 3, 114, 24, 19] := by kernel_rfl
end Go.Proofs.YtmbbigmnliiadaaGreatDoor.Hi
