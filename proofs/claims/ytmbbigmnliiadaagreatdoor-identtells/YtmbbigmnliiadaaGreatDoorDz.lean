/-
  The scan of 'abc', reckoned.
-/
import Derived.Test.YtmbbigmnliiadaaGreatDoorDa
namespace Go.Proofs.YtmbbigmnliiadaaGreatDoor.Hd
open Go.Proofs.YtmbbigmnliiadaaGreatDoor.Hs
set_option maxRecDepth 100000 in
theorem scan_abc : Dv.scan [97, 98, 99] = false := by kernel_rfl
end Go.Proofs.YtmbbigmnliiadaaGreatDoor.Hd
