/-
  The scan of 'abc', reckoned.
-/
import Derived.Test.YtmbbigmnliiadaaDoorDa
namespace Go.Proofs.YtmbbigmnliiadaaDoor.Hd
open Go.Proofs.YtmbbigmnliiadaaDoor.Hs
set_option maxRecDepth 100000 in
theorem scan_abc : Dv.scan [97, 98, 99] = false := by kernel_rfl
end Go.Proofs.YtmbbigmnliiadaaDoor.Hd
