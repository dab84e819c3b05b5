/-
  The scan of 'abc', reckoned.
-/
import Derived.Test.YtpffolohkmokhaaDa
namespace Go.Proofs.Ytpffolohkmokhaa.Hd
open Go.Proofs.Ytpffolohkmokhaa.Hs
set_option maxRecDepth 100000 in
theorem scan_abc : Dv.scan [97, 98, 99] = false := by kernel_rfl
end Go.Proofs.Ytpffolohkmokhaa.Hd
