/-
  Contracts of the document's First and Back (layer 2).
-/
import Derived.Test.YtanmhpcfklageaaDoorSha
namespace Go.Proofs.YtanmhpcfklageaaDoor.Hs
open Go.RowKit
set_option linter.unusedVariables false
attribute [local go_sem] t_and t_or t_xor t_not t_add t_sub t_add_wrap t_sub_wrap

end Go.Proofs.YtanmhpcfklageaaDoor.Hs