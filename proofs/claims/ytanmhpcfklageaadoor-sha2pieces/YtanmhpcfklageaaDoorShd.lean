/-
  The contract of the document's Press (layer 2): the chain behind a block.
-/
import Derived.Test.YtanmhpcfklageaaDoorShc
namespace Go.Proofs.YtanmhpcfklageaaDoor.Hs
open Go.RowKit
set_option linter.unusedVariables false
attribute [local go_sem] t_and t_or t_xor t_not t_add t_sub t_add_wrap t_sub_wrap

end Go.Proofs.YtanmhpcfklageaaDoor.Hs