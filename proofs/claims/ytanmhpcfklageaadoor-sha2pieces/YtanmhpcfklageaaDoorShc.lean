/-
  The contract of the document's Expand (layer 2): the eighty words of a block.
-/
import Derived.Test.YtanmhpcfklageaaDoorShb
import Derived.Laws.Tables
import Derived.IntWalk
import Derived.BigRegion
import Derived.Laws.CopyOwn
namespace Go.Proofs.YtanmhpcfklageaaDoor.Hs
open Go.RowKit
set_option linter.unusedVariables false
attribute [local go_sem] t_and t_or t_xor t_not t_add t_sub t_add_wrap t_sub_wrap

end Go.Proofs.YtanmhpcfklageaaDoor.Hs