/-
  A region whose operations only read: an operation that isn't wanted.
-/
import Derived.Test.YtlpidedijknohaaRows
import Derived.StillTailTactics
namespace Go.Proofs.Ytlpidedijknohaa.Hw
theorem wpStill_skip {P : Program} {ops : Array Oper} {w : World} {Q : Act → Prop} {a : Act} {o : Oper} {rest : List Oper} (hn : Region.wanted o (yielded ops a.tmps) = false) (h : wpStill P ops w Q rest (a.put o.dst undef)) : wpStill P ops w Q (o :: rest) a := by
  unfold wpStill
  rw [if_neg (by rw [hn]; decide)]
  exact h
end Go.Proofs.Ytlpidedijknohaa.Hw
