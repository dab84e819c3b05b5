/-
  Contracts of the statements' own few and awake.
-/
import Derived.Test.YtlpidedijknohaaC
namespace Go.Proofs.Ytlpidedijknohaa
open Go.RowKit
set_option linter.unusedVariables false

/-- what few says: so few names, so short ones -/
def FewPost (ss : List ByteArray) (w : World) (e : Ending) (w' : World) : Prop :=
  ∃ r : Bool, e = .returned (.bool r) ∧ w = w' ∧ (r = true → ss.length ≤ 200 ∧ ∀ i, i < ss.length → (ss.getD i ByteArray.empty).size ≤ 5000)

theorem cell_of_blk {w : World} {g i : Nat} {cs : Array Value} {t : TypeId} {v : Value} (h : w.heap[g]? = some (.cells cs t (0, 0))) (hv : cs[i]? = some v) : w.cell? ⟨g, i, none⟩ = some v := by
  simp [World.cell?, h, hv]

end Go.Proofs.Ytlpidedijknohaa
