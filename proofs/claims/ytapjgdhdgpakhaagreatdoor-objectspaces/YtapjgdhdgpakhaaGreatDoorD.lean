/-
  Contracts of the statements' own few and awake.
-/
import Derived.Test.YtapjgdhdgpakhaaGreatDoorC
namespace Go.Proofs.YtapjgdhdgpakhaaGreatDoor
open Go.RowKit
set_option linter.unusedVariables false

/-- what few says: so few names, so short ones -/
def FewPost (ss : List ByteArray) (w : World) (e : Ending) (w' : World) : Prop :=
  ∃ r : Bool, e = .returned (.bool r) ∧ w = w' ∧ (r = true → ss.length ≤ 200 ∧ ∀ i, i < ss.length → (ss.getD i ByteArray.empty).size ≤ 5000)

theorem bytes_one (w : World) : Calls Tryz.prog 63 #[.string { data := #[48, 48, 102, 102, 49, 97] }] w fun e w' => e = .returned (.tuple #[.string { data := #[0, 255, 26] }, .int .i64 0]) ∧ Below w.heap.size w w' := by
  have h := Bytes_any { data := #[48, 48, 102, 102, 49, 97] } w (by decide)
  rwa [show str (M.unb (bl { data := #[48, 48, 102, 102, 49, 97] })) = { data := #[0, 255, 26] } by decide, show M.unc (bl { data := #[48, 48, 102, 102, 49, 97] }) = 0 by decide] at h
theorem bytes_two (w : World) : Calls Tryz.prog 63 #[.string { data := #[70, 70] }] w fun e w' => e = .returned (.tuple #[.string { data := #[] }, .int .i64 3]) ∧ Below w.heap.size w w' := by
  have h := Bytes_any { data := #[70, 70] } w (by decide)
  rwa [show str (M.unb (bl { data := #[70, 70] })) = { data := #[] } by decide, show M.unc (bl { data := #[70, 70] }) = 3 by decide] at h
theorem digits_one (w : World) : Calls Tryz.prog 52 #[.string { data := #[171, 192] }] w fun e w' => e = .returned (.string { data := #[97, 98, 99, 48] }) ∧ Below w.heap.size w w' := by
  have h := Digits_any { data := #[171, 192] } w (by decide)
  rwa [show str (M.digs (bl { data := #[171, 192] })) = { data := #[97, 98, 99, 48] } by decide] at h
theorem size_one (w : World) : Calls Tryz.prog 22 #[.int .i64 2] w fun e w' => e = .returned (.int .i64 32) ∧ w = w' := by
  have h := Size_any 2 w
  rwa [if_neg (by decide), if_pos rfl] at h

theorem cell_of_blk {w : World} {g i : Nat} {cs : Array Value} {t : TypeId} {v : Value} (h : w.heap[g]? = some (.cells cs t (0, 0))) (hv : cs[i]? = some v) : w.cell? ⟨g, i, none⟩ = some v := by
  simp [World.cell?, h, hv]

end Go.Proofs.YtapjgdhdgpakhaaGreatDoor
