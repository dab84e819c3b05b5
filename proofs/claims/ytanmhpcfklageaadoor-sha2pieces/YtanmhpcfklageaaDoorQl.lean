/-
  The program's constants (package sha2) lie as the row lists them; the start that the row's witness takes.
-/
import Derived.Test.YtanmhpcfklageaaDoorLaid
import Derived.Test.YtanmhpcfklageaaDoorQa
namespace Go.Proofs.YtanmhpcfklageaaDoor
open Go.ChangeShapes Go.WideShapes Go.ChangeAt Go.WideMaps Go.WideElems Go.RowKit
set_option linter.unusedVariables false

theorem keys_laid {H : Type} : (Rows.laid_diptych_sha2_constants : DataW H) = .agg ((Hs.S2.keys.map Hs.tn).map fun x => .lit (.int .u32 x)) := by kernel_rfl
theorem door_met (os : Os) (args : Array Value) : laidMetH Tryd.prog [("diptych/sha2.constants", Rows.laid_diptych_sha2_constants)] ((World.doorLaid Tryd.prog 400 os).forCall (fun _ _ => 0) ⟨#[], args, []⟩).memory :=
  laidMetH_of_parts3 (fuel := 8) (laidMet_of_run' 8 (by kernel_rfl) (by kernel_rfl)) (by kernel_rfl) (by kernel_rfl)
theorem ks_of_laid {W : World} (h : laidMetH Tryd.prog [("diptych/sha2.constants", Rows.laid_diptych_sha2_constants)] W) : Ho.Ks W := by
  rw [MakeChecks.laidMetH_plain _ _ _ (by kernel_rfl)] at h
  obtain ⟨ps, h, _⟩ := h
  rw [keys_laid] at h
  intro i hi
  have hc := laid_numbers (P := Tryd.prog) (ks := Hs.S2.keys.map Hs.tn) (g := 0) (ty := 34) (te := 33) (by kernel_rfl) (by kernel_rfl) Tryd.underlying34 Tryd.underlying33 (by kernel_rfl) h i (by simpa [Hs.S2.keys] using hi)
  rw [hc]
  have h2 : i < Hs.S2.keys.length := by simpa [Hs.S2.keys] using hi
  simp [List.getD, List.getElem?_eq_getElem h2]
end Go.Proofs.YtanmhpcfklageaaDoor
