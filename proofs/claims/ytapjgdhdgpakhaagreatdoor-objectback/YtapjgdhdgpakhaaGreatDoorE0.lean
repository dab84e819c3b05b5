/-
  A package-level table of numbers that the row lists: each of its cells holds the number that stands there.
  Layer 11: what strconv reads (the powers of ten, its two errors) lies in its place, as the row lists it.
-/
import Derived.Test.YtapjgdhdgpakhaaGreatDoorRows
import Derived.ProofKit
import Derived.LaidMore
import Derived.OpenShut
import Derived.Stop.Joined
import Derived.Test.YtapjgdhdgpakhaaGreatDoorO5
import Derived.Lib.LaidTab
import Derived.Lib.SmallJoins
import Derived.Stop.LaidErr
import Derived.RowKitTokens
namespace Go.Proofs.YtapjgdhdgpakhaaGreatDoor
open Go.ChangeShapes Go.WideShapes Go.ChangeAt Go.WideMaps Go.WideElems Go.RowKit
set_option linter.unusedVariables false

theorem laid_numbers {P : Program} {W : World} {n : String} {ks : List Int} {k : IntKind} {g : Nat} {ty te : TypeId} {r : List (String × DataW Unit)} {ps : List MemPlace} (hgn : P.globalNamed n = some g) (hty : (P.globals[g]?).map (·.type) = some ty)
    (hu : P.underlying ty = some (.array ks.length te)) (he : P.underlying te = some (.int k)) (hc : P.cellsOf te = 1) (h : DataW.LaidVars P W ((n, .agg (ks.map fun x => .lit (.int k x))) :: r) ps) (i : Nat) (hi : i < ks.length) :
    W.cell? ⟨g, i, none⟩ = some (.int k ks[i]) := by
  obtain ⟨g0, t0, cs, fuel, p, q, hg0, ht0, hv, hd, _, _⟩ := h
  obtain rfl := Option.some.inj (hgn.symm.trans hg0)
  obtain rfl := Option.some.inj (hty.symm.trans ht0)
  obtain ⟨xs, m, rfl, hx, hlen, hn, hel⟩ := DataW.trod_array hu hd
  have h1 := hel i hi
  rw [hc, Nat.mul_one, List.getElem?_eq_getElem (by omega)] at h1
  obtain ⟨v, e1, e2, _⟩ := DataW.trod_int he h1
  have hm : ks.map (fun x => DataW.lit (.int k x)) = xs.map (·.1) := by
    have := congrArg Prod.fst hx
    simpa using this
  have hk : ks[i] = v := by
    have h2 := congrArg (fun l => l[i]?) hm
    simp only [List.getElem?_map, List.getElem?_eq_getElem hi, List.getElem?_eq_getElem (show i < xs.length by omega), Option.map_some, Option.some.injEq] at h2
    rw [e2] at h2
    injection h2 with h2
    injection h2
  have hcell := World.var?_cell hg0 hv i
  rw [hcell, hk]
  have h3 := congrArg (fun l => l[0]?) e1
  simp only [List.getElem?_take, List.getElem?_drop] at h3
  simpa using h3
end Go.Proofs.YtapjgdhdgpakhaaGreatDoor
namespace Go.Proofs.YtapjgdhdgpakhaaGreatDoor.Hi
open Go.ChangeShapes Go.WideShapes Go.ChangeAt Go.WideMaps Go.WideElems Go.RowKit
set_option linter.unusedVariables false

theorem pows_laid : (Rows.laid_internal_strconv_uint64pow10 : DataW Unit) = Lib.tabData .u64 Lib.pow10Tab := by kernel_rfl
theorem star : "*" ++ "errors.errorString" = "*errors.errorString" := by decide
theorem err_row (u : TypeId) (h : Tryz.prog.typeName? 3 u = some "*errors.errorString") : u = 141 :=
  typeName_ptr_named (nm := "errors.errorString") (by rw [star]; kernel_rfl) (by kernel_rfl) (by decide) u (by rw [star]; exact h)
theorem err_cells : Tryz.prog.cellsOf 143 = 1 := by kernel_rfl
theorem str_cells : Tryz.prog.cellsOf 9 = 1 := by kernel_rfl
theorem door_met (os : Os) (args : Array Value) : laidMetH Tryz.prog [("math/bits.deBruijn32tab", Rows.laid_math_bits_deBruijn32tab), ("math/bits.deBruijn64tab", Rows.laid_math_bits_deBruijn64tab), ("internal/strconv.uint64pow10", Rows.laid_internal_strconv_uint64pow10), ("strconv.ErrRange", Rows.laid_strconv_ErrRange), ("strconv.ErrSyntax", Rows.laid_strconv_ErrSyntax)] ((World.doorLaid Tryz.prog 400 os).forCall (fun _ _ => 0) ⟨#[], args, []⟩).memory :=
  laidMetH_of_parts3 (fuel := 8) (laidMet_of_run' 8 (by kernel_rfl) (by kernel_rfl)) (by kernel_rfl) (by kernel_rfl)
theorem kt_of_laid {W : World} (h : laidMetH Tryz.prog [("math/bits.deBruijn32tab", Rows.laid_math_bits_deBruijn32tab), ("math/bits.deBruijn64tab", Rows.laid_math_bits_deBruijn64tab), ("internal/strconv.uint64pow10", Rows.laid_internal_strconv_uint64pow10), ("strconv.ErrRange", Rows.laid_strconv_ErrRange), ("strconv.ErrSyntax", Rows.laid_strconv_ErrSyntax)] W) : Hj.Kw W := by
  rw [MakeChecks.laidMetH_plain _ _ _ (by kernel_rfl)] at h
  have h3 := h.tail.tail
  obtain ⟨ps, hv, _⟩ := h3
  have h4 := h.tail.tail.tail
  have h5 := h4.tail
  refine ⟨?_, ?_, ?_⟩
  · rw [pows_laid] at hv
    obtain ⟨g', t', cs, fuel, p, q, hg', ht', hvar, hd, _, _⟩ := hv
    have hg : Tryz.prog.globalNamed "internal/strconv.uint64pow10" = some 1 := by kernel_rfl
    have hty : (Tryz.prog.globals[1]?).map (·.type) = some 132 := by kernel_rfl
    obtain rfl := Option.some.inj (hg.symm.trans hg')
    obtain rfl := Option.some.inj (hty.symm.trans ht')
    unfold Lib.TabIs
    rw [hvar, ← Lib.cells_of_tab (n := 20) Tryz.underlying132 Tryz.underlying117 (by kernel_rfl) (by kernel_rfl) hd]
  · have hg : Tryz.prog.globalNamed "strconv.ErrSyntax" = some 2 := by kernel_rfl
    obtain ⟨a, s, hva, _⟩ := laid_sentinel (P := Tryz.prog) (te := 143) (ts := 9) h5 hg (show (Tryz.prog.globals[2]?).map (·.type) = some 69 from by kernel_rfl) Tryz.underlying69 err_row Tryz.underlying141 Tryz.underlying143 rfl rfl Tryz.underlying9 err_cells str_cells
    exact ⟨_, _, by simpa using World.var?_cell hg hva 0⟩
  · have hg : Tryz.prog.globalNamed "strconv.ErrRange" = some 3 := by kernel_rfl
    obtain ⟨a, s, hva, _⟩ := laid_sentinel (P := Tryz.prog) (te := 143) (ts := 9) h4 hg (show (Tryz.prog.globals[3]?).map (·.type) = some 69 from by kernel_rfl) Tryz.underlying69 err_row Tryz.underlying141 Tryz.underlying143 rfl rfl Tryz.underlying9 err_cells str_cells
    exact ⟨_, _, by simpa using World.var?_cell hg hva 0⟩
end Go.Proofs.YtapjgdhdgpakhaaGreatDoor.Hi
