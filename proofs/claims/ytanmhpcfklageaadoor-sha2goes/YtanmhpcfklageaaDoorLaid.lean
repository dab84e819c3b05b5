/-
  A package-level table of numbers that the row lists: each of its cells holds the number that stands there.
-/
import Derived.Test.YtanmhpcfklageaaDoorRows
import Derived.ProofKit
import Derived.LaidMore
import Derived.OpenShut
import Derived.Stop.Joined
namespace Go.Proofs.YtanmhpcfklageaaDoor
open Go.ChangeShapes Go.WideShapes Go.ChangeAt Go.WideMaps Go.WideElems Go.RowKit
set_option linter.unusedVariables false

theorem laid_numbers {P : Program} {W : World} {n : String} {ks : List Int} {k : IntKind} {g : Nat} {ty te : TypeId} {r : List (String × DataW Unit)} {ps : List MemPlace} (hgn : P.globalNamed n = some g) (hty : (P.globals[g]?).map (·.type) = some ty)
    (hu : P.underlying ty = some (.array ks.length te)) (he : P.underlying te = some (.int k)) (hc : P.cellsOf te = 1) (h : DataW.LaidVars P W ((n, .agg (ks.map fun x => .lit (.int k x))) :: r) ps) (i : Nat) (hi : i < ks.length) :
    W.cell? ⟨g, i, none⟩ = some (.int k ks[i]) := by
  obtain ⟨g0, t0, cs, fuel, p, q, hg0, ht0, hv, hd, _, _⟩ := h
  obtain rfl := Option.some.inj (hgn.symm.trans hg0)
  obtain rfl := Option.some.inj (hty.symm.trans ht0)
  obtain ⟨xs, m, rfl, hx, hlen, hn, hel⟩ := DataW.trod_array hu hd
  have h1 := hel i hi
  rw [hc, Nat.mul_one, List.getElem?_eq_getElem (by omega)] at h1
  obtain ⟨v, e1, e2, _⟩ := DataW.trod_int he h1
  have hm : ks.map (fun x => DataW.lit (.int k x)) = xs.map (·.1) := by
    have := congrArg Prod.fst hx
    simpa using this
  have hk : ks[i] = v := by
    have h2 := congrArg (fun l => l[i]?) hm
    simp only [List.getElem?_map, List.getElem?_eq_getElem hi, List.getElem?_eq_getElem (show i < xs.length by omega), Option.map_some, Option.some.injEq] at h2
    rw [e2] at h2
    injection h2 with h2
    injection h2
  have hcell := World.var?_cell hg0 hv i
  rw [hcell, hk]
  have h3 := congrArg (fun l => l[0]?) e1
  simp only [List.getElem?_take, List.getElem?_drop] at h3
  simpa using h3
end Go.Proofs.YtanmhpcfklageaaDoor
