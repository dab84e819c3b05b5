/-
  Proved: Sha2Sums returns true for every text, and changes nothing that was there: the program's digest is the document's.
  Conditions: none beside the row's own.
-/
import Derived.Test.YtanmhpcfklageaaDoorQi
import Derived.Test.YtanmhpcfklageaaDoorQl
import Derived.Test.YtanmhpcfklageaaDoorSk
import Derived.Test.YtanmhpcfklageaaDoorP
import Derived.Test.YtanmhpcfklageaaDoorCards
import Derived.Test.YtanmhpcfklageaaDoorTie
namespace Go.Proofs.YtanmhpcfklageaaDoor.sha2Sums
open Go.ChangeShapes Go.WideShapes Go.ChangeAt Go.RowKit
open Go.ChangeMaps (open_string)
set_option linter.unusedVariables false

theorem walk (a : ByteArray) (ws : a.size ≤ maxLen) (w : World) (hK : Ho.Ks w) : Calls Tryd.prog 3 #[.string a] w fun e w' => e = .returned (.bool true) ∧ Below w.heap.size w w' := by
  have HK := Lib.hid hK
  clear hK
  go_enter Tryd.func3, Tryd.ntmps3
  go_wp2_with fail
  refine (Ho.awake_any _ HK.out).mono ?_
  rintro e1 w1 ⟨rfl, hb1⟩
  by_cases hs : a.size ≤ 2000
  · have h1 : ¬ (2000 : Int) < a.size := by omega
    have hs1 := Ho.sum_one a w1 (HK.out.under hb1) (by omega)
    go_wp2_with fail
    refine hs1.mono ?_
    rintro e2 w2 ⟨rfl, hb2⟩
    go_wp2_with fail
    refine (Hs.rsum2_any a w2 (by omega)).mono ?_
    rintro e3 w3 ⟨rfl, hb3⟩
    have s1 := hb1.size
    have s2 := hb2.size
    generalize (⟨(Hs.S2.sum a.data.toList).toArray⟩ : ByteArray) = D at *
    have hD : (D.toList == D.toList) = true := by simp
    go_wp2
    go_ret
    exact ⟨rfl, hb1.trans ((hb2.mono s1).trans (hb3.mono (by omega)))⟩
  · have h1 : (2000 : Int) < a.size := by omega
    go_wp2
    go_ret
    exact ⟨rfl, hb1⟩

theorem own : ownKnob Tryd.prog.godebug = none := by kernel_rfl

set_option maxRecDepth 100000 in
theorem lifted (os : Os) (started : os.Started) (H : Type) (enc : TypeId × Value → H) :
    ReturnsInHanded {} Tryd.checked os 3 .any (fun w args => (Rows.sha2SumsSpec.pre enc Tryd.prog Tryd.f3 [] false w args ∧ laidMetH Tryd.prog [("diptych/sha2.constants", Rows.laid_diptych_sha2_constants)] w) ∧ sizedMet enc Tryd.prog Tryd.f3 (OpenSpec.ofChange Rows.sha2SumsSpec) false w args)
      (Rows.sha2SumsSpec.post enc Tryd.prog Tryd.f3 false true false false) := by
  refine returnsInHanded_of_change_and (C := Tryd.checked) (X := fun w _ => laidMetH Tryd.prog [("diptych/sha2.constants", Rows.laid_diptych_sha2_constants)] w) (fun _ _ _ hh h => h.of_heap hh) own started (by kernel_rfl) Tryd.func3
    (ChangeSpec.witness_shaped (enc := enc) (C := Tryd.checked) (os := os) (X := fun w _ => laidMetH Tryd.prog [("diptych/sha2.constants", Rows.laid_diptych_sha2_constants)] w) false (World.doorLaid Tryd.prog 400 os) #[.string ByteArray.empty] 8 rfl (World.shaped_of_RefB (by kernel_rfl) (by kernel_rfl)) (by kernel_rfl) (by kernel_rfl) (by kernel_rfl) (door_met os _)) ?_
  intro W base args ds gs before hval0 hW _ _ hL _
  have hval : ∀ (j : Nat) t v, Tryd.f3.params[j]? = some t → args[j]? = some v → Value.okWide Tryd.prog W .any base t v := hval0
  have hW' := hW
  obtain ⟨p, q, hA0, hV, rfl, hfz, hnd⟩ := hW
  have hA : DataW.TrodAll enc Tryd.prog W 0 (fun _ => true) true Tryd.f3.params.toList args.toList ds p := hA0
  rw [Tryd.params3] at hA hval
  obtain ⟨v0, vs0, d0, ds0, p0, q0, hargs, rfl, rfl, h0, r0⟩ := trodAll_cons hA
  obtain ⟨rfl, rfl, rfl⟩ := trodAll_nil r0
  obtain rfl : args = #[v0] := by cases args; simp_all
  obtain ⟨rfl, rfl⟩ := trodVars_none hV
  obtain ⟨a0, rfl, rfl, rfl, w0⟩ := open_string Tryd.underlying9 (hval 0 9 v0 rfl rfl) h0
  clear hA0 hval0
  refine (walk a0 w0 W (ks_of_laid hL)).mono fun e W' ⟨he, hg⟩ => ?_
  subst he
  exact ⟨_, rfl, law_post Tryd.laid (by kernel_rfl) (by kernel_rfl) Tryd.underlying4 rfl rfl hW' hg⟩

theorem over : Rows.sha2SumsRow.holds Tryd.pinned (OpenSpec.ofChange Rows.sha2SumsSpec) :=
  OpenClaim.holds_of_wide 3 Tryd.f3 rfl rfl rfl rfl rfl rfl rfl ⟨rfl, rfl, rfl, rfl, rfl⟩ rfl rfl rfl rfl rfl (by kernel_rfl) Tryd.func3 (by kernel_rfl)
    (of_decide_eq_true (by kernel_rfl)) (by unfold Func.isWrapper; first | (rw [if_pos (by decide +kernel)]; kernel_rfl) | (rw [if_neg (by decide +kernel)]; exact ⟨rfl, rfl⟩))
    (fun os started H enc _ => lifted os started H enc)
end Go.Proofs.YtanmhpcfklageaaDoor.sha2Sums

namespace Go.Proofs.YtanmhpcfklageaaDoor
open Go
theorem sha2Sums_row_holds : Rows.Sha2SumsSaid := sha2Sums.over
theorem sha2Sums_holds : Rows.Sha2SumsCardSaid :=
  Claim7.holds_tied_plain_at .later [] [.data] true Rows.sha2SumsCard.stood.harness false
    sha2Sums_row_holds (fun _ h => by cases h) (by kernel_rfl) (fun _ h => by cases h) sha2Sums_row_tie rfl ⟨rfl, rfl⟩ (by kernel_rfl) rfl
    (fun f fn hf hfn => by
      obtain rfl : f = 3 := Option.some.inj ((show Tryd.prog.funcNamed "diptych/diptychlaw03.Sha2Sums" = some 3 by kernel_rfl).symm.trans hf) |>.symm
      obtain rfl : fn = Tryd.f3 := (Option.some.inj (Tryd.func3.symm.trans hfn)).symm
      exact ⟨by kernel_rfl, fun j t ht => by
        rw [Tryd.params3] at ht
        have hm : t ∈ [9] := by simpa using Array.mem_of_getElem? ht
        have hall : ([9].all fun u => !Tryd.prog.wantsStandIn u) = true := by kernel_rfl
        exact (show Tryd.prog.wantsStandIn t = false by simpa using List.all_eq_true.1 hall t hm)⟩)
    (by kernel_rfl)
end Go.Proofs.YtanmhpcfklageaaDoor
