/-
  Proved: Sha1Sums returns true for every text, and changes nothing that was there: the program's digest is the document's.
  Conditions: none beside the row's own.
-/
import Derived.Test.YtpbfmffpggdlcaaPi
import Derived.Test.YtpbfmffpggdlcaaP
namespace Go.Proofs.Ytpbfmffpggdlcaa.sha1Sums
open Go.ChangeShapes Go.WideShapes Go.ChangeAt Go.RowKit
open Go.ChangeMaps (open_string)
set_option linter.unusedVariables false

theorem walk (a : ByteArray) (ws : a.size ≤ maxLen) (w : World) : Calls Try.prog 3 #[.string a] w fun e w' => e = .returned (.bool true) ∧ Below w.heap.size w w' := by
  go_enter Try.func3, Try.ntmps3
  go_wp2_with fail
  refine (Hp.awake_any _).mono ?_
  rintro e1 w1 ⟨rfl, hb1⟩
  by_cases hs : a.size ≤ 2000
  · have h1 : ¬ (2000 : Int) < a.size := by omega
    have hs1 := Hp.sum_one a w1 (by omega)
    go_wp2_with fail
    refine hs1.mono ?_
    rintro e2 w2 ⟨rfl, hb2⟩
    go_wp2_with fail
    refine (Hs.rsum_any a w2 (by omega)).mono ?_
    rintro e3 w3 ⟨rfl, hb3⟩
    have s1 := hb1.size
    have s2 := hb2.size
    generalize (⟨(Hs.Sh.sum a.data.toList).toArray⟩ : ByteArray) = D at *
    have hD : (D.toList == D.toList) = true := by simp
    go_wp2
    go_ret
    exact ⟨rfl, hb1.trans ((hb2.mono s1).trans (hb3.mono (by omega)))⟩
  · have h1 : (2000 : Int) < a.size := by omega
    go_wp2
    go_ret
    exact ⟨rfl, hb1⟩

theorem own : ownKnob Try.prog.godebug = none := by kernel_rfl

set_option maxRecDepth 100000 in
theorem lifted (os : Os) (started : os.Started) (H : Type) (enc : TypeId × Value → H) :
    ReturnsInHanded {} Try.checked os 3 .any (Rows.sha1SumsSpec.pre6 enc Try.prog Try.f3 Rows.sha1SumsRow.domain false) (Rows.sha1SumsSpec.post enc Try.prog Try.f3 false true false false) := by
  refine returnsInHanded_of_change (C := Try.checked) own started (by kernel_rfl) Try.func3
    (ChangeSpec.witness6 (enc := enc) (C := Try.checked) false ⟨#[], #[.string ByteArray.empty], []⟩ 8 (by kernel_rfl) (by kernel_rfl) (by kernel_rfl) (by kernel_rfl)) ?_
  intro W base args ds gs before hval0 hW hcnd _
  have hval : ∀ (j : Nat) t v, Try.f3.params[j]? = some t → args[j]? = some v → Value.okWide Try.prog W .any base t v := hval0
  have hW' := hW
  obtain ⟨p, q, hA0, hV, rfl, hfz, hnd⟩ := hW
  have hA : DataW.TrodAll enc Try.prog W 0 (fun _ => true) true Try.f3.params.toList args.toList ds p := hA0
  rw [Try.params3] at hA hval
  obtain ⟨v0, vs0, d0, ds0, p0, q0, hargs, rfl, rfl, h0, r0⟩ := trodAll_cons hA
  obtain ⟨rfl, rfl, rfl⟩ := trodAll_nil r0
  obtain rfl : args = #[v0] := by cases args; simp_all
  obtain ⟨rfl, rfl⟩ := trodVars_none hV
  obtain ⟨a0, rfl, rfl, rfl, w0⟩ := open_string Try.underlying9 (hval 0 9 v0 rfl rfl) h0
  clear hA0 hval0
  refine (walk a0 w0 W).mono fun e W' ⟨he, hg⟩ => ?_
  subst he
  exact ⟨_, rfl, law_post Try.laid (by kernel_rfl) (by kernel_rfl) Try.underlying4 rfl rfl hW' hg⟩

theorem over : Rows.sha1SumsRow.holds Try.pinned (OpenSpec.ofChange Rows.sha1SumsSpec) :=
  OpenClaim.holds_of_wide 3 Try.f3 rfl rfl rfl rfl rfl rfl rfl ⟨rfl, rfl, rfl, rfl, rfl⟩ rfl rfl rfl rfl rfl (by kernel_rfl) Try.func3 (by kernel_rfl)
    (of_decide_eq_true (by kernel_rfl)) (by unfold Func.isWrapper; first | (rw [if_pos (by decide +kernel)]; kernel_rfl) | (rw [if_neg (by decide +kernel)]; exact ⟨rfl, rfl⟩))
    (fun os started H enc _ => lifted os started H enc)
end Go.Proofs.Ytpbfmffpggdlcaa.sha1Sums

namespace Go.Proofs.Ytpbfmffpggdlcaa
theorem sha1Sums_holds : Rows.Sha1SumsSaid := sha1Sums.over
end Go.Proofs.Ytpbfmffpggdlcaa
