/-
  Proved: CrcSums returns true for every two texts, and changes nothing that was there.
  Conditions: none beside the row's own.
-/
import Derived.Test.YtkaniccmdjbkdaaCf
import Derived.Test.YtkaniccmdjbkdaaP
namespace Go.Proofs.Ytkaniccmdjbkdaa.crcSums
open Go.ChangeShapes Go.WideShapes Go.ChangeAt Go.RowKit
open Go.ChangeMaps (open_string)
set_option linter.unusedVariables false

open Hs Hc
set_option maxHeartbeats 2000000 in
set_option maxRecDepth 100000 in
theorem walk (a b : ByteArray) (ha : a.size ≤ maxLen) (hb : b.size ≤ maxLen) (w : World) : Calls Try.prog 3 #[.string a, .string b] w fun e w' => e = .returned (.bool true) ∧ Below w.heap.size w w' := by
  go_enter Try.func3, Try.ntmps3
  go_wp2_with fail
  refine (Hc.awake_any _).mono ?_
  rintro e1 w1 ⟨rfl, hb1⟩
  by_cases hsa : a.size ≤ 2000
  · have h1 : ¬ (2000 : Int) < a.size := by omega
    by_cases hsb : b.size ≤ 2000
    · have h2 : ¬ (2000 : Int) < b.size := by omega
      have hab : (a ++ b).size ≤ 4000 := by rw [ByteArray.size_append]; omega
      have O1 := Lib.hid (fun W => open_any b W (by omega))
      have O2 := Lib.hid (fun W => ropen_any b W (by omega))
      have S2 := Lib.hid (fun W => sum_two W a b (by omega) (by omega))
      have R1 := Lib.hid (fun W => show Calls _ _ _ _ fun e' w' => e' = .returned (.int .u32 (tn (Cr.sum (bl a ++ bl b)))) ∧ _ from by have h := rsum_any (a ++ b) W (by omega); rw [bl_append] at h; exact h)
      have S1 := Lib.hid (fun W => sum_one W a (by omega))
      have M1 := Lib.hid (fun W => show Calls _ _ _ _ fun e' w' => e' = .returned (.int .u32 (tn (Cr.sum (bl a ++ bl b)))) ∧ _ from by have h := more_any (Cr.sum (bl a)) b W (by omega); rw [Cr.more_sum] at h; exact h)
      have S3 := Lib.hid (fun W => show Calls _ _ _ _ fun e' w' => e' = .returned (.int .u32 (tn (Cr.sum (bl a ++ bl b)))) ∧ _ from by have h := sum_one W (a ++ b) (by omega); rw [bl_append] at h; exact h)
      have E1 := Lib.hid (fun W => seal_any a W (by omega))
      have E2 := Lib.hid (fun W => rseal_any a W (by omega))
      generalize Cr.sum (bl a ++ bl b) = X at *
      generalize Cr.sum (bl a) = Y at *
      generalize str (Cr.sealed (bl a)) = Z at *
      generalize str (Cr.openT (bl b)) = T at *
      generalize Cr.openC (bl b) = C at *
      have hz := str_beq (rfl : Z = Z)
      have ht := str_beq (rfl : T = T)
      generalize hab2 : a ++ b = ab at *
      go_wp2_with fail
      refine (O1.out _).mono ?_
      rintro e w2 ⟨rfl, hb2⟩
      have hb02 := hb1.trans (hb2.mono hb1.size)
      clear hb1 hb2
      go_wp2_with fail
      refine (O2.out _).mono ?_
      rintro e w3 ⟨rfl, hb3⟩
      have hb03 := hb02.trans (hb3.mono hb02.size)
      clear hb02 hb3
      go_wp2_with fail
      refine (S2.out _).mono ?_
      rintro e w4 ⟨rfl, hb4⟩
      have hb04 := hb03.trans (hb4.mono hb03.size)
      clear hb03 hb4
      go_wp2_with fail
      refine (R1.out _).mono ?_
      rintro e w5 ⟨rfl, rfl⟩
      go_wp2_with fail
      refine (S1.out _).mono ?_
      rintro e w6 ⟨rfl, hb6⟩
      have hb06 := hb04.trans (hb6.mono hb04.size)
      clear hb04 hb6
      go_wp2_with fail
      refine (M1.out _).mono ?_
      rintro e w7 ⟨rfl, hb7⟩
      have hb07 := hb06.trans (hb7.mono hb06.size)
      clear hb06 hb7
      go_wp2_with fail
      refine (S3.out _).mono ?_
      rintro e w8 ⟨rfl, hb8⟩
      have hb08 := hb07.trans (hb8.mono hb07.size)
      clear hb07 hb8
      go_wp2_with fail
      refine (E1.out _).mono ?_
      rintro e w9 ⟨rfl, hb9⟩
      have hb09 := hb08.trans (hb9.mono hb08.size)
      clear hb08 hb9
      go_wp2_with fail
      refine (E2.out _).mono ?_
      rintro e w10 ⟨rfl, hb10⟩
      have hb010 := hb09.trans (hb10.mono hb09.size)
      clear hb09 hb10
      go_wp2
      go_ret
      exact ⟨rfl, hb010⟩
    · have h2 : (2000 : Int) < b.size := by omega
      go_wp2
      go_ret
      exact ⟨rfl, hb1⟩
  · have h1 : (2000 : Int) < a.size := by omega
    go_wp2
    go_ret
    exact ⟨rfl, hb1⟩

theorem own : ownKnob Try.prog.godebug = none := by kernel_rfl

set_option maxRecDepth 100000 in
theorem lifted (os : Os) (started : os.Started) (H : Type) (enc : TypeId × Value → H) :
    ReturnsInHanded {} Try.checked os 3 .any (Rows.crcSumsSpec.pre6 enc Try.prog Try.f3 Rows.crcSumsRow.domain false) (Rows.crcSumsSpec.post enc Try.prog Try.f3 false true false false) := by
  refine returnsInHanded_of_change (C := Try.checked) own started (by kernel_rfl) Try.func3
    (ChangeSpec.witness6 (enc := enc) (C := Try.checked) false ⟨#[], #[.string ByteArray.empty, .string ByteArray.empty], []⟩ 8 (by kernel_rfl) (by kernel_rfl) (by kernel_rfl) (by kernel_rfl)) ?_
  intro W base args ds gs before hval0 hW hcnd _
  have hval : ∀ (j : Nat) t v, Try.f3.params[j]? = some t → args[j]? = some v → Value.okWide Try.prog W .any base t v := hval0
  have hW' := hW
  obtain ⟨p, q, hA0, hV, rfl, hfz, hnd⟩ := hW
  have hA : DataW.TrodAll enc Try.prog W 0 (fun _ => true) true Try.f3.params.toList args.toList ds p := hA0
  rw [Try.params3] at hA hval
  obtain ⟨v0, vs0, d0, ds0, p0, q0, hargs, rfl, rfl, h0, r0⟩ := trodAll_cons hA
  obtain ⟨v1, vs1, d1, ds1, p1, q1, rfl, rfl, rfl, h1, r1⟩ := trodAll_cons r0
  obtain ⟨rfl, rfl, rfl⟩ := trodAll_nil r1
  obtain rfl : args = #[v0, v1] := by cases args; simp_all
  obtain ⟨rfl, rfl⟩ := trodVars_none hV
  obtain ⟨a0, rfl, rfl, rfl, w0⟩ := open_string Try.underlying9 (hval 0 9 v0 rfl rfl) h0
  obtain ⟨a1, rfl, rfl, rfl, w1⟩ := open_string Try.underlying9 (hval 1 9 v1 rfl rfl) h1
  clear hA0 hval0
  refine (walk a0 a1 w0 w1 W).mono fun e W' ⟨he, hg⟩ => ?_
  subst he
  exact ⟨_, rfl, law_post Try.laid (by kernel_rfl) (by kernel_rfl) Try.underlying4 rfl rfl hW' hg⟩

theorem over : Rows.crcSumsRow.holds Try.pinned (OpenSpec.ofChange Rows.crcSumsSpec) :=
  OpenClaim.holds_of_wide 3 Try.f3 rfl rfl rfl rfl rfl rfl rfl ⟨rfl, rfl, rfl, rfl, rfl⟩ rfl rfl rfl rfl rfl (by kernel_rfl) Try.func3 (by kernel_rfl)
    (of_decide_eq_true (by kernel_rfl)) (by unfold Func.isWrapper; first | (rw [if_pos (by decide +kernel)]; kernel_rfl) | (rw [if_neg (by decide +kernel)]; exact ⟨rfl, rfl⟩))
    (fun os started H enc _ => lifted os started H enc)
end Go.Proofs.Ytkaniccmdjbkdaa.crcSums

namespace Go.Proofs.Ytkaniccmdjbkdaa
theorem crcSums_holds : Rows.CrcSumsSaid := crcSums.over
end Go.Proofs.Ytkaniccmdjbkdaa
