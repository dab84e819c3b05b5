/-
  Proved: DeltaApplies returns true for every base, every delta and every bound, and changes nothing that was there.
  Conditions: none beside the row's own.
-/
import Derived.Test.YtcgaofndckiddaaEm
import Derived.Test.YtcgaofndckiddaaP
namespace Go.Proofs.Ytcgaofndckiddaa.deltaApplies
open Go.ChangeShapes Go.WideShapes Go.ChangeAt Go.RowKit
open Go.ChangeMaps (open_string)
set_option linter.unusedVariables false

open Hg He
set_option maxHeartbeats 2000000 in
set_option maxRecDepth 100000 in
theorem walk (b : ByteArray) (s : ByteArray) (m : Int) (hb : b.size ≤ maxLen) (hs : s.size ≤ maxLen) (hm : (Lit.int .i64 m).wf = true) (w : World) : Calls Try.prog 3 #[.string b, .string s, .int .i64 m] w fun e w' => e = .returned (.bool true) ∧ Below w.heap.size w w' := by
  have hm9 : m < 9223372036854775808 := by
    have := (bounds_i64 hm).2
    omega
  go_enter Try.func3, Try.ntmps3
  go_wp2_with fail
  refine (He.awake_any _).mono ?_
  rintro e1 w1 ⟨rfl, hb1⟩
  by_cases hba : b.size ≤ 2000
  · have h0 : ¬ (2000 : Int) < b.size := by omega
    by_cases hsa : s.size ≤ 2000
    · have h1 : ¬ (2000 : Int) < s.size := by omega
      have O1 := Lib.hid (fun W => apply_any b s m W hba hsa hm9)
      have O2 := Lib.hid (fun W => rapply_any b s m W (by omega) (by omega))
      have O3 := Lib.hid (fun W => size_any s W (by omega))
      have O4 := Lib.hid (fun W => rsize_any s W (by omega))
      have HA := Lib.hid (show ans (Df.applyF (bl b) (bl s) m.toNat) = .tuple #[.string (str (Df.applyF (bl b) (bl s) m.toNat).1), .int .i64 (Df.applyF (bl b) (bl s) m.toNat).2] from rfl)
      have HB := Lib.hid (show two (Df.sizeF (bl s)) = .tuple #[.int .i64 (Df.sizeF (bl s)).1, .int .i64 (Df.sizeF (bl s)).2] from rfl)
      rw [HA.out] at O1 O2
      rw [HB.out] at O3 O4
      generalize str (Df.applyF (bl b) (bl s) m.toNat).1 = T at *
      generalize (Df.applyF (bl b) (bl s) m.toNat).2 = C at *
      generalize (Df.sizeF (bl s)).1 = N at *
      generalize (Df.sizeF (bl s)).2 = K at *
      have ht := str_beq (rfl : T = T)
      clear HA HB
      go_wp2_with fail
      refine (O1.out _).mono ?_
      rintro e w2 ⟨rfl, hb2⟩
      have hb02 := hb1.trans (hb2.mono hb1.size)
      clear hb1 hb2
      go_wp2_with fail
      refine (O2.out _).mono ?_
      rintro e w3 ⟨rfl, hb3⟩
      have hb03 := hb02.trans (hb3.mono hb02.size)
      clear hb02 hb3
      go_wp2_with fail
      refine (O3.out _).mono ?_
      rintro e w4 ⟨rfl, hb4⟩
      have hb04 := hb03.trans (hb4.mono hb03.size)
      clear hb03 hb4
      go_wp2_with fail
      refine (O4.out _).mono ?_
      rintro e w5 ⟨rfl, hb5⟩
      have hb05 := hb04.trans (hb5.mono hb04.size)
      clear hb04 hb5
      go_wp2
      go_ret
      exact ⟨rfl, hb05⟩
    · have h1 : (2000 : Int) < s.size := by omega
      go_wp2
      go_ret
      exact ⟨rfl, hb1⟩
  · have h0 : (2000 : Int) < b.size := by omega
    go_wp2
    go_ret
    exact ⟨rfl, hb1⟩

theorem own : ownKnob Try.prog.godebug = none := by kernel_rfl

set_option maxRecDepth 100000 in
theorem lifted (os : Os) (started : os.Started) (H : Type) (enc : TypeId × Value → H) :
    ReturnsInHanded {} Try.checked os 3 .any (Rows.deltaAppliesSpec.pre6 enc Try.prog Try.f3 Rows.deltaAppliesRow.domain false) (Rows.deltaAppliesSpec.post enc Try.prog Try.f3 false true false false) := by
  refine returnsInHanded_of_change (C := Try.checked) own started (by kernel_rfl) Try.func3
    (ChangeSpec.witness6 (enc := enc) (C := Try.checked) false ⟨#[], #[.string ByteArray.empty, .string ByteArray.empty, .int .i64 0], []⟩ 8 (by kernel_rfl) (by kernel_rfl) (by kernel_rfl) (by kernel_rfl)) ?_
  intro W base args ds gs before hval0 hW hcnd _
  have hval : ∀ (j : Nat) t v, Try.f3.params[j]? = some t → args[j]? = some v → Value.okWide Try.prog W .any base t v := hval0
  have hW' := hW
  obtain ⟨p, q, hA0, hV, rfl, hfz, hnd⟩ := hW
  have hA : DataW.TrodAll enc Try.prog W 0 (fun _ => true) true Try.f3.params.toList args.toList ds p := hA0
  rw [Try.params3] at hA hval
  obtain ⟨v0, vs0, d0, ds0, p0, q0, hargs, rfl, rfl, h0, r0⟩ := trodAll_cons hA
  obtain ⟨v1, vs1, d1, ds1, p1, q1, rfl, rfl, rfl, h1, r1⟩ := trodAll_cons r0
  obtain ⟨v2, vs2, d2, ds2, p2, q2, rfl, rfl, rfl, h2, r2⟩ := trodAll_cons r1
  obtain ⟨rfl, rfl, rfl⟩ := trodAll_nil r2
  obtain rfl : args = #[v0, v1, v2] := by cases args; simp_all
  obtain ⟨rfl, rfl⟩ := trodVars_none hV
  obtain ⟨a0, rfl, rfl, rfl, w0⟩ := open_string Try.underlying9 (hval 0 9 v0 rfl rfl) h0
  obtain ⟨a1, rfl, rfl, rfl, w1⟩ := open_string Try.underlying9 (hval 1 9 v1 rfl rfl) h1
  obtain ⟨a2, rfl, rfl, rfl, w2⟩ := open_int Try.underlying3 (hval 2 3 v2 rfl rfl) h2
  clear hA0 hval0
  refine (walk a0 a1 a2 w0 w1 w2 W).mono fun e W' ⟨he, hg⟩ => ?_
  subst he
  exact ⟨_, rfl, law_post Try.laid (by kernel_rfl) (by kernel_rfl) Try.underlying4 rfl rfl hW' hg⟩

theorem over : Rows.deltaAppliesRow.holds Try.pinned (OpenSpec.ofChange Rows.deltaAppliesSpec) :=
  OpenClaim.holds_of_wide 3 Try.f3 rfl rfl rfl rfl rfl rfl rfl ⟨rfl, rfl, rfl, rfl, rfl⟩ rfl rfl rfl rfl rfl (by kernel_rfl) Try.func3 (by kernel_rfl)
    (of_decide_eq_true (by kernel_rfl)) (by unfold Func.isWrapper; first | (rw [if_pos (by decide +kernel)]; kernel_rfl) | (rw [if_neg (by decide +kernel)]; exact ⟨rfl, rfl⟩))
    (fun os started H enc _ => lifted os started H enc)
end Go.Proofs.Ytcgaofndckiddaa.deltaApplies

namespace Go.Proofs.Ytcgaofndckiddaa
theorem deltaApplies_holds : Rows.DeltaAppliesSaid := deltaApplies.over
end Go.Proofs.Ytcgaofndckiddaa
