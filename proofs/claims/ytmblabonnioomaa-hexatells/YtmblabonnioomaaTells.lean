/-
  Proved: for every b, s, list of names and space the law HexaTells returns true and leaves its arguments as they were (bytes, digits, beginnings and names are just what the document says, or wrong as it says; a name is found, and told from others, just as it says).
  Conditions: none beside the row's own.
-/
import Derived.Test.YtmblabonnioomaaU
namespace Go.Proofs.Ytmblabonnioomaa.hexaTells
open Go.ChangeShapes Go.WideShapes Go.ChangeAt Go.RowKit
open Go.ChangeMaps (open_string)
set_option linter.unusedVariables false

/-- how many bytes a space's names have -/
def sizeN (x : Int) : Int := if x = 1 then 20 else if x = 2 then 32 else 0
theorem Size_val (x : Int) (w : World) : Calls Try.prog 20 #[.int .i64 x] w fun e w' => e = .returned (.int .i64 (sizeN x)) ∧ w = w' := Size_any x w
theorem rSize_val (x : Int) (w : World) : Calls Try.prog 21 #[.int .i64 x] w fun e w' => e = .returned (.int .i64 (sizeN x)) ∧ w = w' := rSize_any x w

set_option maxHeartbeats 2000000 in
set_option maxRecDepth 100000 in
theorem walk_small (b s : ByteArray) (A : Option Addr) (c B : Nat) (ss : List ByteArray) (x : Int) (w : World) (hr0 : Strs w B A ss) (hB : B ≤ w.heap.size) (hb : b.size ≤ 500) (hs : s.size ≤ 500) :
    Calls Try.prog 3 #[.string b, .string s, .slice A ss.length c, .int .i64 x] w fun e w' => e = .returned (.bool true) ∧ Below w.heap.size w w' := by
  have HR0 := Lib.hid hr0
  clear hr0
  have d1 : decide (500 < (b.size : Int)) = false := by simp; omega
  have d2 : decide (500 < (s.size : Int)) = false := by simp; omega
  go_enter Try.func3, Try.ntmps3
  go_wp2_with fail
  refine (awake_any _).mono ?_
  rintro e w1 ⟨rfl, hb1⟩
  have hr1 := HR0.out.below (hb1.mono hB)
  go_wp2_with fail
  refine (few_any _ _ _ _ _ hr1).mono ?_
  rintro e w2 ⟨r, rfl, rfl, hfew⟩
  clear hr1
  cases r
  · clear hfew
    go_wp2
    go_ret
    exact ⟨rfl, hb1⟩
  · obtain ⟨hn, hz⟩ := hfew rfl
    have HZ := Lib.hid hz
    have HZ2 := Lib.hid (fun i (hi : i < ss.length) => Nat.le_trans (hz i hi) (show 5000 ≤ 100000 by omega))
    clear hfew hz
    have HB1 := Lib.hid hb1
    clear hb1
    go_wp2_with fail
    with_reducible refine (Bytes_any s _ (by omega)).mono ?_
    rintro e v2 ⟨rfl, hq⟩
    have HB2 := Lib.hid (HB1.out.trans (hq.mono HB1.out.size))
    clear hq HB1
    go_wp2_with fail
    with_reducible refine (rBytes_any s _ (by omega)).mono ?_
    rintro e v3 ⟨rfl, hq⟩
    have HB3 := Lib.hid (HB2.out.trans (hq.mono HB2.out.size))
    clear hq HB2
    go_wp2_with fail
    with_reducible refine (Find_any A c B ss s _ (HR0.out.below (HB3.out.mono hB)) (by omega) HZ2.out (by omega)).mono ?_
    rintro e v4 ⟨rfl, hq⟩
    have HB4 := Lib.hid (HB3.out.trans (hq.below _))
    clear hq HB3
    go_wp2_with fail
    with_reducible refine (rFind_any A c B ss s _ (HR0.out.below (HB4.out.mono hB)) (Nat.le_trans hB HB4.out.size) hn HZ.out hs).mono ?_
    rintro e v5 ⟨rfl, hq⟩
    have HB5 := Lib.hid (HB4.out.trans (hq.mono HB4.out.size))
    clear hq HB4
    go_wp2_with fail
    with_reducible refine (Digits_any b _ (by omega)).mono ?_
    rintro e v6 ⟨rfl, hq⟩
    have HB6 := Lib.hid (HB5.out.trans (hq.mono HB5.out.size))
    clear hq HB5
    go_wp2_with fail
    with_reducible refine (rDigits_any b _ (by omega)).mono ?_
    rintro e v7 ⟨rfl, hq⟩
    have HB7 := Lib.hid (HB6.out.trans (hq.mono HB6.out.size))
    clear hq HB6
    go_wp2_with fail
    with_reducible refine (Short_any s _ (by omega)).mono ?_
    rintro e wz ⟨rfl, rfl⟩
    go_wp2_with fail
    with_reducible refine (rShort_any s _ (by omega)).mono ?_
    rintro e wz ⟨rfl, rfl⟩
    go_wp2_with fail
    with_reducible refine (Begins_any b s _ (by omega) (by omega)).mono ?_
    rintro e v8 ⟨rfl, hq⟩
    have HB8 := Lib.hid (HB7.out.trans (hq.below _))
    clear hq HB7
    go_wp2_with fail
    with_reducible refine (rBegins_any b s _ (by omega) (by omega)).mono ?_
    rintro e v9 ⟨rfl, hq⟩
    have HB9 := Lib.hid (HB8.out.trans (hq.mono HB8.out.size))
    clear hq HB8
    go_wp2_with fail
    with_reducible refine (Size_val x _).mono ?_
    rintro e wz ⟨rfl, rfl⟩
    go_wp2_with fail
    with_reducible refine (rSize_val x _).mono ?_
    rintro e wz ⟨rfl, rfl⟩
    go_wp2_with fail
    with_reducible refine (Space_any b _).mono ?_
    rintro e wz ⟨rfl, rfl⟩
    go_wp2_with fail
    with_reducible refine (rSpace_any b _).mono ?_
    rintro e wz ⟨rfl, rfl⟩
    go_wp2_with fail
    with_reducible refine (Least_any A c B ss b _ (HR0.out.below (HB9.out.mono hB)) (by omega) HZ2.out (by omega)).mono ?_
    rintro e wz ⟨rfl, rfl⟩
    go_wp2_with fail
    with_reducible refine (rLeast_any A c B ss b _ (HR0.out.below (HB9.out.mono hB)) (Nat.le_trans hB HB9.out.size) hn HZ.out hb).mono ?_
    rintro e v10 ⟨rfl, hq⟩
    have HB10 := Lib.hid (HB9.out.trans (hq.mono HB9.out.size))
    clear hq HB9
    go_wp2
    go_ret
    exact ⟨rfl, HB10.out⟩

theorem walk (a0 a1 : ByteArray) (A2 : Option Addr) (c2 : Nat) (ss2 : List ByteArray) (a3 : Int) (w : World) (w0 : a0.size ≤ maxLen) (w1 : a1.size ≤ maxLen) (hr : Strs w w.heap.size A2 ss2) (w3 : (Lit.int .i64 a3).wf = true) :
    Calls Try.prog 3 #[.string a0, .string a1, .slice A2 ss2.length c2, .int .i64 a3] w fun e w' => e = .returned (.bool true) ∧ Below w.heap.size w w' := by
  by_cases h : a0.size ≤ 500 ∧ a1.size ≤ 500
  · exact walk_small a0 a1 A2 c2 w.heap.size ss2 a3 w hr (Nat.le_refl _) h.1 h.2
  · clear w0 w1 w3 hr
    go_enter Try.func3, Try.ntmps3
    go_wp2_with fail
    refine (awake_any _).mono ?_
    rintro e w1 ⟨rfl, hb1⟩
    by_cases h0 : a0.size ≤ 500
    · have d1 : decide (500 < (a0.size : Int)) = false := by simp; omega
      have d2 : decide (500 < (a1.size : Int)) = true := by simp; omega
      go_wp2
      go_ret
      exact ⟨rfl, hb1⟩
    · have d1 : decide (500 < (a0.size : Int)) = true := by simp; omega
      go_wp2
      go_ret
      exact ⟨rfl, hb1⟩

theorem own : ownKnob Try.prog.godebug = none := by kernel_rfl

set_option maxRecDepth 100000 in
theorem lifted (os : Os) (started : os.Started) (H : Type) (enc : TypeId × Value → H) :
    ReturnsInHanded {} Try.checked os 3 .any (Rows.hexaTellsSpec.pre6 enc Try.prog Try.f3 Rows.hexaTellsRow.domain false) (Rows.hexaTellsSpec.post enc Try.prog Try.f3 false true false false) := by
  refine returnsInHanded_of_change (C := Try.checked) own started (by kernel_rfl) Try.func3
    (ChangeSpec.witness6 (enc := enc) (C := Try.checked) false ⟨#[], #[.string ByteArray.empty, .string ByteArray.empty, .slice none 0 0, .int .i64 0], []⟩ 8 (by kernel_rfl) (by kernel_rfl) (by kernel_rfl) (by kernel_rfl)) ?_
  intro W base args ds gs before hval0 hW hcnd _
  have hval : ∀ (j : Nat) t v, Try.f3.params[j]? = some t → args[j]? = some v → Value.okWide Try.prog W .any base t v := hval0
  have hW' := hW
  obtain ⟨p, q, hA0, hV, rfl, hfz, hnd⟩ := hW
  have hA : DataW.TrodAll enc Try.prog W 0 (fun _ => true) true Try.f3.params.toList args.toList ds p := hA0
  rw [Try.params3] at hA hval
  obtain ⟨v0, vs0, d0, ds0, p0, q0, hargs, rfl, rfl, h0, r0⟩ := trodAll_cons hA
  obtain ⟨v1, vs1, d1, ds1, p1, q1, rfl, rfl, rfl, h1, r1⟩ := trodAll_cons r0
  obtain ⟨v2, vs2, d2, ds2, p2, q2, rfl, rfl, rfl, h2, r2⟩ := trodAll_cons r1
  obtain ⟨v3, vs3, d3, ds3, p3, q3, rfl, rfl, rfl, h3, r3⟩ := trodAll_cons r2
  obtain ⟨rfl, rfl, rfl⟩ := trodAll_nil r3
  obtain rfl : args = #[v0, v1, v2, v3] := by cases args; simp_all
  obtain ⟨rfl, rfl⟩ := trodVars_none hV
  obtain ⟨a0, rfl, rfl, rfl, w0⟩ := open_string Try.underlying9 (hval 0 9 v0 rfl rfl) h0
  obtain ⟨a1, rfl, rfl, rfl, w1⟩ := open_string Try.underlying9 (hval 1 9 v1 rfl rfl) h1
  obtain ⟨A2, ss2, c2, rfl, hr2⟩ := open_strs_arg (hval 2 22 v2 rfl rfl) h2
  obtain ⟨a3, rfl, rfl, rfl, w3⟩ := open_int Try.underlying3 (hval 3 3 v3 rfl rfl) h3
  clear hA0 hval0
  refine (walk a0 a1 A2 c2 ss2 a3 W w0 w1 hr2 w3).mono fun e W' ⟨he, hg⟩ => ?_
  subst he
  exact ⟨_, rfl, law_post Try.laid (by kernel_rfl) (by kernel_rfl) Try.underlying4 rfl rfl hW' hg⟩

theorem over : Rows.hexaTellsRow.holds Try.pinned (OpenSpec.ofChange Rows.hexaTellsSpec) :=
  OpenClaim.holds_of_wide 3 Try.f3 rfl rfl rfl rfl rfl rfl rfl ⟨rfl, rfl, rfl, rfl, rfl⟩ rfl rfl rfl rfl rfl (by kernel_rfl) Try.func3 (by kernel_rfl)
    (of_decide_eq_true (by kernel_rfl)) (by unfold Func.isWrapper; first | (rw [if_pos (by decide +kernel)]; kernel_rfl) | (rw [if_neg (by decide +kernel)]; exact ⟨rfl, rfl⟩))
    (fun os started H enc _ => lifted os started H enc)
end Go.Proofs.Ytmblabonnioomaa.hexaTells

namespace Go.Proofs.Ytmblabonnioomaa
theorem hexaTells_holds : Rows.HexaTellsSaid := hexaTells.over
end Go.Proofs.Ytmblabonnioomaa
