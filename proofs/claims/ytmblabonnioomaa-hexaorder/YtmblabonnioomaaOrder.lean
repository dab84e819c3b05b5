/-
  Proved: for every a, b, s and cut the law HexaOrder returns true and leaves its arguments as they were (names stand in the order of their digits; a beginning of a beginning begins, too; a name has twice as many digits as bytes).
  Conditions: none beside the row's own.
-/
import Derived.Test.YtmblabonnioomaaP
namespace Go.Proofs.Ytmblabonnioomaa.hexaOrder
open Go.ChangeShapes Go.WideShapes Go.ChangeAt Go.RowKit
open Go.ChangeMaps (open_string)
set_option linter.unusedVariables false

theorem lts (a b : ByteArray) : Op.bytesLess (str (M.digs (bl a))).toList (str (M.digs (bl b))).toList = Op.bytesLess a.toList b.toList := by
  rw [bytesLess_eq, bytesLess_eq, toList_bl, toList_bl, toList_bl, toList_bl, bl_str, bl_str, Bool.eq_iff_iff]
  simp only [decide_eq_true_eq]
  exact M.digs_lt _ _

/-- all is small: the law's last line -/
theorem walk_small (a b s : ByteArray) (c : Nat) (w : World) (ha : a.size ≤ 1000) (hb : b.size ≤ 1000) (hs : s.size ≤ 1000) (hc : c ≤ s.size) :
    Calls Try.prog 6 #[.string a, .string b, .string s, .int .i64 c] w fun e w' => e = .returned (.bool true) ∧ Below w.heap.size w w' := by
  go_enter Try.func6, Try.ntmps6
  go_wp2_with fail
  refine (awake_any _).mono ?_
  rintro e w1 ⟨rfl, hb1⟩
  go_wp2_with fail
  refine (Digits_any _ _ (by omega)).mono ?_
  rintro e w2 ⟨rfl, hb2⟩
  go_wp2_with fail
  refine (Digits_any _ _ (by omega)).mono ?_
  rintro e w3 ⟨rfl, hb3⟩
  have hlt := lts a b
  have hb4 := (hb1.trans (hb2.mono hb1.size)).trans (hb3.mono (Nat.le_trans hb1.size hb2.size))
  clear hb1 hb2 hb3
  have hsz : (str (M.digs (bl a))).size = 2 * a.size := by rw [str_size, M.digs_length, bl_length]
  cases hbg : M.begB (bl a) (bl s)
  · go_wp2_with fail
    refine (Begins_any _ _ _ (by omega) (by omega)).mono ?_
    rintro e w4 ⟨rfl, hd4⟩
    have hb5 := hb4.trans (hd4.below _)
    clear hb4 hd4
    go_wp2_with fail
    refine (Digits_any _ _ (by omega)).mono ?_
    rintro e w5 ⟨rfl, hb6⟩
    have hb7 := hb5.trans (hb6.mono hb5.size)
    clear hb5 hb6
    go_wp2
    go_ret
    exact ⟨rfl, hb7⟩
  · go_wp2_with fail
    refine (Begins_any _ _ _ (by omega) (by omega)).mono ?_
    rintro e w4 ⟨rfl, hd4⟩
    have hb5 := hb4.trans (hd4.below _)
    clear hb4 hd4
    have hbt : M.begB (bl a) (bl (s.extract 0 c)) = true := by rw [bl_take]; exact M.begB_take _ hbg
    go_wp2_with fail
    refine (Begins_any _ _ _ (by omega) (by have := take_size s c; omega)).mono ?_
    rintro e w5 ⟨rfl, hd5⟩
    have hb6 := hb5.trans (hd5.below _)
    clear hb5 hd5
    go_wp2_with fail
    refine (Digits_any _ _ (by omega)).mono ?_
    rintro e w6 ⟨rfl, hb7⟩
    have hb8 := hb6.trans (hb7.mono hb6.size)
    clear hb6 hb7
    go_wp2
    go_ret
    exact ⟨rfl, hb8⟩

theorem walk (a0 : ByteArray) (a1 : ByteArray) (a2 : ByteArray) (a3 : Int) (w0 : a0.size ≤ maxLen) (w1 : a1.size ≤ maxLen) (w2 : a2.size ≤ maxLen) (w3 : (Lit.int .i64 a3).wf = true) (w : World) :
    Calls Try.prog 6 #[.string a0, .string a1, .string a2, .int .i64 a3] w fun e w' => e = .returned (.bool true) ∧ Below w.heap.size w w' := by
  by_cases h : a0.size ≤ 1000 ∧ a1.size ≤ 1000 ∧ a2.size ≤ 1000 ∧ 0 ≤ a3 ∧ a3 ≤ a2.size
  · obtain ⟨h0, h1, h2, h3, h4⟩ := h
    obtain ⟨c, rfl⟩ := Int.eq_ofNat_of_zero_le h3
    exact walk_small a0 a1 a2 c w h0 h1 h2 (by omega)
  · clear w0 w1 w2 w3
    go_enter Try.func6, Try.ntmps6
    go_wp2_with fail
    refine (awake_any _).mono ?_
    rintro e w1 ⟨rfl, hb1⟩
    go_wp2
    all_goals go_ret
    all_goals exact ⟨rfl, hb1⟩

theorem own : ownKnob Try.prog.godebug = none := by kernel_rfl

set_option maxRecDepth 100000 in
theorem lifted (os : Os) (started : os.Started) (H : Type) (enc : TypeId × Value → H) :
    ReturnsInHanded {} Try.checked os 6 .any (Rows.hexaOrderSpec.pre6 enc Try.prog Try.f6 Rows.hexaOrderRow.domain false) (Rows.hexaOrderSpec.post enc Try.prog Try.f6 false true false false) := by
  refine returnsInHanded_of_change (C := Try.checked) own started (by kernel_rfl) Try.func6
    (ChangeSpec.witness6 (enc := enc) (C := Try.checked) false ⟨#[], #[.string ByteArray.empty, .string ByteArray.empty, .string ByteArray.empty, .int .i64 0], []⟩ 8 (by kernel_rfl) (by kernel_rfl) (by kernel_rfl) (by kernel_rfl)) ?_
  intro W base args ds gs before hval0 hW hcnd _
  have hval : ∀ (j : Nat) t v, Try.f6.params[j]? = some t → args[j]? = some v → Value.okWide Try.prog W .any base t v := hval0
  have hW' := hW
  obtain ⟨p, q, hA0, hV, rfl, hfz, hnd⟩ := hW
  have hA : DataW.TrodAll enc Try.prog W 0 (fun _ => true) true Try.f6.params.toList args.toList ds p := hA0
  rw [Try.params6] at hA hval
  obtain ⟨v0, vs0, d0, ds0, p0, q0, hargs, rfl, rfl, h0, r0⟩ := trodAll_cons hA
  obtain ⟨v1, vs1, d1, ds1, p1, q1, rfl, rfl, rfl, h1, r1⟩ := trodAll_cons r0
  obtain ⟨v2, vs2, d2, ds2, p2, q2, rfl, rfl, rfl, h2, r2⟩ := trodAll_cons r1
  obtain ⟨v3, vs3, d3, ds3, p3, q3, rfl, rfl, rfl, h3, r3⟩ := trodAll_cons r2
  obtain ⟨rfl, rfl, rfl⟩ := trodAll_nil r3
  obtain rfl : args = #[v0, v1, v2, v3] := by cases args; simp_all
  obtain ⟨rfl, rfl⟩ := trodVars_none hV
  obtain ⟨a0, rfl, rfl, rfl, w0⟩ := open_string Try.underlying9 (hval 0 9 v0 rfl rfl) h0
  obtain ⟨a1, rfl, rfl, rfl, w1⟩ := open_string Try.underlying9 (hval 1 9 v1 rfl rfl) h1
  obtain ⟨a2, rfl, rfl, rfl, w2⟩ := open_string Try.underlying9 (hval 2 9 v2 rfl rfl) h2
  obtain ⟨a3, rfl, rfl, rfl, w3⟩ := open_int Try.underlying3 (hval 3 3 v3 rfl rfl) h3
  clear hA0 hval0
  refine (walk a0 a1 a2 a3 w0 w1 w2 w3 W).mono fun e W' ⟨he, hg⟩ => ?_
  subst he
  exact ⟨_, rfl, law_post Try.laid (by kernel_rfl) (by kernel_rfl) Try.underlying4 rfl rfl hW' hg⟩

theorem over : Rows.hexaOrderRow.holds Try.pinned (OpenSpec.ofChange Rows.hexaOrderSpec) :=
  OpenClaim.holds_of_wide 6 Try.f6 rfl rfl rfl rfl rfl rfl rfl ⟨rfl, rfl, rfl, rfl, rfl⟩ rfl rfl rfl rfl rfl (by kernel_rfl) Try.func6 (by kernel_rfl)
    (of_decide_eq_true (by kernel_rfl)) (by unfold Func.isWrapper; first | (rw [if_pos (by decide +kernel)]; kernel_rfl) | (rw [if_neg (by decide +kernel)]; exact ⟨rfl, rfl⟩))
    (fun os started H enc _ => lifted os started H enc)
end Go.Proofs.Ytmblabonnioomaa.hexaOrder

namespace Go.Proofs.Ytmblabonnioomaa
theorem hexaOrder_holds : Rows.HexaOrderSaid := hexaOrder.over
end Go.Proofs.Ytmblabonnioomaa
