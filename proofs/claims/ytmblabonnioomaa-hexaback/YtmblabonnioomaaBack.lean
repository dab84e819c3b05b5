/-
  Proved: for every a, b and s the law HexaBack returns true and leaves its arguments as they were (what is told in digits is read, what is read is told, and digits go byte by byte).
  Conditions: none beside the row's own.
-/
import Derived.Test.YtmblabonnioomaaP
namespace Go.Proofs.Ytmblabonnioomaa.hexaBack
open Go.ChangeShapes Go.WideShapes Go.ChangeAt Go.RowKit
open Go.ChangeMaps (open_string)
set_option linter.unusedVariables false

theorem bytes_digits (t : ByteArray) (w : World) (ht : t.size ≤ 4000) : Calls Try.prog 10 #[.string (str (M.digs (bl t)))] w fun e w' => e = .returned (.tuple #[.string t, .int .i64 0]) ∧ Below w.heap.size w w' := by
  have h := Bytes_any (str (M.digs (bl t))) w (by rw [str_size, M.digs_length, bl_length]; omega)
  rwa [bl_str, M.unb, M.unc, M.undig_digs, Option.getD_some, str_bl, Option.isSome_some, if_pos rfl] at h
theorem cat (a b : ByteArray) : ((str (M.digs (bl (a ++ b)))).toList == (str (M.digs (bl a)) ++ str (M.digs (bl b))).toList) = true := by
  rw [toList_bl, toList_bl, bl_append, bl_str, bl_append, bl_str, bl_str, M.digs_append]; simp

theorem bytes_bad (s : ByteArray) (w : World) (hs : s.size ≤ 2000) (h : M.undig (bl s) = none) : Calls Try.prog 10 #[.string s] w fun e w' => e = .returned (.tuple #[.string { data := #[] }, .int .i64 3]) ∧ Below w.heap.size w w' := by
  have h' := Bytes_any s w (by omega)
  rwa [M.unb, M.unc, h] at h'
theorem bytes_good (s : ByteArray) (w : World) (hs : s.size ≤ 2000) (l : List UInt8) (h : M.undig (bl s) = some l) : Calls Try.prog 10 #[.string s] w fun e w' => e = .returned (.tuple #[.string (str l), .int .i64 0]) ∧ Below w.heap.size w w' := by
  have h' := Bytes_any s w (by omega)
  rwa [M.unb, M.unc, h] at h'
theorem digits_back (s : ByteArray) (w : World) (hs : s.size ≤ 2000) (l : List UInt8) (h : M.undig (bl s) = some l) : Calls Try.prog 14 #[.string (str l)] w fun e w' => e = .returned (.string s) ∧ Below w.heap.size w w' := by
  have hd := M.digs_undig _ _ h
  have hlen := congrArg List.length hd
  rw [M.digs_length, bl_length] at hlen
  have h' := Digits_any (str l) w (by rw [str_size]; omega)
  rwa [bl_str, hd, str_bl] at h'

set_option maxHeartbeats 400000 in
theorem walk_bad (a b s : ByteArray) (w : World) (ha : a.size ≤ 2000) (hb : b.size ≤ 2000) (hs : s.size ≤ 2000) (hn : Hid (M.undig (bl s) = none)) :
    Calls Try.prog 4 #[.string a, .string b, .string s] w fun e w' => e = .returned (.bool true) ∧ Below w.heap.size w w' := by
  have hcat := cat a b
  have hda : (str (M.digs (bl a))).size ≤ 4000 := by rw [str_size, M.digs_length, bl_length]; omega
  have hdb : (str (M.digs (bl b))).size ≤ 4000 := by rw [str_size, M.digs_length, bl_length]; omega
  have hsz : (a ++ b).size = a.size + b.size := ByteArray.size_append
  have HZ := Lib.hid hsz
  clear hsz
  have da : decide (2000 < (a.size : Int)) = false := by simp; omega
  have db : decide (2000 < (b.size : Int)) = false := by simp; omega
  have ds : decide (2000 < (s.size : Int)) = false := by simp; omega
  go_enter Try.func4, Try.ntmps4
  go_wp2_with fail
  refine (awake_any _).mono ?_
  rintro e w1 ⟨rfl, hb1⟩
  go_wp2_with fail
  refine (Digits_any _ _ (by have := HZ.out; omega)).mono ?_
  rintro e w2 ⟨rfl, hb2⟩
  go_wp2_with fail
  refine (bytes_digits _ _ (by have := HZ.out; omega)).mono ?_
  rintro e w3 ⟨rfl, hb3⟩
  have hb4 := (hb1.trans (hb2.mono hb1.size)).trans (hb3.mono (Nat.le_trans hb1.size hb2.size))
  clear hb1 hb2 hb3
  go_wp2_with fail
  refine (bytes_bad _ _ hs hn.out).mono ?_
  rintro e w4 ⟨rfl, hb5⟩
  have hb6 := hb4.trans (hb5.mono hb4.size)
  clear hb4 hb5
  go_wp2_with fail
  refine (Digits_any _ _ (by have := HZ.out; omega)).mono ?_
  rintro e w5 ⟨rfl, hb7⟩
  have hb8 := hb6.trans (hb7.mono hb6.size)
  clear hb6 hb7
  go_wp2_with fail
  refine (Digits_any _ _ (by omega)).mono ?_
  rintro e w6 ⟨rfl, hb9⟩
  have hb10 := hb8.trans (hb9.mono hb8.size)
  clear hb8 hb9
  go_wp2_with fail
  refine (Digits_any _ _ (by omega)).mono ?_
  rintro e w7 ⟨rfl, hb11⟩
  have hb12 := hb10.trans (hb11.mono hb10.size)
  clear hb10 hb11
  go_wp2
  go_ret
  exact ⟨rfl, hb12⟩

set_option maxHeartbeats 400000 in
theorem walk_good (a b s : ByteArray) (l : List UInt8) (w : World) (ha : a.size ≤ 2000) (hb : b.size ≤ 2000) (hs : s.size ≤ 2000) (hn : Hid (M.undig (bl s) = some l)) :
    Calls Try.prog 4 #[.string a, .string b, .string s] w fun e w' => e = .returned (.bool true) ∧ Below w.heap.size w w' := by
  have hcat := cat a b
  have hda : (str (M.digs (bl a))).size ≤ 4000 := by rw [str_size, M.digs_length, bl_length]; omega
  have hdb : (str (M.digs (bl b))).size ≤ 4000 := by rw [str_size, M.digs_length, bl_length]; omega
  have hsz : (a ++ b).size = a.size + b.size := ByteArray.size_append
  have HZ := Lib.hid hsz
  clear hsz
  have da : decide (2000 < (a.size : Int)) = false := by simp; omega
  have db : decide (2000 < (b.size : Int)) = false := by simp; omega
  have ds : decide (2000 < (s.size : Int)) = false := by simp; omega
  go_enter Try.func4, Try.ntmps4
  go_wp2_with fail
  refine (awake_any _).mono ?_
  rintro e w1 ⟨rfl, hb1⟩
  go_wp2_with fail
  refine (Digits_any _ _ (by have := HZ.out; omega)).mono ?_
  rintro e w2 ⟨rfl, hb2⟩
  go_wp2_with fail
  refine (bytes_digits _ _ (by have := HZ.out; omega)).mono ?_
  rintro e w3 ⟨rfl, hb3⟩
  have hb4 := (hb1.trans (hb2.mono hb1.size)).trans (hb3.mono (Nat.le_trans hb1.size hb2.size))
  clear hb1 hb2 hb3
  go_wp2_with fail
  refine (bytes_good _ _ hs l hn.out).mono ?_
  rintro e w4 ⟨rfl, hb5⟩
  have hb6 := hb4.trans (hb5.mono hb4.size)
  clear hb4 hb5
  go_wp2_with fail
  refine (Digits_any _ _ (by have := HZ.out; omega)).mono ?_
  rintro e w5 ⟨rfl, hb7⟩
  have hb8 := hb6.trans (hb7.mono hb6.size)
  clear hb6 hb7
  go_wp2_with fail
  refine (Digits_any _ _ (by omega)).mono ?_
  rintro e w6 ⟨rfl, hb9⟩
  have hb10 := hb8.trans (hb9.mono hb8.size)
  clear hb8 hb9
  go_wp2_with fail
  refine (Digits_any _ _ (by omega)).mono ?_
  rintro e w7 ⟨rfl, hb11⟩
  have hb12 := hb10.trans (hb11.mono hb10.size)
  clear hb10 hb11
  go_wp2_with fail
  refine (digits_back s _ hs l hn.out).mono ?_
  rintro e w8 ⟨rfl, hb13⟩
  have hb14 := hb12.trans (hb13.mono hb12.size)
  clear hb12 hb13
  go_wp2
  go_ret
  exact ⟨rfl, hb14⟩

theorem walk (a0 a1 a2 : ByteArray) (w0 : a0.size ≤ maxLen) (w1 : a1.size ≤ maxLen) (w2 : a2.size ≤ maxLen) (w : World) :
    Calls Try.prog 4 #[.string a0, .string a1, .string a2] w fun e w' => e = .returned (.bool true) ∧ Below w.heap.size w w' := by
  by_cases h : a0.size ≤ 2000 ∧ a1.size ≤ 2000 ∧ a2.size ≤ 2000
  · obtain ⟨h0, h1, h2⟩ := h
    cases hu : M.undig (bl a2) with
    | none => exact walk_bad a0 a1 a2 w h0 h1 h2 hu
    | some l => exact walk_good a0 a1 a2 l w h0 h1 h2 hu
  · clear w0 w1 w2
    go_enter Try.func4, Try.ntmps4
    go_wp2_with fail
    refine (awake_any _).mono ?_
    rintro e w1 ⟨rfl, hb1⟩
    go_wp2
    all_goals go_ret
    all_goals exact ⟨rfl, hb1⟩

theorem own : ownKnob Try.prog.godebug = none := by kernel_rfl

set_option maxRecDepth 100000 in
theorem lifted (os : Os) (started : os.Started) (H : Type) (enc : TypeId × Value → H) :
    ReturnsInHanded {} Try.checked os 4 .any (Rows.hexaBackSpec.pre6 enc Try.prog Try.f4 Rows.hexaBackRow.domain false) (Rows.hexaBackSpec.post enc Try.prog Try.f4 false true false false) := by
  refine returnsInHanded_of_change (C := Try.checked) own started (by kernel_rfl) Try.func4
    (ChangeSpec.witness6 (enc := enc) (C := Try.checked) false ⟨#[], #[.string ByteArray.empty, .string ByteArray.empty, .string ByteArray.empty], []⟩ 8 (by kernel_rfl) (by kernel_rfl) (by kernel_rfl) (by kernel_rfl)) ?_
  intro W base args ds gs before hval0 hW hcnd _
  have hval : ∀ (j : Nat) t v, Try.f4.params[j]? = some t → args[j]? = some v → Value.okWide Try.prog W .any base t v := hval0
  have hW' := hW
  obtain ⟨p, q, hA0, hV, rfl, hfz, hnd⟩ := hW
  have hA : DataW.TrodAll enc Try.prog W 0 (fun _ => true) true Try.f4.params.toList args.toList ds p := hA0
  rw [Try.params4] at hA hval
  obtain ⟨v0, vs0, d0, ds0, p0, q0, hargs, rfl, rfl, h0, r0⟩ := trodAll_cons hA
  obtain ⟨v1, vs1, d1, ds1, p1, q1, rfl, rfl, rfl, h1, r1⟩ := trodAll_cons r0
  obtain ⟨v2, vs2, d2, ds2, p2, q2, rfl, rfl, rfl, h2, r2⟩ := trodAll_cons r1
  obtain ⟨rfl, rfl, rfl⟩ := trodAll_nil r2
  obtain rfl : args = #[v0, v1, v2] := by cases args; simp_all
  obtain ⟨rfl, rfl⟩ := trodVars_none hV
  obtain ⟨a0, rfl, rfl, rfl, w0⟩ := open_string Try.underlying9 (hval 0 9 v0 rfl rfl) h0
  obtain ⟨a1, rfl, rfl, rfl, w1⟩ := open_string Try.underlying9 (hval 1 9 v1 rfl rfl) h1
  obtain ⟨a2, rfl, rfl, rfl, w2⟩ := open_string Try.underlying9 (hval 2 9 v2 rfl rfl) h2
  clear hA0 hval0
  refine (walk a0 a1 a2 w0 w1 w2 W).mono fun e W' ⟨he, hg⟩ => ?_
  subst he
  exact ⟨_, rfl, law_post Try.laid (by kernel_rfl) (by kernel_rfl) Try.underlying4 rfl rfl hW' hg⟩

theorem over : Rows.hexaBackRow.holds Try.pinned (OpenSpec.ofChange Rows.hexaBackSpec) :=
  OpenClaim.holds_of_wide 4 Try.f4 rfl rfl rfl rfl rfl rfl rfl ⟨rfl, rfl, rfl, rfl, rfl⟩ rfl rfl rfl rfl rfl (by kernel_rfl) Try.func4 (by kernel_rfl)
    (of_decide_eq_true (by kernel_rfl)) (by unfold Func.isWrapper; first | (rw [if_pos (by decide +kernel)]; kernel_rfl) | (rw [if_neg (by decide +kernel)]; exact ⟨rfl, rfl⟩))
    (fun os started H enc _ => lifted os started H enc)
end Go.Proofs.Ytmblabonnioomaa.hexaBack

namespace Go.Proofs.Ytmblabonnioomaa
theorem hexaBack_holds : Rows.HexaBackSaid := hexaBack.over
end Go.Proofs.Ytmblabonnioomaa
