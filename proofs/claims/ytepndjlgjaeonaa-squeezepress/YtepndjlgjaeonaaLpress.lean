/-
  Proved: SqueezePress returns true for every row of pieces and every text, and changes nothing that was there.
  Conditions: none beside the row's own.
-/
import Derived.Test.YtepndjlgjaeonaaGo
import Derived.Test.YtepndjlgjaeonaaP
namespace Go.Proofs.Ytepndjlgjaeonaa.squeezePress
open Go.ChangeShapes Go.WideShapes Go.ChangeAt Go.RowKit Hr Hw Hg
open Go.ChangeMaps (open_string)
set_option linter.unusedVariables false

set_option maxHeartbeats 4000000 in
set_option maxRecDepth 100000 in
theorem walk (A : Option Addr) (c : Nat) (l : List Pc) (s : ByteArray) (w : World) (h : Pcs w w.heap.size A l) (hz : ∀ a ∈ l, PcOk a) (hs : s.size ≤ maxLen) : Calls Try.prog 4 #[.slice A l.length c, .string s] w fun e w' => e = .returned (.bool true) ∧ Below w.heap.size w w' := by
  have HP := Lib.hid (And.intro h hz)
  clear h hz
  go_enter Try.func4, Try.ntmps4
  go_wp2_with fail
  refine (awake_any _).mono ?_
  rintro e1 w1 ⟨rfl, hb1⟩
  by_cases hl : l.length ≤ 50
  · have d1 : decide ((50 : Int) < l.length) = false := decide_eq_false (by omega)
    have h1 : ¬ (50 : Int) < l.length := by omega
    by_cases hsa : s.size ≤ 5000
    · have d2 : decide ((5000 : Int) < s.size) = false := decide_eq_false (by omega)
      have h2 : ¬ (5000 : Int) < s.size := by omega
      have HT := Lib.hid (text_any w1 w.heap.size A c l (HP.out.1.below hb1) hb1.size HP.out.2 hl)
      go_wp2_with fail
      refine HT.out.mono ?_
      rintro e w2 ⟨t, rfl, ht, hb2⟩
      have hb02 := hb1.trans (hb2.mono hb1.size)
      clear hb1 hb2 HT d1 d2
      obtain ⟨T, hT⟩ : ∃ T, t ++ s = T := ⟨_, rfl⟩
      have hTs : T.size ≤ 35000 := by rw [← hT, ByteArray.size_append]; omega
      have HR := Lib.hid (fun W => press_any W T (by omega))
      go_wp2_with fail
      refine (HR.out _).mono ?_
      rintro e w3 ⟨p, rfl, hp, hb3⟩
      have hb03 := hb02.trans (hb3.mono hb02.size)
      clear hb02 hb3 HR
      have hps : p.size ≤ T.size + 1 := hp.1
      have O1 := Lib.hid (fun W => show Calls Try.prog 7 #[.string p, .int .i64 T.size] W (fun e w' => e = .returned (.tuple #[.string T, .int .i64 0]) ∧ Below W.heap.size W w') from (open_any p (T.size : Int) W (by omega) (by omega)).mono fun r w' hr => ⟨by rw [hr.1, Int.toNat_natCast, pressed_open hp, if_pos (Nat.le_refl _)]; show Ending.returned (.tuple #[.string (str (bl T)), .int .i64 0]) = _; rw [str_bl], hr.2⟩)
      have O2 := Lib.hid (fun W => show Calls Try.prog 8 #[.string p, .int .i64 T.size] W (fun e w' => e = .returned (.tuple #[.string T, .int .i64 0]) ∧ Below W.heap.size W w') from (ropen_any p (T.size : Int) W (by omega)).mono fun r w' hr => ⟨by rw [hr.1, Int.toNat_natCast, pressed_open hp, if_pos (Nat.le_refl _)]; show Ending.returned (.tuple #[.string (str (bl T)), .int .i64 0]) = _; rw [str_bl], hr.2⟩)
      have O3 := Lib.hid (fun (W : World) (h9 : 0 < T.size) => show Calls Try.prog 7 #[.string p, .int .i64 ((T.size : Int) - 1)] W (fun e w' => e = .returned (.tuple #[.string ⟨#[]⟩, .int .i64 9]) ∧ Below W.heap.size W w') from (open_any p ((T.size : Int) - 1) W (by omega) (by omega)).mono fun r w' hr => ⟨by rw [hr.1, pressed_open hp, if_neg (by omega)]; rfl, hr.2⟩)
      have hTT := str_beq (rfl : T = T)
      have hw1 : IntKind.i64.wrap ((T.size : Int) - 1) = (T.size : Int) - 1 := IntWalk.i64_in _ (by omega)
      have hw2 : IntKind.i64.wrap ((T.size : Int) + 1) = (T.size : Int) + 1 := IntWalk.i64_in _ (by omega)
      have hle : (p.size : Int) ≤ (T.size : Int) + 1 := by omega
      have hled : decide ((p.size : Int) ≤ (T.size : Int) + 1) = true := decide_eq_true hle
      clear hp
      go_wp2_with fail
      refine (O1.out _).mono ?_
      rintro e w4 ⟨rfl, hb4⟩
      have hb04 := hb03.trans (hb4.mono hb03.size)
      clear hb03 hb4 O1
      go_wp2_with fail
      refine (O2.out _).mono ?_
      rintro e w5 ⟨rfl, hb5⟩
      have hb05 := hb04.trans (hb5.mono hb04.size)
      clear hb04 hb5 O2
      by_cases h9 : 0 < T.size
      · have h9i : (0 : Int) < T.size := by omega
        go_wp2_with fail
        refine (O3.out _ h9).mono ?_
        rintro e w6 ⟨rfl, hb6⟩
        have hb06 := hb05.trans (hb6.mono hb05.size)
        clear hb05 hb6 O3
        go_wp2
        go_ret
        exact ⟨rfl, hb06⟩
      · have h9i : ¬ (0 : Int) < T.size := by omega
        go_wp2
        go_ret
        exact ⟨rfl, hb05⟩
    · have d2 : decide ((5000 : Int) < s.size) = true := decide_eq_true (by omega)
      have h2 : (5000 : Int) < s.size := by omega
      go_wp2
      go_ret
      exact ⟨rfl, hb1⟩
  · have d1 : decide ((50 : Int) < l.length) = true := decide_eq_true (by omega)
    have h1 : (50 : Int) < l.length := by omega
    go_wp2
    go_ret
    exact ⟨rfl, hb1⟩

theorem own : ownKnob Try.prog.godebug = none := by kernel_rfl

set_option maxRecDepth 100000 in
theorem lifted (os : Os) (started : os.Started) (H : Type) (enc : TypeId × Value → H) :
    ReturnsInHanded {} Try.checked os 4 .any (Rows.squeezePressSpec.pre6 enc Try.prog Try.f4 Rows.squeezePressRow.domain false) (Rows.squeezePressSpec.post enc Try.prog Try.f4 false true false false) := by
  refine returnsInHanded_of_change_sized (C := Try.checked) own started (by kernel_rfl) Try.func4
    (ChangeSpec.witness6 (enc := enc) (C := Try.checked) false ⟨#[], #[.slice none 0 0, .string ByteArray.empty], []⟩ 8 (by kernel_rfl) (by kernel_rfl) (by kernel_rfl) (by kernel_rfl)) ?_
  intro W base args ds gs before hval0 hW hcnd hsz _
  have hval : ∀ (j : Nat) t v, Try.f4.params[j]? = some t → args[j]? = some v → Value.okWide Try.prog W .any base t v := hval0
  have hW' := hW
  obtain ⟨p, q, hA0, hV, rfl, hfz, hnd⟩ := hW
  have hA : DataW.TrodAll enc Try.prog W 0 (fun _ => true) true Try.f4.params.toList args.toList ds p := hA0
  rw [Try.params4] at hA hval hsz
  obtain ⟨v0, vs0, d0, ds0, p0, q0, hargs, rfl, rfl, h0, r0⟩ := trodAll_cons hA
  obtain ⟨v1, vs1, d1, ds1, p1, q1, rfl, rfl, rfl, h1, r1⟩ := trodAll_cons r0
  obtain ⟨rfl, rfl, rfl⟩ := trodAll_nil r1
  obtain rfl : args = #[v0, v1] := by cases args; simp_all
  obtain ⟨rfl, rfl⟩ := trodVars_none hV
  have hz0 : ∀ n ∈ d0.weights Try.prog 29, n ≤ reachBytes := fun n hn => of_decide_eq_true (List.all_eq_true.1 hsz n (DataW.weights_mem_each (j := 0) rfl rfl n hn))
  obtain ⟨A0, l0, c0, rfl, hr0, hw0⟩ := Hg.open_pieces (hval 0 29 v0 rfl rfl) h0 hz0
  obtain ⟨a1, rfl, rfl, rfl, w1⟩ := open_string Try.underlying9 (hval 1 9 v1 rfl rfl) h1
  clear hA0 hval0
  refine (walk A0 c0 l0 a1 W hr0 hw0 w1).mono fun e W' ⟨he, hg⟩ => ?_
  subst he
  exact ⟨_, rfl, law_post Try.laid (by kernel_rfl) (by kernel_rfl) Try.underlying4 rfl rfl hW' hg⟩

theorem over : Rows.squeezePressRow.holds Try.pinned (OpenSpec.ofChange Rows.squeezePressSpec) :=
  OpenClaim.holds_of_wide 4 Try.f4 rfl rfl rfl rfl rfl rfl rfl ⟨rfl, rfl, rfl, rfl, rfl⟩ rfl rfl rfl rfl rfl (by kernel_rfl) Try.func4 (by kernel_rfl)
    (of_decide_eq_true (by kernel_rfl)) (by unfold Func.isWrapper; first | (rw [if_pos (by decide +kernel)]; kernel_rfl) | (rw [if_neg (by decide +kernel)]; exact ⟨rfl, rfl⟩))
    (fun os started H enc _ => lifted os started H enc)
end Go.Proofs.Ytepndjlgjaeonaa.squeezePress

namespace Go.Proofs.Ytepndjlgjaeonaa
theorem squeezePress_holds : Rows.SqueezePressSaid := squeezePress.over
end Go.Proofs.Ytepndjlgjaeonaa
