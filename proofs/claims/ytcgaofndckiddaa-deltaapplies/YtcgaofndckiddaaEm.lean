/-
  Layer 9: the statement's awake.
-/
import Derived.Test.YtcgaofndckiddaaEl
namespace Go.Proofs.Ytcgaofndckiddaa.He
open Go.RowKit Hg Hw
set_option linter.unusedVariables false

set_option maxHeartbeats 4000000 in
set_option maxRecDepth 100000 in
theorem awake_any (w : World) : Calls Try.prog 4 #[] w fun r w' => r = .returned (.bool true) ∧ Below w.heap.size w w' := by
  have H1 := Lib.hid (fun w1 : World => apply_any ⟨#[97, 98]⟩ ⟨#[0, 0, 0, 2, 0, 0, 0, 4, 1, 0, 0, 0, 0, 0, 0, 0, 2, 2, 0, 0, 0, 2, 120, 121]⟩ 9 w1 (by decide) (by decide) (by omega))
  have H2 := Lib.hid (fun w1 : World => apply_any ⟨#[97]⟩ ⟨#[0, 0, 0, 2, 0, 0, 0, 0]⟩ 9 w1 (by decide) (by decide) (by omega))
  have H3 := Lib.hid (fun w1 : World => make_short w1 ⟨#[104, 101, 108, 108, 111]⟩ ⟨#[104, 97, 108, 108, 111]⟩ (by decide) (by decide) (by decide))
  have H4 := Lib.hid (fun w1 : World => apply_any ⟨#[104, 101, 108, 108, 111]⟩ (str (Df.whollyF (bl ⟨#[104, 101, 108, 108, 111]⟩) (bl ⟨#[104, 97, 108, 108, 111]⟩))) 9 w1 (by decide) (by decide) (by omega))
  have a1 : ans (Df.applyF (bl ⟨#[97, 98]⟩) (bl ⟨#[0, 0, 0, 2, 0, 0, 0, 4, 1, 0, 0, 0, 0, 0, 0, 0, 2, 2, 0, 0, 0, 2, 120, 121]⟩) (9 : Int).toNat) = .tuple #[.string ⟨#[97, 98, 120, 121]⟩, .int .i64 0] := by kernel_rfl
  have a2 : ans (Df.applyF (bl ⟨#[97]⟩) (bl ⟨#[0, 0, 0, 2, 0, 0, 0, 0]⟩) (9 : Int).toNat) = .tuple #[.string ⟨#[]⟩, .int .i64 13] := by kernel_rfl
  have a4 : ans (Df.applyF (bl ⟨#[104, 101, 108, 108, 111]⟩) (bl (str (Df.whollyF (bl ⟨#[104, 101, 108, 108, 111]⟩) (bl ⟨#[104, 97, 108, 108, 111]⟩)))) (9 : Int).toNat) = .tuple #[.string ⟨#[104, 97, 108, 108, 111]⟩, .int .i64 0] := by kernel_rfl
  rw [a1] at H1
  rw [a2] at H2
  rw [a4] at H4
  clear a1 a2 a4
  generalize str (Df.whollyF (bl ⟨#[104, 101, 108, 108, 111]⟩) (bl ⟨#[104, 97, 108, 108, 111]⟩)) = D at *
  go_enter Try.func4, Try.ntmps4
  go_wp2_with fail
  refine (H1.out _).mono ?_
  rintro r w1 ⟨rfl, hb1⟩
  go_wp2_with fail
  refine (H2.out _).mono ?_
  rintro r w2 ⟨rfl, hb2⟩
  go_wp2_with fail
  refine (H3.out _).mono ?_
  rintro r w3 ⟨rfl, hb3⟩
  go_wp2_with fail
  refine (H4.out _).mono ?_
  rintro r w4 ⟨rfl, hb4⟩
  have HB := Lib.hid (((hb1.trans (hb2.mono hb1.size)).trans (hb3.mono (Nat.le_trans hb1.size hb2.size))).trans (hb4.mono (Nat.le_trans (Nat.le_trans hb1.size hb2.size) hb3.size)))
  clear hb1 hb2 hb3 hb4 H1 H2 H3 H4
  go_wp2
  go_ret
  exact ⟨rfl, HB.out⟩
end Go.Proofs.Ytcgaofndckiddaa.He
