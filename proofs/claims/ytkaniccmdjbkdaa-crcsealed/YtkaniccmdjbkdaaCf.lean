/-
  The contract of the statements' own awake (law 4).
-/
import Derived.Test.YtkaniccmdjbkdaaCe
namespace Go.Proofs.Ytkaniccmdjbkdaa.Hc
open Go.RowKit Hs
set_option linter.unusedVariables false

theorem sum_const : tn (Cr.sum [49, 50, 51, 52, 53, 54, 55, 56, 57]) = 3421780262 := by kernel_rfl
theorem more_const : tn (Cr.more 0 (bl ⟨#[49, 50, 51, 52, 53, 54, 55, 56, 57]⟩)) = 3421780262 := sum_const
theorem sealed_size (s : ByteArray) : (str (Cr.sealed (bl s))).size = s.size + 4 := by rw [str_size, Cr.sealed_length, bl_length]
/-- what was sealed is opened -/
theorem open_sealed (s : ByteArray) (w : World) (hs : s.size ≤ 50000) : Calls Try.prog 6 #[.string (str (Cr.sealed (bl s)))] w fun e w' => e = .returned (.tuple #[.string s, .int .i64 0]) ∧ Below w.heap.size w w' := by
  have h := open_any (str (Cr.sealed (bl s))) w (by rw [sealed_size]; omega)
  rw [bl_str, Cr.openT_sealed, Cr.openC_sealed, str_bl] at h
  exact h
theorem open_abc (w : World) : Calls Try.prog 6 #[.string ⟨#[97, 98, 99]⟩] w fun e w' => e = .returned (.tuple #[.string ⟨#[]⟩, .int .i64 2]) ∧ Below w.heap.size w w' := open_any ⟨#[97, 98, 99]⟩ w (by show 3 ≤ _; omega)
theorem sum_const2 (w : World) : Calls Try.prog 8 #[.slice (some ⟨w.heap.size, 0, none⟩) 2 2] (w.alloc (.cells #[.string ⟨#[49, 50, 51, 52]⟩, .string ⟨#[53, 54, 55, 56, 57]⟩] 9)) fun e w' => e = .returned (.int .u32 3421780262) ∧ Below w.heap.size w w' := by
  have h := sum_two w ⟨#[49, 50, 51, 52]⟩ ⟨#[53, 54, 55, 56, 57]⟩ (by show 4 ≤ _; omega) (by show 5 ≤ _; omega)
  have e : bl ⟨#[49, 50, 51, 52]⟩ ++ bl ⟨#[53, 54, 55, 56, 57]⟩ = [49, 50, 51, 52, 53, 54, 55, 56, 57] := rfl
  rw [e, sum_const] at h
  exact h
theorem more_const2 (w : World) : Calls Try.prog 10 #[.int .u32 0, .string ⟨#[49, 50, 51, 52, 53, 54, 55, 56, 57]⟩] w fun e w' => e = .returned (.int .u32 3421780262) ∧ Below w.heap.size w w' := by
  have h := more_any 0 ⟨#[49, 50, 51, 52, 53, 54, 55, 56, 57]⟩ w (by show 9 ≤ _; omega)
  rw [more_const] at h
  exact h

set_option maxHeartbeats 1000000 in
set_option maxRecDepth 100000 in
theorem awake_any (w : World) : Calls Try.prog 5 #[] w fun e w' => e = .returned (.bool true) ∧ Below w.heap.size w w' := by
  have HS := Lib.hid (fun W => seal_any ⟨#[104, 105]⟩ W (by show 2 ≤ _; omega))
  have HO := Lib.hid (fun W => open_sealed ⟨#[104, 105]⟩ W (by show 2 ≤ _; omega))
  generalize str (Cr.sealed (bl ⟨#[104, 105]⟩)) = H at *
  go_enter Try.func5, Try.ntmps5
  go_wp2_with fail
  refine (HS.out _).mono ?_
  rintro e w1 ⟨rfl, hb1⟩
  go_wp2_with fail
  refine (HO.out _).mono ?_
  rintro e w2 ⟨rfl, hb2⟩
  have hb02 := hb1.trans (hb2.mono hb1.size)
  clear hb1 hb2 HS HO
  go_wp2_with fail
  refine (open_abc _).mono ?_
  rintro e w3 ⟨rfl, hb3⟩
  have hb03 := hb02.trans (hb3.mono hb02.size)
  clear hb02 hb3
  go_wp2_with fail
  refine (sum_const2 _).mono ?_
  rintro e w4 ⟨rfl, hb4⟩
  have hb04 := hb03.trans (hb4.mono hb03.size)
  clear hb03 hb4
  go_wp2_with fail
  refine (more_const2 _).mono ?_
  rintro e w5 ⟨rfl, hb5⟩
  have hb05 := hb04.trans (hb5.mono hb04.size)
  clear hb04 hb5
  go_wp2
  go_ret
  exact ⟨rfl, hb05⟩
end Go.Proofs.Ytkaniccmdjbkdaa.Hc
