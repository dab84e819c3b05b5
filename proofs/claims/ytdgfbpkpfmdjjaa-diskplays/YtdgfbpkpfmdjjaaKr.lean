/-
  awake (layer 7).
-/
import Derived.Test.YtdgfbpkpfmdjjaaKq
namespace Go.Proofs.Ytdgfbpkpfmdjjaa.Hk
open Go.RowKit Hr Hw Ht
set_option linter.unusedVariables false

abbrev bA : ByteArray := ⟨#[97]⟩
abbrev bB : ByteArray := ⟨#[98]⟩
abbrev bX : ByteArray := ⟨#[120]⟩
abbrev bY : ByteArray := ⟨#[121]⟩
abbrev bZ : ByteArray := ⟨#[122]⟩
abbrev bQ : ByteArray := ⟨#[113]⟩
abbrev bO : ByteArray := ⟨#[]⟩
def aw1 : Dsk := ⟨100, [], [(1, bA, bX)], false, 0, 0, 0⟩
def aw2 : Dsk := ⟨100, [(bA, bX)], [], false, 0, 0, 0⟩
def aw3 : Dsk := ⟨100, [(bA, bX)], [(1, bA, bY)], false, 0, 0, 0⟩
def aw4 : Dsk := ⟨100, [(bA, bX)], [(1, bA, bY)], false, 1, 0, 1⟩
def aw5 : Dsk := ⟨100, [(bA, bX)], [], true, 1, 0, 0⟩
def aw6 : Dsk := ⟨100, [(bA, bX)], [], false, 1, 0, 0⟩
theorem e1 : doF (newD 100) (1, bA, bX) = (aw1, 0) := by kernel_rfl
theorem e2 : syncF aw1 = (aw2, 0) := by kernel_rfl
theorem e3 : doF aw2 (1, bA, bY) = (aw3, 0) := by kernel_rfl
theorem e4 : armF aw3 1 0 = aw4 := by kernel_rfl
theorem e5 : doF aw4 (2, bA, bB) = (aw5, 8) := by kernel_rfl
theorem e6 : listD aw6 bO = [bA] := by kernel_rfl
theorem e7 : doF aw6 (1, bO, bZ) = (aw6, 12) := by kernel_rfl
theorem e8 : doF aw6 (3, bQ, bO) = (aw6, 5) := by kernel_rfl
theorem e9 : texOf (findF (seenF aw6.lies aw6.rows) bA) = bX ∧ (findF (seenF aw6.lies aw6.rows) bA).isSome = true ∧ takenF (seenF aw6.lies aw6.rows) = 2 := ⟨by kernel_rfl, by kernel_rfl, by kernel_rfl⟩
theorem fit_of {d : Dsk} (h : (decide (d.lies.length + d.rows.length ≤ 1900) && decide (takenF d.lies + wts d.rows ≤ 500000000) && decide (0 ≤ d.left) && decide (d.left ≤ 9223372036854775807)) = true) : Fit d := by
  simp only [Bool.and_eq_true, decide_eq_true_eq] at h
  exact ⟨h.1.1.1, h.1.1.2, h.1.2, h.2⟩
theorem fit0 (room : Int) : Fit (newD room) := fit_of (by kernel_rfl)
theorem wt_of {e : Ef} (h : decide (wt e ≤ 1000000) = true) : wt e ≤ 1000000 := of_decide_eq_true h
theorem sz_of {p : ByteArray} (h : decide (p.size ≤ 255) = true) : p.size ≤ maxLen := by have := of_decide_eq_true h; unfold maxLen; omega

set_option maxHeartbeats 4000000 in
set_option maxRecDepth 100000 in
theorem awake_any (w : World) : Calls Try.prog 8 #[] w fun r w' => r = .returned (.bool true) ∧ Below w.heap.size w w' := by
  have HC := Lib.hid (h_new (holds_start w) emp_part 100 (by omega) (by omega))
  go_enter Try.func8, Try.ntmps8
  go_wp2_with fail
  refine HC.out.mono ?_
  rintro r w2 ⟨b, rfl, h2⟩
  have H2 := Lib.hid h2
  clear h2 HC
  go_wp2_with fail
  refine (new_bad w2 (-1) (by omega)).mono ?_
  rintro r w2 ⟨rfl, rfl⟩
  have H3 := Lib.hid (show Calls _ _ _ _ (fun r w' => r = Ending.returned (.int .i64 0) ∧ Holds w (Star (Dk b aw1) Emp) w') from by have h9 := h_write H2.out emp_part (fit0 100) bA bX (wt_of (by kernel_rfl)); rw [e1] at h9; exact h9)
  go_wp2_with fail
  refine H3.out.mono ?_
  clear H2 H3
  rintro r w3 ⟨rfl, h3⟩
  have H4 := Lib.hid (show Calls _ _ _ _ (fun r w' => r = Ending.returned (.int .i64 0) ∧ Holds w (Star (Dk b aw2) Emp) w') from by have h9 := h_sync h3 emp_part (fit_of (by kernel_rfl)); rw [e2] at h9; exact h9)
  clear h3
  go_wp2_with fail
  refine H4.out.mono ?_
  clear H4
  rintro r w4 ⟨rfl, h4⟩
  have H5 := Lib.hid (show Calls _ _ _ _ (fun r w' => r = Ending.returned (.int .i64 0) ∧ Holds w (Star (Dk b aw3) Emp) w') from by have h9 := h_write h4 emp_part (fit_of (by kernel_rfl)) bA bY (wt_of (by kernel_rfl)); rw [e3] at h9; exact h9)
  clear h4
  go_wp2_with fail
  refine H5.out.mono ?_
  clear H5
  rintro r w5 ⟨rfl, h5⟩
  have H6 := Lib.hid (show Calls _ _ _ _ (fun r w' => r = Ending.returned (.tuple #[]) ∧ Holds w (Star (Dk b aw4) Emp) w') from by have h9 := h_arm h5 emp_part 1 0 (by omega) (by omega); rw [e4] at h9; exact h9)
  clear h5
  go_wp2_with fail
  refine H6.out.mono ?_
  clear H6
  rintro r w6 ⟨rfl, h6⟩
  have H7 := Lib.hid (show Calls _ _ _ _ (fun r w' => r = Ending.returned (.int .i64 8) ∧ Holds w (Star (Dk b aw5) Emp) w') from by have h9 := h_rename h6 emp_part (fit_of (by kernel_rfl)) bA bB (wt_of (by kernel_rfl)); rw [e5] at h9; exact h9)
  clear h6
  go_wp2_with fail
  refine H7.out.mono ?_
  clear H7
  rintro r w7 ⟨rfl, h7⟩
  have H8 := Lib.hid (show Calls _ _ _ _ (fun r w' => r = Ending.returned (.tuple #[.string ByteArray.empty, .int .i64 8]) ∧ Holds w (Star (Dk b aw5) Emp) w') from h_read h7 emp_part bA (sz_of (by kernel_rfl)))
  clear h7
  go_wp2_with fail
  refine H8.out.mono ?_
  clear H8
  rintro r w8 ⟨rfl, h8⟩
  have H9 := Lib.hid (show Calls _ _ _ _ (fun r w' => r = Ending.returned (.tuple #[]) ∧ Holds w (Star (Dk b aw6) Emp) w') from h_start h8 emp_part)
  clear h8
  go_wp2_with fail
  refine H9.out.mono ?_
  clear H9
  rintro r w9 ⟨rfl, h9⟩
  have H10 := Lib.hid (show Calls _ _ _ _ (fun r w' => r = Ending.returned (.tuple #[.string bX, .int .i64 0]) ∧ Holds w (Star (Dk b aw6) Emp) w') from by have h8 := h_read h9 emp_part bA (sz_of (by kernel_rfl)); rw [e9.1, e9.2.1] at h8; exact h8)
  clear h9
  go_wp2_with fail
  refine H10.out.mono ?_
  clear H10
  rintro r w10 ⟨rfl, h10⟩
  have H11 := Lib.hid (show Calls _ _ _ _ (fun r w' => r = Ending.returned (.int .i64 2) ∧ w' = w10) from by have h8 := h_taken h10 emp_part; rw [e9.2.2] at h8; exact h8)
  have H10 := Lib.hid h10
  clear h10
  go_wp2_with fail
  refine H11.out.mono ?_
  clear H11
  rintro r w10 ⟨rfl, rfl⟩
  have H12 := Lib.hid (show Calls _ _ _ _ (fun r w' => ∃ A c, r = Ending.returned (.slice A 1 c) ∧ Holds w (Star (Rs (.slice A 1 c) [bA]) (Star (Dk b aw6) Emp)) w') from by have h8 := h_list H10.out emp_part (fit_of (by kernel_rfl)) bO (sz_of (by kernel_rfl)); rw [e6] at h8; exact h8)
  clear H10
  go_wp2_with fail
  refine H12.out.mono ?_
  clear H12
  rintro r w11 ⟨A, c, rfl, h11⟩
  have H13 := Lib.hid (show Calls _ _ _ _ (fun r w' => r = Ending.returned (.int .i64 12) ∧ Holds w (Star (Dk b aw6) Emp) w') from by have h8 := h_write h11.tail emp_part (fit_of (by kernel_rfl)) bO bZ (wt_of (by kernel_rfl)); rw [e7] at h8; exact h8)
  clear h11
  go_wp2_with fail
  refine H13.out.mono ?_
  clear H13
  rintro r w12 ⟨rfl, h12⟩
  have H14 := Lib.hid (show Calls _ _ _ _ (fun r w' => r = Ending.returned (.int .i64 5) ∧ Holds w (Star (Dk b aw6) Emp) w') from by have h8 := h_remove h12 emp_part (fit_of (by kernel_rfl)) bQ bO (wt_of (by kernel_rfl)); rw [e8] at h8; exact h8)
  clear h12
  go_wp2_with fail
  refine H14.out.mono ?_
  clear H14
  rintro r w13 ⟨rfl, h13⟩
  have H13 := Lib.hid h13.top
  clear h13
  go_wp2
  go_ret
  exact ⟨rfl, H13.out⟩
end Go.Proofs.Ytdgfbpkpfmdjjaa.Hk
