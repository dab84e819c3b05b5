/-
  Contracts of the document's own answers for layer 1: digit, value, Size, Space, Short, Digits, Begins, Bytes.
-/
import Derived.Test.YtanmhpcfklageaaDoorP
import Derived.Maps.AppendAt
import Derived.OwnWalk
import Derived.Deep.RegionHeld3
import Derived.Deep.AppendLies
namespace Go.Proofs.YtanmhpcfklageaaDoor
open Go.RowKit
set_option linter.unusedVariables false

theorem rdigit_any (x : Int) (w : World) (h0 : 0 ≤ x) (h1 : x < 16) :
    Calls Tryd.prog 21 #[.int .u8 x] w fun e w' => e = .returned (.int .u8 (M.hexc x.toNat).toNat) ∧ w = w' := by
  have hv := M.hexc_toNat (n := x.toNat) (by omega)
  have HV := Lib.hid hv
  clear hv
  by_cases h : x < 10
  · go_enter Tryd.func21, Tryd.ntmps21
    go_wp2
    go_ret
    exact ⟨ret_int (by rw [HV.out, if_pos (by omega)]; omega), rfl⟩
  · go_enter Tryd.func21, Tryd.ntmps21
    go_wp2
    go_ret
    exact ⟨ret_int (by rw [HV.out, if_neg (by omega)]; omega), rfl⟩

/-- a digit's worth; 16: it is none -/
def valI (c : UInt8) : Int := if M.worthB c = true then (M.worthV c : Int) else 16
theorem valI_at {c : UInt8} {k : Nat} (hk : k < 16) (h : M.hexc k = c) : valI c = k := by
  subst h
  rw [valI, if_pos (M.worthB_hexc hk), M.worthV_hexc hk]
theorem valI_no {c : UInt8} (h : ∀ j, j < 16 → M.hexc j ≠ c) : valI c = 16 := by
  rw [valI, if_neg]
  intro hb
  exact h _ (M.worthV_lt c) (M.hexc_worthV hb)

theorem valI_yes {c : UInt8} (h : M.worthB c = true) : valI c = M.worthV c := by rw [valI, if_pos h]
theorem valI_none {c : UInt8} (h : M.worthB c = false) : valI c = 16 := by rw [valI, if_neg (by simp [h])]

end Go.Proofs.YtanmhpcfklageaaDoor