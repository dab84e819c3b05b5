/-
  Contracts of the document's own answers for layer 1: digit, value, Size, Space, Short, Digits, Begins, Bytes.
-/
import Derived.Test.YtpffolohkmokhaaP
import Derived.Maps.AppendAt
import Derived.OwnWalk
import Derived.Deep.RegionHeld3
import Derived.Deep.AppendLies
namespace Go.Proofs.Ytpffolohkmokhaa
open Go.RowKit
set_option linter.unusedVariables false

/-- a digit's worth; 16: it is none -/
def valI (c : UInt8) : Int := if M.worthB c = true then (M.worthV c : Int) else 16
theorem valI_at {c : UInt8} {k : Nat} (hk : k < 16) (h : M.hexc k = c) : valI c = k := by
  subst h
  rw [valI, if_pos (M.worthB_hexc hk), M.worthV_hexc hk]
theorem valI_no {c : UInt8} (h : ∀ j, j < 16 → M.hexc j ≠ c) : valI c = 16 := by
  rw [valI, if_neg]
  intro hb
  exact h _ (M.worthV_lt c) (M.hexc_worthV hb)

theorem valI_yes {c : UInt8} (h : M.worthB c = true) : valI c = M.worthV c := by rw [valI, if_pos h]
theorem valI_none {c : UInt8} (h : M.worthB c = false) : valI c = 16 := by rw [valI, if_neg (by simp [h])]

end Go.Proofs.Ytpffolohkmokhaa