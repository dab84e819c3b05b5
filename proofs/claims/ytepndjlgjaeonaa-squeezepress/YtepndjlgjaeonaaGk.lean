/-
  A key of four bytes: what it reads as (layer 8).
-/
import Derived.Test.YtepndjlgjaeonaaGb
import Derived.Maps.OwnSet
import Derived.DeepKeys4
namespace Go.Proofs.Ytepndjlgjaeonaa.Hg
open Go.RowKit
set_option linter.unusedVariables false

theorem Try.keyed52 : Maps.Keyed Try.prog 52 := Maps.Keyed.of_law (deep_law_laid Try.laid (m := 5) (by omega) (of_decide_eq_true (by kernel_rfl)) (by kernel_rfl) (by kernel_rfl))

def bv (c : UInt8) : Value := .int .u8 c.toNat
theorem lits_u8 (c : UInt8) : Try.prog.keyLits 75 5 [bv c] = some [.int .u8 c.toNat] := by
  have hw : (Lit.int .u8 (c.toNat : Int)).wf = true := by
    have := c.toNat_lt
    simp [Lit.wf, IntKind.min, IntKind.max, IntKind.signed, IntKind.bits]
    omega
  unfold Program.keyLits bv
  rw [Try.underlying5]
  simp only [hw, and_self, if_true]
theorem key_byte (c : UInt8) : (Lit.int .u8 (c.toNat : Int)).keyBytes = [c] := by
  have := c.toNat_lt
  have e : ((c.toNat : Int) % 2 ^ IntKind.u8.bits).toNat = c.toNat := by simp [IntKind.bits]; omega
  show bytesBE (IntKind.u8.bits / 8) ((c.toNat : Int) % 2 ^ IntKind.u8.bits).toNat = [c]
  rw [e]
  simp [bytesBE, bytesLE, IntKind.bits, Nat.mod_eq_of_lt this]
theorem key_of (a b c d : UInt8) : keyOf Try.prog 52 (.agg #[bv a, bv b, bv c, bv d]) = some (.string [a, b, c, d]) := by
  have h1 : Try.prog.keyType 52 = true := by kernel_rfl
  have h2 : Value.formed Try.prog 52 (.agg #[bv a, bv b, bv c, bv d]) = true := by kernel_rfl
  have hsz : Try.prog.types.size + 1 = 76 := by kernel_rfl
  have hc : Try.prog.cellsOf 52 = 4 := by kernel_rfl
  have hc5 : Try.prog.cellsOf 5 = 1 := by kernel_rfl
  have h3 : Try.prog.keyLits 76 52 [bv a, bv b, bv c, bv d] = some [.int .u8 a.toNat, .int .u8 b.toNat, .int .u8 c.toNat, .int .u8 d.toNat] := by
    unfold Program.keyLits
    rw [Try.underlying52]
    simp only [hc, hc5, List.length_cons, List.length_nil, if_true]
    simp [List.range_succ, lits_u8]
  unfold keyOf
  rw [Try.underlying52]
  simp only [h1, h2, Bool.and_true, if_true, hsz]
  show (Try.prog.keyLits 76 52 [bv a, bv b, bv c, bv d]).map _ = _
  rw [h3]
  simp [keyBytes, key_byte]
end Go.Proofs.Ytepndjlgjaeonaa.Hg
