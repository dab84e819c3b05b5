/-
  Contracts of the document's Rot, Mix and Step (layer 2): what a call returns, and that nothing that was there has changed.
-/
import Derived.Test.YtkaniccmdjbkdaaRows
import Derived.Test.YtkaniccmdjbkdaaShw
import Derived.WalkKit
import Derived.ProofKit
import Derived.Below
import Derived.Lib.Hide
import Derived.Deep.OwnRows
import Derived.Deep.LoopGhost
import Derived.Deep.QuietTactic
import Derived.BigQuiet
import Derived.Deep.RegionHeld3
import Derived.Laws.Rows
namespace Go.Proofs.Ytkaniccmdjbkdaa.Hs
open Go.RowKit
set_option linter.unusedVariables false
attribute [local go_sem] t_and t_or t_xor t_not t_add t_sub t_add_wrap t_sub_wrap

theorem k1 (x : UInt32) : (tn x + 1518500249) % 4294967296 = tn (x + 0x5a827999) := t_add x 0x5a827999
theorem k2 (x : UInt32) : (tn x + 1859775393) % 4294967296 = tn (x + 0x6ed9eba1) := t_add x 0x6ed9eba1
theorem k3 (x : UInt32) : (tn x + 2400959708) % 4294967296 = tn (x + 0x8f1bbcdc) := t_add x 0x8f1bbcdc
theorem k4 (x : UInt32) : (tn x + 3395469782) % 4294967296 = tn (x + 0xca62c1d6) := t_add x 0xca62c1d6

theorem ret_int {k : IntKind} {a b : Int} (h : a = b) : Ending.returned (.int k a) = .returned (.int k b) := by rw [h]

theorem quiet_left {P : Program} {f : FuncId} {args : Array Value} {w : World} {n : Nat} {v : Value}
    (h : Calls P f args (w.drewN n) fun e w' => e = .returned v ∧ w.drewN n = w') : Calls P f args (w.drewN n) fun e w'' => e = .returned v ∧ ∃ m, w'' = w.drewN m :=
  h.mono fun _ _ ⟨he, hm⟩ => ⟨he, n, hm.symm⟩

theorem below_drewN {B : Nat} {a w : World} (h : Below B a w) (n : Nat) : Below B a (w.drewN n) := ⟨h.os, h.tape, h.output, h.size, h.block⟩

/-- a word, a chain as cells -/
def U (x : UInt32) : Value := .int .u32 (tn x)
def cs (x : Sh.Ch) : Array Value := #[.int .u32 (tn x.a), .int .u32 (tn x.b), .int .u32 (tn x.c), .int .u32 (tn x.d), .int .u32 (tn x.e)]

end Go.Proofs.Ytkaniccmdjbkdaa.Hs