/-
  No cell of these rows narrows 'for every input' (looked for: loops, veiled, ifaces, maps, wideKeys, modest, calm, conditions, laid).
  DERIVED. THE GIVEN ROWS OF THIS SEAT. 5 by the template 'for every input the law returns true; each argument reads behind the call as it read before'; 0 by the template 'total and deterministic' (their statements: YtmblabonnioomaaTotals.lean).
  GIVEN WITH THE SEED: the statements are not yours to turn. If you find one false, say at which input.
  Laid BY PROGRAM, IN A SANDBOX (cutbox-rows.mjs): the forced cells as the released guide's own fill.sh prints them over the translation c8d627eb394876fc… (all of the seat's roots in one cut). By AI agents, Wed Nov 11 2026. No macro, syntax, notation, axiom, sorry.
-/
import Derived.Test.YtmblabonnioomaaChecked
import GoSem.Claim
import GoSem.ClaimJoined
import GoSem.ClaimMapViews
import Derived.JoinedTies
import Derived.KernelRfl
namespace Go.Proofs.Ytmblabonnioomaa
/- THE CELL 'sum', in the pinned program and in every row, IS THE sha256 OF THE DUMP (.gsa) THAT YtmblabonnioomaaProg.lean LOADS. Nothing in Lean hashes anything: it is a label: what it is worth is what the hold of that sum in a sandbox is worth. -/
noncomputable def Try.pinned : Pinned := { name := "ytmblabonnioomaa", sum := "c8d627eb394876fc899431a8d86b3cc25b7ff1af5beba938a5571487f6353d3b", checked := Try.checked }
namespace Rows
def none {H : Type} : Left H := { results := [], args := [] }

/-- 'diptychlaw01.HexaTells': WHATEVER THE INPUT: true; the input reads as it did. -/
def hexaTellsSpec : ChangeSpec := { name := "hexaTells", fn := fun _ => fun
  | [d1, d2, d3, d4] => { results := [.lit (.bool true)], args := [d1, d2, d3, d4] }
  | _ => none }
def hexaTellsRow : OpenClaim := { program := "ytmblabonnioomaa", sum := "c8d627eb394876fc899431a8d86b3cc25b7ff1af5beba938a5571487f6353d3b", func := "diptych/diptychlaw01.HexaTells", spec := "hexaTells", apart := false }
def HexaTellsSaid : Prop := hexaTellsRow.holds Try.pinned (OpenSpec.ofChange hexaTellsSpec)

/-- ITS FALSE NEIGHBOUR: 'it returns false'. Refute it at one input. -/
def hexaTellsWrong : ChangeSpec := { name := "hexaTells", fn := fun _ => fun
  | [d1, d2, d3, d4] => { results := [.lit (.bool false)], args := [d1, d2, d3, d4] }
  | _ => none }
def HexaTellsWrongFalsely : Prop := hexaTellsRow.holds Try.pinned (OpenSpec.ofChange hexaTellsWrong)

/-- 'diptychlaw01.HexaBack': WHATEVER THE INPUT: true; the input reads as it did. -/
def hexaBackSpec : ChangeSpec := { name := "hexaBack", fn := fun _ => fun
  | [d1, d2, d3] => { results := [.lit (.bool true)], args := [d1, d2, d3] }
  | _ => none }
def hexaBackRow : OpenClaim := { program := "ytmblabonnioomaa", sum := "c8d627eb394876fc899431a8d86b3cc25b7ff1af5beba938a5571487f6353d3b", func := "diptych/diptychlaw01.HexaBack", spec := "hexaBack", apart := false }
def HexaBackSaid : Prop := hexaBackRow.holds Try.pinned (OpenSpec.ofChange hexaBackSpec)

/-- ITS FALSE NEIGHBOUR: 'it returns false'. Refute it at one input. -/
def hexaBackWrong : ChangeSpec := { name := "hexaBack", fn := fun _ => fun
  | [d1, d2, d3] => { results := [.lit (.bool false)], args := [d1, d2, d3] }
  | _ => none }
def HexaBackWrongFalsely : Prop := hexaBackRow.holds Try.pinned (OpenSpec.ofChange hexaBackWrong)

/-- 'diptychlaw01.HexaFinds': WHATEVER THE INPUT: true; the input reads as it did. -/
def hexaFindsSpec : ChangeSpec := { name := "hexaFinds", fn := fun _ => fun
  | [d1, d2] => { results := [.lit (.bool true)], args := [d1, d2] }
  | _ => none }
def hexaFindsRow : OpenClaim := { program := "ytmblabonnioomaa", sum := "c8d627eb394876fc899431a8d86b3cc25b7ff1af5beba938a5571487f6353d3b", func := "diptych/diptychlaw01.HexaFinds", spec := "hexaFinds", apart := false }
def HexaFindsSaid : Prop := hexaFindsRow.holds Try.pinned (OpenSpec.ofChange hexaFindsSpec)

/-- ITS FALSE NEIGHBOUR: 'it returns false'. Refute it at one input. -/
def hexaFindsWrong : ChangeSpec := { name := "hexaFinds", fn := fun _ => fun
  | [d1, d2] => { results := [.lit (.bool false)], args := [d1, d2] }
  | _ => none }
def HexaFindsWrongFalsely : Prop := hexaFindsRow.holds Try.pinned (OpenSpec.ofChange hexaFindsWrong)

/-- 'diptychlaw01.HexaOrder': WHATEVER THE INPUT: true; the input reads as it did. -/
def hexaOrderSpec : ChangeSpec := { name := "hexaOrder", fn := fun _ => fun
  | [d1, d2, d3, d4] => { results := [.lit (.bool true)], args := [d1, d2, d3, d4] }
  | _ => none }
def hexaOrderRow : OpenClaim := { program := "ytmblabonnioomaa", sum := "c8d627eb394876fc899431a8d86b3cc25b7ff1af5beba938a5571487f6353d3b", func := "diptych/diptychlaw01.HexaOrder", spec := "hexaOrder", apart := false }
def HexaOrderSaid : Prop := hexaOrderRow.holds Try.pinned (OpenSpec.ofChange hexaOrderSpec)

/-- ITS FALSE NEIGHBOUR: 'it returns false'. Refute it at one input. -/
def hexaOrderWrong : ChangeSpec := { name := "hexaOrder", fn := fun _ => fun
  | [d1, d2, d3, d4] => { results := [.lit (.bool false)], args := [d1, d2, d3, d4] }
  | _ => none }
def HexaOrderWrongFalsely : Prop := hexaOrderRow.holds Try.pinned (OpenSpec.ofChange hexaOrderWrong)

/-- 'diptychlaw01.HexaOne': WHATEVER THE INPUT: true; the input reads as it did. -/
def hexaOneSpec : ChangeSpec := { name := "hexaOne", fn := fun _ => fun
  | [d1, d2] => { results := [.lit (.bool true)], args := [d1, d2] }
  | _ => none }
def hexaOneRow : OpenClaim := { program := "ytmblabonnioomaa", sum := "c8d627eb394876fc899431a8d86b3cc25b7ff1af5beba938a5571487f6353d3b", func := "diptych/diptychlaw01.HexaOne", spec := "hexaOne", apart := false }
def HexaOneSaid : Prop := hexaOneRow.holds Try.pinned (OpenSpec.ofChange hexaOneSpec)

/-- ITS FALSE NEIGHBOUR: 'it returns false'. Refute it at one input. -/
def hexaOneWrong : ChangeSpec := { name := "hexaOne", fn := fun _ => fun
  | [d1, d2] => { results := [.lit (.bool false)], args := [d1, d2] }
  | _ => none }
def HexaOneWrongFalsely : Prop := hexaOneRow.holds Try.pinned (OpenSpec.ofChange hexaOneWrong)

/- THE SECOND FORM. 'bulk': how many values and letters a reading holds, each counted each time it is reached (what is shared counts as often as it is met; a slice's spare places count too). A statement '..UptoSaid' is the law's where the arguments, and the package variables that the reading takes, are together of bulk at most 1048576: NARROWER than '..Said'. Prove '..Said' where nothing that the law and all that it calls make is longer than what came in: it says more and counts as full. Else prove '..UptoSaid'. A law counts once. -/
mutual
def uptoBulk {H : Type} : DataW H → Nat
  | .lit (.string bytes) => bytes.length + 1
  | .lit _ => 1
  | .nil => 1
  | .ptr d => uptoBulk d + 1
  | .slice elems spare => uptoBulkAll elems + uptoBulkAll spare + 1
  | .agg parts => uptoBulkAll parts + 1
  | .iface _ d => uptoBulk d + 1
  | .map entries => uptoBulkEntries entries + 1
  | .held _ => 1
def uptoBulkAll {H : Type} : List (DataW H) → Nat
  | [] => 0
  | d :: r => uptoBulk d + uptoBulkAll r
def uptoBulkEntries {H : Type} : List (Lit × DataW H) → Nat
  | [] => 0
  | x :: r => uptoBulkEntry x + uptoBulkEntries r
def uptoBulkEntry {H : Type} : Lit × DataW H → Nat
  | (.string bytes, d) => bytes.length + uptoBulk d + 1
  | (_, d) => uptoBulk d + 1
 end
def uptoSmall : (H : Type) → List (DataW H) → Bool := fun _ ds => decide (uptoBulkAll ds ≤ 1048576)
def OpenSpec.upto (s : _root_.Go.ChangeSpec) : _root_.Go.OpenSpec := { _root_.Go.OpenSpec.ofChange s with cond := some uptoSmall }

/-- 'diptychlaw01.HexaTells', WHERE WHAT IT READS IS OF BULK AT MOST 1048576: true; the input reads as it did. -/
def hexaTellsUptoRow : OpenClaim := { program := "ytmblabonnioomaa", sum := "c8d627eb394876fc899431a8d86b3cc25b7ff1af5beba938a5571487f6353d3b", func := "diptych/diptychlaw01.HexaTells", spec := "hexaTells", apart := false, narrowed := true }
def HexaTellsUptoSaid : Prop := hexaTellsUptoRow.holds Try.pinned (OpenSpec.upto hexaTellsSpec)

/-- 'diptychlaw01.HexaBack', WHERE WHAT IT READS IS OF BULK AT MOST 1048576: true; the input reads as it did. -/
def hexaBackUptoRow : OpenClaim := { program := "ytmblabonnioomaa", sum := "c8d627eb394876fc899431a8d86b3cc25b7ff1af5beba938a5571487f6353d3b", func := "diptych/diptychlaw01.HexaBack", spec := "hexaBack", apart := false, narrowed := true }
def HexaBackUptoSaid : Prop := hexaBackUptoRow.holds Try.pinned (OpenSpec.upto hexaBackSpec)

/-- 'diptychlaw01.HexaFinds', WHERE WHAT IT READS IS OF BULK AT MOST 1048576: true; the input reads as it did. -/
def hexaFindsUptoRow : OpenClaim := { program := "ytmblabonnioomaa", sum := "c8d627eb394876fc899431a8d86b3cc25b7ff1af5beba938a5571487f6353d3b", func := "diptych/diptychlaw01.HexaFinds", spec := "hexaFinds", apart := false, narrowed := true }
def HexaFindsUptoSaid : Prop := hexaFindsUptoRow.holds Try.pinned (OpenSpec.upto hexaFindsSpec)

/-- 'diptychlaw01.HexaOrder', WHERE WHAT IT READS IS OF BULK AT MOST 1048576: true; the input reads as it did. -/
def hexaOrderUptoRow : OpenClaim := { program := "ytmblabonnioomaa", sum := "c8d627eb394876fc899431a8d86b3cc25b7ff1af5beba938a5571487f6353d3b", func := "diptych/diptychlaw01.HexaOrder", spec := "hexaOrder", apart := false, narrowed := true }
def HexaOrderUptoSaid : Prop := hexaOrderUptoRow.holds Try.pinned (OpenSpec.upto hexaOrderSpec)

/-- 'diptychlaw01.HexaOne', WHERE WHAT IT READS IS OF BULK AT MOST 1048576: true; the input reads as it did. -/
def hexaOneUptoRow : OpenClaim := { program := "ytmblabonnioomaa", sum := "c8d627eb394876fc899431a8d86b3cc25b7ff1af5beba938a5571487f6353d3b", func := "diptych/diptychlaw01.HexaOne", spec := "hexaOne", apart := false, narrowed := true }
def HexaOneUptoSaid : Prop := hexaOneUptoRow.holds Try.pinned (OpenSpec.upto hexaOneSpec)

end Rows
end Go.Proofs.Ytmblabonnioomaa
