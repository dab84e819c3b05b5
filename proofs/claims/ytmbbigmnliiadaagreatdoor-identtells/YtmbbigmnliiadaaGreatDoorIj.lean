/-
  Layer 10: names are made of any bytes of their space's length (IdentMakes), by what the program's ident is to answer.
-/
import Derived.Test.YtmbbigmnliiadaaGreatDoorIh
import Derived.Test.YtmbbigmnliiadaaGreatDoorK1
namespace Go.Proofs.YtmbbigmnliiadaaGreatDoor.Hi
open Go.RowKit Hg Hs Hd
set_option linter.unusedVariables false

/-- three names, in blocks of their own -/
structure Trio (w W : World) (g1 g2 g3 t1 t2 t3 : Nat) (a b c : ByteArray) : Prop where
  a : NmAt W g1 t1 a
  b : NmAt W g2 t2 b
  c : NmAt W g3 t3 c
  below : Below w.heap.size w W
theorem Trio.step {w W W' : World} {g1 g2 g3 t1 t2 t3 : Nat} {a b c : ByteArray} (h : Trio w W g1 g2 g3 t1 t2 t3 a b c) (hb : Below W.heap.size W W') : Trio w W' g1 g2 g3 t1 t2 t3 a b c :=
  ⟨h.a.step hb, h.b.step hb, h.c.step hb, h.below.trans (hb.mono h.below.size)⟩
/-- the name that is made of bytes, and the error -/
def mkS (k : Nat) (b : ByteArray) : ByteArray := if b.size = k then b else ⟨#[]⟩
def mkE (k : Nat) (b : ByteArray) : Int := if b.size = k then 0 else 3
theorem mk_val (k : Nat) (b : ByteArray) : (if b.size = k then Value.tuple #[.agg #[.string b], .int .i64 0] else .tuple #[.agg #[.string ⟨#[]⟩], .int .i64 3]) = .tuple #[.agg #[.string (mkS k b)], .int .i64 (mkE k b)] := by
  unfold mkS mkE
  split <;> rfl
theorem mk_yes {k : Nat} {b : ByteArray} (h : b.size = k) : mkS k b = b ∧ mkE k b = 0 := ⟨if_pos h, if_pos h⟩
theorem mk_no {k : Nat} {b : ByteArray} (h : ¬ b.size = k) : mkS k b = ⟨#[]⟩ ∧ mkE k b = 3 := ⟨if_neg h, if_neg h⟩
end Go.Proofs.YtmbbigmnliiadaaGreatDoor.Hi
