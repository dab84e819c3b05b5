/-
  Layer 5 as Lean functions: a vector's row and difference; a block's sibling, and whether a block is marked. No part of the program is named here.
-/
import Derived.Test.YtmbbigmnliiadaaDoorH1
namespace Go.Proofs.YtmbbigmnliiadaaDoor.Hd
open Go.Proofs.YtmbbigmnliiadaaDoor.Hs

/-! ### turns and exclusive or -/
theorem sl (x : UInt32) (n : Nat) (h : n < 32) : (x <<< UInt32.ofNat n).toBitVec = x.toBitVec <<< n := by
  have e : ((UInt32.ofNat n).toBitVec % 32).toNat = n := by simp [BitVec.toNat_umod]; omega
  rw [UInt32.toBitVec_shiftLeft, BitVec.shiftLeft_eq', e]
theorem sr (x : UInt32) (n : Nat) (h : n < 32) : (x >>> UInt32.ofNat n).toBitVec = x.toBitVec >>> n := by
  have e : ((UInt32.ofNat n).toBitVec % 32).toNat = n := by simp [BitVec.toNat_umod]; omega
  rw [UInt32.toBitVec_shiftRight, BitVec.ushiftRight_eq', e]
theorem rot_xor (x y : UInt32) (n : Nat) (h0 : 0 < n) (h : n < 32) : Sh.rot (x ^^^ y) n = Sh.rot x n ^^^ Sh.rot y n := by
  apply UInt32.toBitVec_inj.1
  unfold Sh.rot
  rw [UInt32.toBitVec_xor, UInt32.toBitVec_or, UInt32.toBitVec_or, UInt32.toBitVec_or, sl _ _ h, sl _ _ h, sl _ _ h, sr _ _ (by omega), sr _ _ (by omega), sr _ _ (by omega), UInt32.toBitVec_xor]
  apply BitVec.eq_of_getLsbD_eq
  intro i hi
  simp only [BitVec.getLsbD_or, BitVec.getLsbD_xor, BitVec.getLsbD_shiftLeft, BitVec.getLsbD_ushiftRight]
  by_cases hlt : i < n
  · simp [hlt]
  · have e1 : x.toBitVec.getLsbD (32 - n + i) = false := BitVec.getLsbD_of_ge _ _ (by omega)
    have e2 : y.toBitVec.getLsbD (32 - n + i) = false := BitVec.getLsbD_of_ge _ _ (by omega)
    simp [hlt, e1, e2, hi]

/-! ### rows -/
namespace Dv
def setAt (f : Nat → UInt32) (i : Nat) (v : UInt32) : Nat → UInt32 := fun j => if j = i then v else f j
/-- a row's set words: its word i stands at i + 5 -/
def start (ty K B : Nat) : Nat → UInt32 := fun j =>
  if j = K + 20 then (1 : UInt32) <<< UInt32.ofNat B else if ty = 2 ∧ (j = K + 8 ∨ j = K + 6) then (1 : UInt32) <<< UInt32.ofNat ((31 + B) % 32) else 0
def fwd (f : Nat → UInt32) (i : Nat) : Nat → Nat → UInt32
  | 0 => f
  | n + 1 => setAt (fwd f i n) (i + n) (Sh.rot (fwd f i n (i + n - 3) ^^^ fwd f i n (i + n - 8) ^^^ fwd f i n (i + n - 14) ^^^ fwd f i n (i + n - 16)) 1)
def bwd (f : Nat → UInt32) : Nat → Nat → Nat → UInt32
  | _, 0 => f
  | i, n + 1 => setAt (bwd f i n) (i - n) (Sh.rot (bwd f i n (i - n + 16)) 31 ^^^ bwd f i n (i - n + 13) ^^^ bwd f i n (i - n + 8) ^^^ bwd f i n (i - n + 2))
def row (ty K B : Nat) : Nat → UInt32 := bwd (fwd (start ty K B) (K + 21) (64 - K)) (K + 4) (K + 5)
def diffAt (f : Nat → UInt32) (t : Nat) : UInt32 := f (t + 5) ^^^ Sh.rot (f (t + 4)) 5 ^^^ f (t + 3) ^^^ Sh.rot (f (t + 2) ^^^ f (t + 1) ^^^ f t) 30
def diffs (f : Nat → UInt32) : List UInt32 := (List.range 80).map (diffAt f)
/-- may a vector's numbers be such? -/
def ok (ty K B : Int) : Prop := (ty = 1 ∨ ty = 2) ∧ 0 ≤ K ∧ K ≤ 64 ∧ 0 ≤ B ∧ B ≤ 31
instance (ty K B : Int) : Decidable (ok ty K B) := by unfold ok; infer_instance
/-- a vector's difference -/
def diff (ty K B : Int) : List UInt32 := if ok ty K B then diffs (row ty.toNat K.toNat B.toNat) else []
/-- the vectors: type and K; B is 0 -/
def vecs : List (Nat × Nat) := [(1, 43), (1, 44), (1, 45), (1, 46), (1, 47), (1, 48), (1, 49), (1, 50), (1, 51), (2, 45), (2, 46), (2, 47), (2, 48), (2, 49), (2, 50), (2, 51), (2, 52), (2, 53), (2, 54), (2, 55), (2, 56)]
def vdiff (k : Nat) : List UInt32 := diff (vecs.getD k (0, 0)).1 (vecs.getD k (0, 0)).2 0

/-! ### siblings -/
/-- n steps ahead, from the step a on -/
def fore (W : List UInt32) (x : Sh.Ch) (a : Nat) : Nat → Sh.Ch
  | 0 => x
  | n + 1 => Sh.step (fore W x a n) (a + n) (W.getD (a + n) 0)
/-- n steps back, from the step a on -/
def rear (W : List UInt32) (x : Sh.Ch) (a : Nat) : Nat → Sh.Ch
  | 0 => x
  | n + 1 => Sh.back (rear W x a n) (a - 1 - n) (W.getD (a - 1 - n) 0)
def sib (W M : List UInt32) : List UInt32 := (List.range 80).map fun j => W.getD j 0 ^^^ M.getD j 0
def same (x y : Sh.Ch) : Bool := x.a == y.a && x.b == y.b && x.c == y.c && x.d == y.d && x.e == y.e
/-- does the sibling end at E? -/
def hit (W : List UInt32) (S E : Sh.Ch) (M : List UInt32) : Bool := same (Sh.add (fore (sib W M) S 58 22) (rear (sib W M) S 58 58)) E
def marked (c : Sh.Ch) (l : List UInt8) (M : List UInt32) : Bool := hit (Sh.words l) (fore (Sh.words l) c 0 58) (Sh.press c l) M
/-- is one of the first k blocks marked by one of the vectors? -/
def blockHit (c : Sh.Ch) (l : List UInt8) (n : Nat) : Bool := (List.range n).any fun i => marked c l (vdiff i)
def scanTo (f : List UInt8) : Nat → Bool
  | 0 => false
  | k + 1 => scanTo f k || blockHit (Sh.chain f k) ((f.drop (64 * k)).take 64) 21
def scan (l : List UInt8) : Bool := scanTo (Sh.fill l) ((Sh.fill l).length / 64)
end Dv
end Go.Proofs.YtmbbigmnliiadaaDoor.Hd
