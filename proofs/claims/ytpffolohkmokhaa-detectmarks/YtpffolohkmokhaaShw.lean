/-
  Words of 32 bits: what the model's operations on them are; SHA-1 over them. No part of the program is named here.
-/
import Derived.WalkKit
import Derived.Laws.BitsAllLaws
import Derived.Laws.BitsLemmas
namespace Go.Proofs.Ytpffolohkmokhaa.Hs

theorem w_lt (x : UInt32) : x.toNat < 4294967296 := x.toNat_lt
theorem w_and (x y : UInt32) : bits .and .u32 (x.toNat : Int) (y.toNat : Int) = ((x &&& y).toNat : Int) := by rw [u32_and_nat _ _ (w_lt x) (w_lt y), UInt32.toNat_and]
theorem w_or (x y : UInt32) : bits .or .u32 (x.toNat : Int) (y.toNat : Int) = ((x ||| y).toNat : Int) := by rw [u32_or_nat _ _ (w_lt x) (w_lt y), UInt32.toNat_or]
theorem w_xor (x y : UInt32) : bits .xor .u32 (x.toNat : Int) (y.toNat : Int) = ((x ^^^ y).toNat : Int) := by rw [u32_xor_nat _ _ (w_lt x) (w_lt y), UInt32.toNat_xor]
theorem w_not (x : UInt32) : bits .xor .u32 IntKind.u32.max (x.toNat : Int) = ((~~~x).toNat : Int) := by
  have h : IntKind.u32.max = ((4294967295 : Nat) : Int) := by rfl
  have hx := w_lt x
  rw [h, u32_xor_nat _ _ (by omega) hx, UInt32.toNat_not]
  have e : (~~~x) = x ^^^ (4294967295 : UInt32) := by
    apply UInt32.toBitVec_inj.1
    have h2 : (4294967295 : UInt32).toBitVec = BitVec.allOnes 32 := by decide
    rw [UInt32.toBitVec_not, UInt32.toBitVec_xor, h2, BitVec.xor_allOnes]
  have e2 := congrArg UInt32.toNat e
  rw [UInt32.toNat_xor, UInt32.toNat_not] at e2
  rw [e2, Nat.xor_comm]
  rfl
theorem w_add (x y : UInt32) : ((x.toNat : Int) + (y.toNat : Int)) % 4294967296 = ((x + y).toNat : Int) := by rw [UInt32.toNat_add]; omega
theorem w_sub (x y : UInt32) : ((x.toNat : Int) - (y.toNat : Int)) % 4294967296 = ((x - y).toNat : Int) := by
  have hx := w_lt x
  have hy := w_lt y
  rw [UInt32.toNat_sub]; omega
theorem w_shl (x : UInt32) (n : Nat) (h : n < 32) : ((x.toNat : Int) * 2 ^ n) % 4294967296 = ((x <<< (UInt32.ofNat n)).toNat : Int) := by
  rw [UInt32.toNat_shiftLeft, UInt32.toNat_ofNat', Nat.mod_eq_of_lt (show n < 2 ^ 32 by omega), Nat.mod_eq_of_lt h, Nat.shiftLeft_eq]
  have : ((x.toNat * 2 ^ n : Nat) : Int) = (x.toNat : Int) * 2 ^ n := by simp
  rw [← this]
  omega
theorem w_shr (x : UInt32) (n : Nat) (h : n < 32) : (x.toNat : Int) / 2 ^ n = ((x >>> (UInt32.ofNat n)).toNat : Int) := by
  rw [UInt32.toNat_shiftRight, UInt32.toNat_ofNat', Nat.mod_eq_of_lt (show n < 2 ^ 32 by omega), Nat.mod_eq_of_lt h, Nat.shiftRight_eq_div_pow]
  have : (((2 : Nat) ^ n : Nat) : Int) = (2 : Int) ^ n := by simp
  rw [← this, ← Int.natCast_ediv]
theorem w_add_wrap (x y : UInt32) : IntKind.u32.wrap ((x.toNat : Int) + (y.toNat : Int)) = ((x + y).toNat : Int) := by rw [IntKind.wrap_u32', w_add]
theorem w_sub_wrap (x y : UInt32) : IntKind.u32.wrap ((x.toNat : Int) - (y.toNat : Int)) = ((x - y).toNat : Int) := by rw [IntKind.wrap_u32', w_sub]

/-- a word as the model's number; a plain name, so that the walk's simp leaves it -/
def tn (x : UInt32) : Int := x.toNat
theorem tn_nonneg (x : UInt32) : 0 ≤ tn x := by unfold tn; omega
theorem tn_lt (x : UInt32) : tn x < 4294967296 := by have := w_lt x; unfold tn; omega
theorem tn_inj {x y : UInt32} (h : tn x = tn y) : x = y := UInt32.toNat_inj.1 (by unfold tn at h; omega)
theorem tn_ofNat {n : Nat} (h : n < 4294967296) : tn (UInt32.ofNat n) = n := by unfold tn; rw [UInt32.toNat_ofNat', Nat.mod_eq_of_lt h]
theorem tn_of {a : Int} (h0 : 0 ≤ a) (h1 : a < 4294967296) : ∃ x : UInt32, a = tn x := ⟨UInt32.ofNat a.toNat, by rw [tn_ofNat (by omega)]; omega⟩
theorem t_and (x y : UInt32) : bits .and .u32 (tn x) (tn y) = tn (x &&& y) := w_and x y
theorem t_or (x y : UInt32) : bits .or .u32 (tn x) (tn y) = tn (x ||| y) := w_or x y
theorem t_xor (x y : UInt32) : bits .xor .u32 (tn x) (tn y) = tn (x ^^^ y) := w_xor x y
theorem t_not (x : UInt32) : bits .xor .u32 IntKind.u32.max (tn x) = tn (~~~x) := w_not x
theorem t_add (x y : UInt32) : (tn x + tn y) % 4294967296 = tn (x + y) := w_add x y
theorem t_sub (x y : UInt32) : (tn x - tn y) % 4294967296 = tn (x - y) := w_sub x y
theorem t_add_wrap (x y : UInt32) : IntKind.u32.wrap (tn x + tn y) = tn (x + y) := w_add_wrap x y
theorem t_sub_wrap (x y : UInt32) : IntKind.u32.wrap (tn x - tn y) = tn (x - y) := w_sub_wrap x y
theorem t_shl (x : UInt32) (n : Nat) (h : n < 32) : (tn x * 2 ^ n) % 4294967296 = tn (x <<< (UInt32.ofNat n)) := w_shl x n h
theorem t_shr (x : UInt32) (n : Nat) (h : n < 32) : tn x / 2 ^ n = tn (x >>> (UInt32.ofNat n)) := w_shr x n h

/-! ### SHA-1 -/
namespace Sh
def rot (x : UInt32) (n : Nat) : UInt32 := (x <<< (UInt32.ofNat n)) ||| (x >>> (UInt32.ofNat (32 - n)))
def mix (t : Nat) (b c d : UInt32) : UInt32 :=
  if t < 20 then ((b &&& c) ||| (~~~b &&& d)) + 0x5a827999
  else if t < 40 then (b ^^^ c ^^^ d) + 0x6ed9eba1
  else if t < 60 then ((b &&& c) ||| (b &&& d) ||| (c &&& d)) + 0x8f1bbcdc
  else (b ^^^ c ^^^ d) + 0xca62c1d6
/-- a chain: five words -/
structure Ch where
  a : UInt32
  b : UInt32
  c : UInt32
  d : UInt32
  e : UInt32
def step (x : Ch) (t : Nat) (w : UInt32) : Ch := ⟨rot x.a 5 + mix t x.b x.c x.d + x.e + w, x.a, rot x.b 30, x.c, x.d⟩
def back (x : Ch) (t : Nat) (w : UInt32) : Ch := ⟨x.b, rot x.c 2, x.d, x.e, x.a - (rot x.b 5 + mix t (rot x.c 2) x.d x.e + w)⟩
def add (x y : Ch) : Ch := ⟨x.a + y.a, x.b + y.b, x.c + y.c, x.d + y.d, x.e + y.e⟩
def first : Ch := ⟨0x67452301, 0xefcdab89, 0x98badcfe, 0x10325476, 0xc3d2e1f0⟩
/-- the word at a place of a block -/
def byteOr (l : List UInt8) (i : Nat) : UInt32 := UInt32.ofNat (l.getD i 0).toNat
def word (l : List UInt8) (t : Nat) : UInt32 := ((byteOr l (4 * t) * 256 + byteOr l (4 * t + 1)) * 256 + byteOr l (4 * t + 2)) * 256 + byteOr l (4 * t + 3)
/-- the words of a block, up to t of them -/
def wordsTo (l : List UInt8) : Nat → List UInt32
  | 0 => []
  | t + 1 => wordsTo l t ++ [if t < 16 then word l t else rot ((wordsTo l t).getD (t - 3) 0 ^^^ (wordsTo l t).getD (t - 8) 0 ^^^ (wordsTo l t).getD (t - 14) 0 ^^^ (wordsTo l t).getD (t - 16) 0) 1]
def words (l : List UInt8) : List UInt32 := wordsTo l 80
def stepsTo (l : List UInt8) (x : Ch) : Nat → Ch
  | 0 => x
  | t + 1 => step (stepsTo l x t) t ((words l).getD t 0)
def press (x : Ch) (l : List UInt8) : Ch := add x (stepsTo l x 80)
end Sh
end Go.Proofs.Ytpffolohkmokhaa.Hs
