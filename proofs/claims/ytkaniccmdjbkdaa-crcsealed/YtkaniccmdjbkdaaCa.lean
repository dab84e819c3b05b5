/-
  CRC-32 as Lean functions on words: bit by bit, and by a table of 256; sealing and opening. No part of the program is named here.
-/
import Derived.Test.YtkaniccmdjbkdaaShw
namespace Go.Proofs.Ytkaniccmdjbkdaa.Hc
open Hs
set_option linter.unusedVariables false

namespace Cr
/-- one bit goes -/
def bit (x : UInt32) : UInt32 := (x >>> 1) ^^^ ((x &&& 1) * 3988292384)
def bitsTo (x : UInt32) : Nat → UInt32
  | 0 => x
  | k + 1 => bit (bitsTo x k)
def tab (i : Nat) : UInt32 := bitsTo (UInt32.ofNat i) 8
def step (x : UInt32) (c : UInt8) : UInt32 := bitsTo (x ^^^ UInt32.ofNat c.toNat) 8
def run (x : UInt32) (l : List UInt8) : UInt32 := l.foldl step x
/-- the sum of bytes behind those of a sum -/
def more (s : UInt32) (l : List UInt8) : UInt32 := ~~~ run (~~~s) l
def sum (l : List UInt8) : UInt32 := more 0 l
def be4 (x : UInt32) : List UInt8 := [UInt8.ofNat (x.toNat / 16777216), UInt8.ofNat (x.toNat / 65536), UInt8.ofNat (x.toNat / 256), UInt8.ofNat x.toNat]
def sealed (l : List UInt8) : List UInt8 := l ++ be4 (sum l)
def openT (l : List UInt8) : List UInt8 := if l.length < 4 then [] else if sealed (l.take (l.length - 4)) = l then l.take (l.length - 4) else []
def openC (l : List UInt8) : Int := if l.length < 4 then 2 else if sealed (l.take (l.length - 4)) = l then 0 else 14

theorem one_or (x : UInt32) : x &&& 1 = 0 ∨ x &&& 1 = 1 := by
  have h : (x &&& 1).toNat = x.toNat % 2 := by rw [UInt32.toNat_and]; exact Nat.and_one_is_mod _
  have h2 : x.toNat % 2 = 0 ∨ x.toNat % 2 = 1 := by omega
  rcases h2 with h2 | h2
  · left; apply UInt32.toNat_inj.1; rw [h, h2]; rfl
  · right; apply UInt32.toNat_inj.1; rw [h, h2]; rfl
theorem one_even {x : UInt32} (h : x.toNat % 2 = 0) : x &&& 1 = 0 := by
  apply UInt32.toNat_inj.1
  rw [UInt32.toNat_and]
  exact (Nat.and_one_is_mod _).trans h
theorem one_odd {x : UInt32} (h : x.toNat % 2 = 1) : x &&& 1 = 1 := by
  apply UInt32.toNat_inj.1
  rw [UInt32.toNat_and]
  exact (Nat.and_one_is_mod _).trans h
theorem xor_assoc4 (a b c d : UInt32) : (a ^^^ b) ^^^ (c ^^^ d) = (a ^^^ c) ^^^ (b ^^^ d) := by
  apply UInt32.toBitVec_inj.1
  simp only [UInt32.toBitVec_xor]
  ext i hi
  simp only [BitVec.getElem_xor]
  cases a.toBitVec[i] <;> cases b.toBitVec[i] <;> cases c.toBitVec[i] <;> cases d.toBitVec[i] <;> rfl
theorem shr_xor (a b : UInt32) (n : UInt32) : (a ^^^ b) >>> n = (a >>> n) ^^^ (b >>> n) := by
  apply UInt32.toNat_inj.1
  simp only [UInt32.toNat_shiftRight, UInt32.toNat_xor, Nat.shiftRight_xor_distrib]
theorem and_xor (a b c : UInt32) : (a ^^^ b) &&& c = (a &&& c) ^^^ (b &&& c) := by
  apply UInt32.toBitVec_inj.1
  simp only [UInt32.toBitVec_xor, UInt32.toBitVec_and]
  ext i hi
  simp only [BitVec.getElem_xor, BitVec.getElem_and]
  cases a.toBitVec[i] <;> cases b.toBitVec[i] <;> cases c.toBitVec[i] <;> rfl
theorem mul_xor (u v : UInt32) (hu : u = 0 ∨ u = 1) (hv : v = 0 ∨ v = 1) : (u ^^^ v) * 3988292384 = (u * 3988292384) ^^^ (v * 3988292384) := by
  rcases hu with rfl | rfl <;> rcases hv with rfl | rfl <;> decide
theorem bit_xor (a b : UInt32) : bit (a ^^^ b) = bit a ^^^ bit b := by
  unfold bit
  rw [shr_xor, and_xor, mul_xor _ _ (one_or a) (one_or b), xor_assoc4]
theorem bitsTo_xor (a b : UInt32) : ∀ k, bitsTo (a ^^^ b) k = bitsTo a k ^^^ bitsTo b k
  | 0 => rfl
  | k + 1 => by rw [bitsTo, bitsTo, bitsTo, bitsTo_xor a b k, bit_xor]
theorem bit_even {x : UInt32} (h : x.toNat % 2 = 0) : bit x = x >>> 1 := by
  unfold bit
  rw [one_even h]
  simp
theorem shr1_toNat (x : UInt32) : (x >>> 1).toNat = x.toNat / 2 := by
  rw [UInt32.toNat_shiftRight]
  exact Nat.shiftRight_eq_div_pow _ 1
theorem bitsTo_high (x : UInt32) (q : Nat) (hq : x.toNat = q * 256) : ∀ k j, k + j = 8 → (bitsTo x k).toNat = q * 2 ^ j
  | 0, j, h => by obtain rfl : j = 8 := by omega
                  rw [bitsTo, hq]
  | k + 1, j, h => by
    have ih := bitsTo_high x q hq k (j + 1) (by omega)
    have e : q * 2 ^ (j + 1) = q * 2 ^ j * 2 := by rw [Nat.pow_succ, Nat.mul_assoc]
    rw [bitsTo, bit_even (by rw [ih, e]; omega), shr1_toNat, ih, e]
    omega
theorem split (x : UInt32) : x = (x &&& 0xffffff00) ^^^ (x &&& 0xff) := by
  have h : x = x &&& (0xffffff00 ^^^ 0xff) := by
    have e : (0xffffff00 ^^^ 0xff : UInt32) = 0xffffffff := by decide
    rw [e]
    apply UInt32.toBitVec_inj.1
    rw [UInt32.toBitVec_and]
    have e2 : (0xffffffff : UInt32).toBitVec = BitVec.allOnes 32 := by decide
    rw [e2, BitVec.and_allOnes]
  have h2 : x &&& (0xffffff00 ^^^ 0xff) = (x &&& 0xffffff00) ^^^ (x &&& 0xff) := by
    rw [UInt32.and_comm, and_xor, UInt32.and_comm _ x, UInt32.and_comm _ x]
  exact h.trans h2
theorem low_toNat (x : UInt32) : (x &&& 0xff).toNat = x.toNat % 256 := by
  rw [UInt32.toNat_and]
  exact Nat.and_two_pow_sub_one_eq_mod x.toNat 8
theorem high_toNat (x : UInt32) : (x &&& 0xffffff00).toNat = x.toNat / 256 * 256 := by
  have hs := split x
  have hd : (x &&& 0xffffff00) &&& (x &&& 0xff) = 0 := by
    have : (x &&& 0xffffff00) &&& (x &&& 0xff) = (x &&& x) &&& (0xffffff00 &&& 0xff) := by
      apply UInt32.toBitVec_inj.1
      simp only [UInt32.toBitVec_and]
      ext i hi
      simp only [BitVec.getElem_and]
      generalize (0xffffff00 : UInt32).toBitVec[i] = p
      generalize (0xff : UInt32).toBitVec[i] = q
      cases x.toBitVec[i] <;> cases p <;> cases q <;> rfl
    rw [this, show (0xffffff00 &&& 0xff : UInt32) = 0 by decide]
    simp
  have e1 : (x &&& 0xffffff00) = x ^^^ (x &&& 0xff) := by
    conv => rhs; lhs; rw [hs]
    rw [UInt32.xor_assoc, UInt32.xor_self, UInt32.xor_zero]
  apply Nat.eq_of_testBit_eq
  intro i
  have h2 : x.toNat / 256 * 256 = (x.toNat >>> 8) <<< 8 := by rw [Nat.shiftRight_eq_div_pow, Nat.shiftLeft_eq]
  have h3 : (x.toNat % 256).testBit i = (decide (i < 8) && x.toNat.testBit i) := Nat.testBit_mod_two_pow x.toNat 8 i
  rw [e1, UInt32.toNat_xor, Nat.testBit_xor, low_toNat, h3, h2, Nat.testBit_shiftLeft, Nat.testBit_shiftRight]
  by_cases hi : 8 ≤ i
  · rw [show 8 + (i - 8) = i by omega]
    simp [hi, show ¬ i < 8 by omega]
  · simp [hi, show i < 8 by omega]
/-- the table's step is the eight bits' -/
theorem step_tab (x : UInt32) (c : UInt8) : (x >>> 8) ^^^ tab ((x.toNat % 256) ^^^ c.toNat) = step x c := by
  have hc : c.toNat < 256 := c.toNat_lt
  have h1 : x ^^^ UInt32.ofNat c.toNat = (x &&& 0xffffff00) ^^^ ((x &&& 0xff) ^^^ UInt32.ofNat c.toNat) := by
    rw [← UInt32.xor_assoc, ← split]
  have h2 : (x &&& 0xff) ^^^ UInt32.ofNat c.toNat = UInt32.ofNat ((x.toNat % 256) ^^^ c.toNat) := by
    apply UInt32.toNat_inj.1
    have hx : (x.toNat % 256) ^^^ c.toNat < 2 ^ 8 := Nat.xor_lt_two_pow (Nat.mod_lt _ (by omega)) hc
    rw [UInt32.toNat_xor, low_toNat, UInt32.toNat_ofNat', UInt32.toNat_ofNat', Nat.mod_eq_of_lt (show c.toNat < 2 ^ 32 by omega), Nat.mod_eq_of_lt (show (x.toNat % 256) ^^^ c.toNat < 2 ^ 32 by omega)]
  have h3 : bitsTo (x &&& 0xffffff00) 8 = x >>> 8 := by
    apply UInt32.toNat_inj.1
    rw [bitsTo_high _ (x.toNat / 256) (high_toNat x) 8 0 rfl, UInt32.toNat_shiftRight]
    show _ = x.toNat >>> 8
    rw [Nat.shiftRight_eq_div_pow]
    omega
  rw [step, h1, h2, bitsTo_xor, h3]
  rfl
theorem run_append (x : UInt32) (a b : List UInt8) : run (run x a) b = run x (a ++ b) := (List.foldl_append ..).symm
theorem run_snoc (x : UInt32) (l : List UInt8) (k : Nat) (h : k < l.length) : run x (l.take (k + 1)) = step (run x (l.take k)) (l.getD k 0) := by
  rw [List.take_add_one, List.getElem?_eq_getElem h, ← run_append]
  simp [run, List.getD, List.getElem?_eq_getElem h]
theorem not_not_ (x : UInt32) : ~~~ ~~~x = x := by
  apply UInt32.toBitVec_inj.1
  rw [UInt32.toBitVec_not, UInt32.toBitVec_not, BitVec.not_not]
theorem more_append (s : UInt32) (a b : List UInt8) : more (more s a) b = more s (a ++ b) := by
  unfold more
  rw [not_not_, run_append]
theorem more_nil (s : UInt32) : more s [] = s := not_not_ s
theorem more_sum (a b : List UInt8) : more (sum a) b = sum (a ++ b) := more_append 0 a b
theorem be4_length (x : UInt32) : (be4 x).length = 4 := rfl
theorem sealed_length (l : List UInt8) : (sealed l).length = l.length + 4 := by simp [sealed, be4]
theorem sealed_take (l : List UInt8) : (sealed l).take ((sealed l).length - 4) = l := by rw [sealed_length, Nat.add_sub_cancel]; simp [sealed]
theorem openT_sealed (l : List UInt8) : openT (sealed l) = l := by
  rw [openT, if_neg (by rw [sealed_length]; omega), sealed_take, if_pos rfl]
theorem openC_sealed (l : List UInt8) : openC (sealed l) = 0 := by
  rw [openC, if_neg (by rw [sealed_length]; omega), sealed_take, if_pos rfl]
/-- the last four bytes are the sum's just if the rest, sealed, is all -/
theorem tail_iff (l : List UInt8) (h : ¬ l.length < 4) : l.drop (l.length - 4) = be4 (sum (l.take (l.length - 4))) ↔ sealed (l.take (l.length - 4)) = l := by
  have e := List.take_append_drop (l.length - 4) l
  constructor
  · intro h1
    rw [sealed, ← h1, e]
  · intro h1
    rw [sealed] at h1
    have h2 := h1.trans e.symm
    exact (List.append_cancel_left h2).symm
end Cr
end Go.Proofs.Ytkaniccmdjbkdaa.Hc
