/-
  SHA-256 as Lean functions; rows of 64 words and of 8; contracts of the document's turn and keys (layer 3).
-/
import Derived.Test.YtanmhpcfklageaaDoorShf
import Derived.StillTailTactics
import Derived.Laws.Tables
import Derived.IntWalk
import Derived.BigRegion
import Derived.Deep.AppendLies
namespace Go.Proofs.YtanmhpcfklageaaDoor.Hs
open Go.RowKit
set_option linter.unusedVariables false
attribute [local go_sem] t_and t_or t_xor t_not t_add t_sub t_add_wrap t_sub_wrap

namespace S2
def turn (x : UInt32) (n : Nat) : UInt32 := (x >>> UInt32.ofNat n) ||| (x <<< UInt32.ofNat (32 - n))
def keys : List UInt32 := [0x428a2f98, 0x71374491, 0xb5c0fbcf, 0xe9b5dba5, 0x3956c25b, 0x59f111f1, 0x923f82a4, 0xab1c5ed5, 0xd807aa98, 0x12835b01, 0x243185be, 0x550c7dc3, 0x72be5d74, 0x80deb1fe, 0x9bdc06a7, 0xc19bf174, 0xe49b69c1, 0xefbe4786, 0x0fc19dc6, 0x240ca1cc, 0x2de92c6f, 0x4a7484aa, 0x5cb0a9dc, 0x76f988da, 0x983e5152, 0xa831c66d, 0xb00327c8, 0xbf597fc7, 0xc6e00bf3, 0xd5a79147, 0x06ca6351, 0x14292967, 0x27b70a85, 0x2e1b2138, 0x4d2c6dfc, 0x53380d13, 0x650a7354, 0x766a0abb, 0x81c2c92e, 0x92722c85, 0xa2bfe8a1, 0xa81a664b, 0xc24b8b70, 0xc76c51a3, 0xd192e819, 0xd6990624, 0xf40e3585, 0x106aa070, 0x19a4c116, 0x1e376c08, 0x2748774c, 0x34b0bcb5, 0x391c0cb3, 0x4ed8aa4a, 0x5b9cca4f, 0x682e6ff3, 0x748f82ee, 0x78a5636f, 0x84c87814, 0x8cc70208, 0x90befffa, 0xa4506ceb, 0xbef9a3f7, 0xc67178f2]
/-- a chain: eight words -/
structure Ch where
  a : UInt32
  b : UInt32
  c : UInt32
  d : UInt32
  e : UInt32
  f : UInt32
  g : UInt32
  h : UInt32
def first : Ch := ⟨0x6a09e667, 0xbb67ae85, 0x3c6ef372, 0xa54ff53a, 0x510e527f, 0x9b05688c, 0x1f83d9ab, 0x5be0cd19⟩
def word (l : List UInt8) (t : Nat) : UInt32 := Sh.byteOr l (4 * t) * 16777216 + Sh.byteOr l (4 * t + 1) * 65536 + Sh.byteOr l (4 * t + 2) * 256 + Sh.byteOr l (4 * t + 3)
def s0 (x : UInt32) : UInt32 := turn x 7 ^^^ turn x 18 ^^^ (x >>> 3)
def s1 (x : UInt32) : UInt32 := turn x 17 ^^^ turn x 19 ^^^ (x >>> 10)
/-- the words of a block, up to t of them -/
def wordsTo (l : List UInt8) : Nat → List UInt32
  | 0 => []
  | t + 1 => wordsTo l t ++ [if t < 16 then word l t else (wordsTo l t).getD (t - 16) 0 + s0 ((wordsTo l t).getD (t - 15) 0) + (wordsTo l t).getD (t - 7) 0 + s1 ((wordsTo l t).getD (t - 2) 0)]
def one (x : Ch) (k w : UInt32) : UInt32 := x.h + (turn x.e 6 ^^^ turn x.e 11 ^^^ turn x.e 25) + ((x.e &&& x.f) ^^^ (~~~x.e &&& x.g)) + k + w
def two (x : Ch) : UInt32 := (turn x.a 2 ^^^ turn x.a 13 ^^^ turn x.a 22) + ((x.a &&& x.b) ^^^ (x.a &&& x.c) ^^^ (x.b &&& x.c))
def step (x : Ch) (k w : UInt32) : Ch := ⟨one x k w + two x, x.a, x.b, x.c, x.d + one x k w, x.e, x.f, x.g⟩
def stepsTo (l : List UInt32) (x : Ch) : Nat → Ch
  | 0 => x
  | t + 1 => step (stepsTo l x t) (keys.getD t 0) (l.getD t 0)
def add (x y : Ch) : Ch := ⟨x.a + y.a, x.b + y.b, x.c + y.c, x.d + y.d, x.e + y.e, x.f + y.f, x.g + y.g, x.h + y.h⟩
def press (x : Ch) (l : List UInt8) : Ch := add x (stepsTo (wordsTo l 64) x 64)
/-- the chain behind k blocks -/
def chain (f : List UInt8) : Nat → Ch
  | 0 => first
  | k + 1 => press (chain f k) ((f.drop (64 * k)).take 64)
def fld (x : Ch) : Nat → UInt32
  | 0 => x.a
  | 1 => x.b
  | 2 => x.c
  | 3 => x.d
  | 4 => x.e
  | 5 => x.f
  | 6 => x.g
  | _ => x.h
/-- a word's bytes, the highest first -/
def be4 (x : UInt32) : List UInt8 := [UInt8.ofNat (x.toNat / 16777216 % 256), UInt8.ofNat (x.toNat / 65536 % 256), UInt8.ofNat (x.toNat / 256 % 256), UInt8.ofNat (x.toNat % 256)]
def told (x : Ch) : Nat → List UInt8
  | 0 => []
  | k + 1 => told x k ++ be4 (fld x k)
def sum (l : List UInt8) : List UInt8 := told (chain (Sh.fill l) ((Sh.fill l).length / 64)) 8
theorem fill_length (l : List UInt8) : (Sh.fill l).length % 64 = 0 := by
  rw [Sh.fill, List.length_append, Sh.pad_length, Sh.highs_length]
  unfold Sh.nought
  omega
theorem told_length (x : Ch) (k : Nat) : (told x k).length = 4 * k := by
  induction k with
  | zero => rfl
  | succ k ih => simp [told, ih, be4]; omega
theorem wordsTo_length (l : List UInt8) (t : Nat) : (wordsTo l t).length = t := by
  induction t with
  | zero => rfl
  | succ t ih => simp [wordsTo, ih]
theorem fld_add (x y : Ch) (j : Nat) : fld (add x y) j = fld x j + fld y j := by
  match j with
  | 0 => rfl
  | 1 => rfl
  | 2 => rfl
  | 3 => rfl
  | 4 => rfl
  | 5 => rfl
  | 6 => rfl
  | _ + 7 => rfl
end S2

theorem sum2_abc : S2.sum [97, 98, 99] = [186, 120, 22, 191, 143, 1, 207, 234, 65, 65, 64, 222, 93, 174, 34, 35, 176, 3, 97, 163, 150, 23, 122, 156, 180, 16, 255, 97, 242, 0, 21, 173] := by kernel_rfl

theorem turn_any (x : UInt32) (n : Nat) (w : World) (h0 : 0 < n) (h : n < 32) : Calls Tryd.prog 16 #[.int .u32 (tn x), .int .u64 n] w fun e w' => e = .returned (.int .u32 (tn (S2.turn x n))) ∧ w' = w := by
  have hx := tn_lt x
  have hx0 := tn_nonneg x
  have hs := t_shl x (32 - n) (by omega)
  have hr := t_shr x n h
  go_enter Tryd.func16, Tryd.ntmps16
  go_wp2
  go_ret
  exact ⟨rfl, rfl⟩

/-- sixty-four words as cells -/
def w64 (l : List UInt32) : Array Value := ((List.range 64).map fun j => .int .u32 (tn (l.getD j 0))).toArray
theorem w64_size (l : List UInt32) : (w64 l).size = 64 := by simp [w64]
theorem w64_one (l : List UInt32) : (w64 l).all (·.oneCell') = true := by simp [w64, Value.oneCell']
theorem w64_get (l : List UInt32) (t : Nat) (h : t < 64) : (w64 l)[t]? = some (.int .u32 (tn (l.getD t 0))) := by simp [w64, h]

theorem zv64 (w : World) : (zeroValue 34).run Tryd.prog w = .ok (.agg (w64 [])) w := by kernel_rfl

theorem info64 (l : List UInt32) : (Tryd.prog.info? 34).map (·.size) = some (w64 l).size := by rw [w64_size]; kernel_rfl

theorem wpList_built3 {P : Program} {ops : Array Oper} {rest : List Oper} {o : Oper} {a : Act} {w : World} {Q : Exit → Act → World → Prop} (hg : o.guard = none) (t : TypeId) (parts : Array (Nat × Operand)) (ho : o.op = .build t parts) (cells : Array Value)
    (hc : P.built t (parts.map fun (i, x) => (i, a.eval x)).toList = some cells) (h : wpList P ops Q rest (a.put o.dst (.agg cells)) w) : wpList P ops Q (o :: rest) a w :=
  wpList_build hg t parts ho (by rw [hc]; rfl) (by rw [hc]; exact h)

theorem below_row {B g : Nat} {a w : World} (h : Below B a w) (hg : B ≤ g) (c : Array Value) : Below B a (w.setRow g c) :=
  ⟨h.os, h.tape, h.output, by simpa using h.size, fun i hi => (setRow_other _ _ _ _ (by omega)).trans (h.block i hi)⟩

set_option maxRecDepth 100000 in
theorem keys_any (w : World) : Calls Tryd.prog 15 #[] w fun e w' => e = .returned (.agg (w64 S2.keys)) ∧ Below w.heap.size w w' := by
  have hz := zv64
  have hnew := heap_alloc_new w (.cells (w64 []) 34)
  have HN := Lib.hid hnew
  clear hnew
  go_enter Tryd.func15, Tryd.ntmps15
  go_wp2_with (first
    | (refine wpList_built3 rfl 34 _ rfl (w64 S2.keys) (by kernel_rfl) ?_)
    | (with_reducible refine wpList_store_row rfl 34 (.tmp 0) (.tmp 1) rfl w.heap.size (w64 S2.keys) rfl rfl 34 (w64 []) HN.out (info64 _) (by rw [w64_size, w64_size]) (w64_one _) ?_))
  exact bodyPost_ret (results_cell_row Tryd.results15 _ _ w.heap.size 34 (w64 S2.keys) (0, 0) _ rfl (setRow_heap _ _ _ _ _ _ HN.out) Tryd.underlying34 rfl (info64 _)) rfl ⟨rfl, below_row ((Below.refl _ w).alloc (Nat.le_refl _) _) (Nat.le_refl _) _⟩
end Go.Proofs.YtanmhpcfklageaaDoor.Hs
