/-
  Words of 32 bits: what the model's operations on them are; SHA-1 over them. No part of the program is named here.
  Contracts of the document's Rot, Mix and Step (layer 2): what a call returns, and that nothing that was there has changed.
  Contracts of the document's First and Back (layer 2).
  The contract of the document's Expand (layer 2): the eighty words of a block.
  The contract of the document's Press (layer 2): the chain behind a block.
  Bytes that are appended one by one to a slice of the call's own, its array marked or not (what a conversion of a string lays).
  The contract of the document's Fill (layer 2): bytes, filled up.
  The contract of the document's Sum (layer 2): the digest.
-/
import Derived.WalkKit
import Derived.Laws.BitsAllLaws
import Derived.Laws.BitsLemmas
import Derived.Test.YtmbbigmnliiadaaDoorRows
import Derived.ProofKit
import Derived.Below
import Derived.Lib.Hide
import Derived.Deep.OwnRows
import Derived.Deep.LoopGhost
import Derived.Deep.QuietTactic
import Derived.BigQuiet
import Derived.Deep.RegionHeld3
import Derived.Laws.Rows
import Derived.Laws.Tables
import Derived.IntWalk
import Derived.BigRegion
import Derived.Laws.CopyOwn
import Derived.ArgAppend
import Derived.Laws.IdiomStrings
import Derived.Laws.BytesArg
import Derived.Maps.AppendAt
import Derived.OwnWalk
import Derived.Deep.AppendLies
namespace Go.Proofs.YtmbbigmnliiadaaDoor.Hs

theorem w_lt (x : UInt32) : x.toNat < 4294967296 := x.toNat_lt
theorem w_and (x y : UInt32) : bits .and .u32 (x.toNat : Int) (y.toNat : Int) = ((x &&& y).toNat : Int) := by rw [u32_and_nat _ _ (w_lt x) (w_lt y), UInt32.toNat_and]
theorem w_or (x y : UInt32) : bits .or .u32 (x.toNat : Int) (y.toNat : Int) = ((x ||| y).toNat : Int) := by rw [u32_or_nat _ _ (w_lt x) (w_lt y), UInt32.toNat_or]
theorem w_xor (x y : UInt32) : bits .xor .u32 (x.toNat : Int) (y.toNat : Int) = ((x ^^^ y).toNat : Int) := by rw [u32_xor_nat _ _ (w_lt x) (w_lt y), UInt32.toNat_xor]
theorem w_not (x : UInt32) : bits .xor .u32 IntKind.u32.max (x.toNat : Int) = ((~~~x).toNat : Int) := by
  have h : IntKind.u32.max = ((4294967295 : Nat) : Int) := by rfl
  have hx := w_lt x
  rw [h, u32_xor_nat _ _ (by omega) hx, UInt32.toNat_not]
  have e : (~~~x) = x ^^^ (4294967295 : UInt32) := by
    apply UInt32.toBitVec_inj.1
    have h2 : (4294967295 : UInt32).toBitVec = BitVec.allOnes 32 := by decide
    rw [UInt32.toBitVec_not, UInt32.toBitVec_xor, h2, BitVec.xor_allOnes]
  have e2 := congrArg UInt32.toNat e
  rw [UInt32.toNat_xor, UInt32.toNat_not] at e2
  rw [e2, Nat.xor_comm]
  rfl
theorem w_add (x y : UInt32) : ((x.toNat : Int) + (y.toNat : Int)) % 4294967296 = ((x + y).toNat : Int) := by rw [UInt32.toNat_add]; omega
theorem w_sub (x y : UInt32) : ((x.toNat : Int) - (y.toNat : Int)) % 4294967296 = ((x - y).toNat : Int) := by
  have hx := w_lt x
  have hy := w_lt y
  rw [UInt32.toNat_sub]; omega
theorem w_shl (x : UInt32) (n : Nat) (h : n < 32) : ((x.toNat : Int) * 2 ^ n) % 4294967296 = ((x <<< (UInt32.ofNat n)).toNat : Int) := by
  rw [UInt32.toNat_shiftLeft, UInt32.toNat_ofNat', Nat.mod_eq_of_lt (show n < 2 ^ 32 by omega), Nat.mod_eq_of_lt h, Nat.shiftLeft_eq]
  have : ((x.toNat * 2 ^ n : Nat) : Int) = (x.toNat : Int) * 2 ^ n := by simp
  rw [← this]
  omega
theorem w_shr (x : UInt32) (n : Nat) (h : n < 32) : (x.toNat : Int) / 2 ^ n = ((x >>> (UInt32.ofNat n)).toNat : Int) := by
  rw [UInt32.toNat_shiftRight, UInt32.toNat_ofNat', Nat.mod_eq_of_lt (show n < 2 ^ 32 by omega), Nat.mod_eq_of_lt h, Nat.shiftRight_eq_div_pow]
  have : (((2 : Nat) ^ n : Nat) : Int) = (2 : Int) ^ n := by simp
  rw [← this, ← Int.natCast_ediv]
theorem w_add_wrap (x y : UInt32) : IntKind.u32.wrap ((x.toNat : Int) + (y.toNat : Int)) = ((x + y).toNat : Int) := by rw [IntKind.wrap_u32', w_add]
theorem w_sub_wrap (x y : UInt32) : IntKind.u32.wrap ((x.toNat : Int) - (y.toNat : Int)) = ((x - y).toNat : Int) := by rw [IntKind.wrap_u32', w_sub]

/-- a word as the model's number; a plain name, so that the walk's simp leaves it -/
def tn (x : UInt32) : Int := x.toNat
theorem tn_nonneg (x : UInt32) : 0 ≤ tn x := by unfold tn; omega
theorem tn_lt (x : UInt32) : tn x < 4294967296 := by have := w_lt x; unfold tn; omega
theorem tn_inj {x y : UInt32} (h : tn x = tn y) : x = y := UInt32.toNat_inj.1 (by unfold tn at h; omega)
theorem tn_ofNat {n : Nat} (h : n < 4294967296) : tn (UInt32.ofNat n) = n := by unfold tn; rw [UInt32.toNat_ofNat', Nat.mod_eq_of_lt h]
theorem tn_of {a : Int} (h0 : 0 ≤ a) (h1 : a < 4294967296) : ∃ x : UInt32, a = tn x := ⟨UInt32.ofNat a.toNat, by rw [tn_ofNat (by omega)]; omega⟩
theorem t_and (x y : UInt32) : bits .and .u32 (tn x) (tn y) = tn (x &&& y) := w_and x y
theorem t_or (x y : UInt32) : bits .or .u32 (tn x) (tn y) = tn (x ||| y) := w_or x y
theorem t_xor (x y : UInt32) : bits .xor .u32 (tn x) (tn y) = tn (x ^^^ y) := w_xor x y
theorem t_not (x : UInt32) : bits .xor .u32 IntKind.u32.max (tn x) = tn (~~~x) := w_not x
theorem t_add (x y : UInt32) : (tn x + tn y) % 4294967296 = tn (x + y) := w_add x y
theorem t_sub (x y : UInt32) : (tn x - tn y) % 4294967296 = tn (x - y) := w_sub x y
theorem t_add_wrap (x y : UInt32) : IntKind.u32.wrap (tn x + tn y) = tn (x + y) := w_add_wrap x y
theorem t_sub_wrap (x y : UInt32) : IntKind.u32.wrap (tn x - tn y) = tn (x - y) := w_sub_wrap x y
theorem t_shl (x : UInt32) (n : Nat) (h : n < 32) : (tn x * 2 ^ n) % 4294967296 = tn (x <<< (UInt32.ofNat n)) := w_shl x n h
theorem t_shr (x : UInt32) (n : Nat) (h : n < 32) : tn x / 2 ^ n = tn (x >>> (UInt32.ofNat n)) := w_shr x n h

/-! ### SHA-1 -/
namespace Sh
def rot (x : UInt32) (n : Nat) : UInt32 := (x <<< (UInt32.ofNat n)) ||| (x >>> (UInt32.ofNat (32 - n)))
def mix (t : Nat) (b c d : UInt32) : UInt32 :=
  if t < 20 then ((b &&& c) ||| (~~~b &&& d)) + 0x5a827999
  else if t < 40 then (b ^^^ c ^^^ d) + 0x6ed9eba1
  else if t < 60 then ((b &&& c) ||| (b &&& d) ||| (c &&& d)) + 0x8f1bbcdc
  else (b ^^^ c ^^^ d) + 0xca62c1d6
/-- a chain: five words -/
structure Ch where
  a : UInt32
  b : UInt32
  c : UInt32
  d : UInt32
  e : UInt32
def step (x : Ch) (t : Nat) (w : UInt32) : Ch := ⟨rot x.a 5 + mix t x.b x.c x.d + x.e + w, x.a, rot x.b 30, x.c, x.d⟩
def back (x : Ch) (t : Nat) (w : UInt32) : Ch := ⟨x.b, rot x.c 2, x.d, x.e, x.a - (rot x.b 5 + mix t (rot x.c 2) x.d x.e + w)⟩
def add (x y : Ch) : Ch := ⟨x.a + y.a, x.b + y.b, x.c + y.c, x.d + y.d, x.e + y.e⟩
def first : Ch := ⟨0x67452301, 0xefcdab89, 0x98badcfe, 0x10325476, 0xc3d2e1f0⟩
/-- the word at a place of a block -/
def byteOr (l : List UInt8) (i : Nat) : UInt32 := UInt32.ofNat (l.getD i 0).toNat
def word (l : List UInt8) (t : Nat) : UInt32 := ((byteOr l (4 * t) * 256 + byteOr l (4 * t + 1)) * 256 + byteOr l (4 * t + 2)) * 256 + byteOr l (4 * t + 3)
/-- the words of a block, up to t of them -/
def wordsTo (l : List UInt8) : Nat → List UInt32
  | 0 => []
  | t + 1 => wordsTo l t ++ [if t < 16 then word l t else rot ((wordsTo l t).getD (t - 3) 0 ^^^ (wordsTo l t).getD (t - 8) 0 ^^^ (wordsTo l t).getD (t - 14) 0 ^^^ (wordsTo l t).getD (t - 16) 0) 1]
def words (l : List UInt8) : List UInt32 := wordsTo l 80
def stepsTo (l : List UInt8) (x : Ch) : Nat → Ch
  | 0 => x
  | t + 1 => step (stepsTo l x t) t ((words l).getD t 0)
def press (x : Ch) (l : List UInt8) : Ch := add x (stepsTo l x 80)
end Sh
end Go.Proofs.YtmbbigmnliiadaaDoor.Hs
namespace Go.Proofs.YtmbbigmnliiadaaDoor.Hs
open Go.RowKit
set_option linter.unusedVariables false
attribute [local go_sem] t_and t_or t_xor t_not t_add t_sub t_add_wrap t_sub_wrap

theorem k1 (x : UInt32) : (tn x + 1518500249) % 4294967296 = tn (x + 0x5a827999) := t_add x 0x5a827999
theorem k2 (x : UInt32) : (tn x + 1859775393) % 4294967296 = tn (x + 0x6ed9eba1) := t_add x 0x6ed9eba1
theorem k3 (x : UInt32) : (tn x + 2400959708) % 4294967296 = tn (x + 0x8f1bbcdc) := t_add x 0x8f1bbcdc
theorem k4 (x : UInt32) : (tn x + 3395469782) % 4294967296 = tn (x + 0xca62c1d6) := t_add x 0xca62c1d6

theorem ret_int {k : IntKind} {a b : Int} (h : a = b) : Ending.returned (.int k a) = .returned (.int k b) := by rw [h]

theorem quiet_left {P : Program} {f : FuncId} {args : Array Value} {w : World} {n : Nat} {v : Value}
    (h : Calls P f args (w.drewN n) fun e w' => e = .returned v ∧ w.drewN n = w') : Calls P f args (w.drewN n) fun e w'' => e = .returned v ∧ ∃ m, w'' = w.drewN m :=
  h.mono fun _ _ ⟨he, hm⟩ => ⟨he, n, hm.symm⟩

theorem below_drewN {B : Nat} {a w : World} (h : Below B a w) (n : Nat) : Below B a (w.drewN n) := ⟨h.os, h.tape, h.output, h.size, h.block⟩

/-- a word, a chain as cells -/
def U (x : UInt32) : Value := .int .u32 (tn x)
def cs (x : Sh.Ch) : Array Value := #[.int .u32 (tn x.a), .int .u32 (tn x.b), .int .u32 (tn x.c), .int .u32 (tn x.d), .int .u32 (tn x.e)]

end Go.Proofs.YtmbbigmnliiadaaDoor.Hs
namespace Go.Proofs.YtmbbigmnliiadaaDoor.Hs
open Go.RowKit
set_option linter.unusedVariables false
attribute [local go_sem] t_and t_or t_xor t_not t_add t_sub t_add_wrap t_sub_wrap

theorem cs_first : cs Sh.first = #[.int .u32 1732584193, .int .u32 4023233417, .int .u32 2562383102, .int .u32 271733878, .int .u32 3285377520] := by kernel_rfl

end Go.Proofs.YtmbbigmnliiadaaDoor.Hs
namespace Go.Proofs.YtmbbigmnliiadaaDoor.Hs
open Go.RowKit
set_option linter.unusedVariables false
attribute [local go_sem] t_and t_or t_xor t_not t_add t_sub t_add_wrap t_sub_wrap

/-- eighty words -/
def ws (l : List UInt32) : Array Value := ((List.range 80).map fun j => .int .u32 (tn (l.getD j 0))).toArray
theorem ws_size (l : List UInt32) : (ws l).size = 80 := by simp [ws]
theorem zv29 (w : World) : (zeroValue 72).run Tryd.prog w = .ok (.agg (ws [])) w := by kernel_rfl
theorem row_ws (w : World) (l : List UInt32) : (w.alloc (.cells (ws l) 72)).rowIs w.heap.size 72 80 (fun j => .int .u32 (tn (l.getD j 0))) := by
  have h := World.rowIs_alloc w (ws l) 72 (fun j => .int .u32 (tn (l.getD j 0))) (fun i hi => by rw [ws_size] at hi; simp [ws, hi])
  rwa [ws_size] at h
/-- a row of eighty words, its cells laid whole -/
theorem ws_row {w : World} {g : Nat} {l : List UInt32} (h : w.rowIs g 72 80 (fun j => .int .u32 (tn (l.getD j 0)))) : w.heap[g]? = some (.cells (ws l) 72 (0, 0)) := by
  obtain ⟨c, hb, hn, hc⟩ := h
  rw [hb]
  congr 2
  apply Array.ext_getElem?
  intro i
  by_cases hi : i < 80
  · rw [hc i hi]; simp [ws, hi]
  · rw [Array.getElem?_eq_none (by omega), Array.getElem?_eq_none (by rw [ws_size]; omega)]

namespace Sh
/-- a word, i of its four bytes told -/
def part (l : List UInt8) (t : Nat) : Nat → UInt32
  | 0 => 0
  | i + 1 => part l t i * 256 + byteOr l (4 * t + i)
theorem part_four (l : List UInt8) (t : Nat) : part l t 4 = word l t := by simp [part, word]
theorem wordsTo_length (l : List UInt8) (t : Nat) : (wordsTo l t).length = t := by
  induction t with
  | zero => rfl
  | succ t ih => simp [wordsTo, ih]
end Sh
theorem t_mul (x y : UInt32) : (tn x * tn y) % 4294967296 = tn (x * y) := by
  unfold tn
  rw [UInt32.toNat_mul]
  omega
theorem t_mul256 (x : UInt32) : (tn x * 256) % 4294967296 = tn (x * 256) := t_mul x 256
theorem getD_snoc (l : List UInt32) (x : UInt32) (t : Nat) (ht : l.length = t) (j : Nat) : (l ++ [x]).getD j 0 = if j = t then x else l.getD j 0 := by
  subst ht
  by_cases h : j = l.length
  · subst h; simp
  · rw [if_neg h]
    by_cases hlt : j < l.length
    · simp [List.getD, List.getElem?_append_left hlt]
    · rw [List.getD_eq_getElem?_getD, List.getElem?_eq_none (by simp; omega), List.getD_eq_getElem?_getD, List.getElem?_eq_none (by omega)]
/-- a word is put behind the t that are there, or in the place of the last -/
theorem row_put {w : World} {g t : Nat} {l : List UInt32} {x y : UInt32} (hl : l.length = t) (h : w.rowIs g 72 80 (fun j => .int .u32 (tn ((l ++ [x]).getD j 0)))) :
    (w.setCell ⟨g, t, none⟩ (.int .u32 (tn y))).rowIs g 72 80 (fun j => .int .u32 (tn ((l ++ [y]).getD j 0))) := by
  refine (h.set t _).congr fun j _ => ?_
  simp only [getD_snoc _ _ _ hl]
  split <;> rfl
theorem row_none {w : World} {g t : Nat} {l : List UInt32} (hl : l.length = t) (h : w.rowIs g 72 80 (fun j => .int .u32 (tn (l.getD j 0)))) :
    w.rowIs g 72 80 (fun j => .int .u32 (tn ((l ++ [0]).getD j 0))) :=
  h.congr fun j _ => by
    rw [getD_snoc _ _ _ hl]
    split
    · rename_i e; rw [List.getD_eq_getElem?_getD, List.getElem?_eq_none (by omega)]; rfl
    · rfl

theorem info29 : (Tryd.prog.info? 72).map (·.size) = some 80 := by kernel_rfl

/-- the state of Expand: the result's row is empty yet, the words' row holds l -/
structure Ex (w wr : World) (l : List UInt32) : Prop where
  below : Below w.heap.size w wr
  size : w.heap.size + 1 < wr.heap.size
  res : wr.rowIs w.heap.size 72 80 (fun j => .int .u32 (tn (([] : List UInt32).getD j 0)))
  row : wr.rowIs (w.heap.size + 1) 72 80 (fun j => .int .u32 (tn (l.getD j 0)))
section
variable {w wr : World} {l : List UInt32} {t : Nat} {x y : UInt32}
theorem Ex.start (w : World) : Ex w ((w.alloc (.cells (ws []) 72)).alloc (.cells (ws []) 72)) [] := by
  refine ⟨((Below.refl _ w).alloc (Nat.le_refl _) _).alloc (by simp) _, by simp, (row_ws w []).alloc _, ?_⟩
  have := row_ws (w.alloc (.cells (ws []) 72)) []
  simpa using this
theorem Ex.begin_ (h : Ex w wr l) (hl : l.length = t) : Ex w wr (l ++ [0]) := ⟨h.below, h.size, h.res, row_none hl h.row⟩
theorem Ex.put (h : Ex w wr (l ++ [x])) (hl : l.length = t) (y : UInt32) : Ex w (wr.setCell ⟨w.heap.size + 1, t, none⟩ (.int .u32 (tn y))) (l ++ [y]) :=
  ⟨h.below.setCell (Nat.le_succ _) _, by simpa using h.size, h.res.setOther (by simp) _, row_put hl h.row⟩
theorem Ex.drawn (h : Ex w wr l) (n : Nat) : Ex w (wr.drewN n) l := ⟨below_drewN h.below n, h.size, h.res, h.row⟩
theorem Ex.drew (h : Ex w wr l) : Ex w wr.drew l := ⟨h.below.drew, h.size, h.res, h.row⟩
theorem Ex.at_ (h : Ex w wr l) {j : Nat} (hj : j < 80) : wr.cell? ⟨w.heap.size + 1, j, none⟩ = some (.int .u32 (tn (l.getD j 0))) := h.row.cell hj
theorem Ex.cell (h : Ex w wr (l ++ [x])) (hl : l.length = t) (ht : t < 80) : wr.cell? ⟨w.heap.size + 1, t, none⟩ = some (.int .u32 (tn x)) := by
  rw [h.row.cell ht, getD_snoc _ _ _ hl, if_pos rfl]
end

theorem byte_in (s : ByteArray) (k : Nat) (h : k < s.size) : ((s[k].toNat : Int)) = tn (Sh.byteOr s.data.toList k) := by
  have h256 : s[k].toNat < 256 := s[k].toNat_lt
  rw [Sh.byteOr, List.getD_eq_getElem?_getD, List.getElem?_eq_getElem (by simpa using h), Option.getD_some, tn_ofNat (by have : (s.data.toList[k]'(by simpa using h)).toNat < 256 := UInt8.toNat_lt _; omega)]
  rfl
theorem byte_out (s : ByteArray) (k : Nat) (h : s.size ≤ k) : Sh.byteOr s.data.toList k = 0 := by
  rw [Sh.byteOr, List.getD_eq_getElem?_getD, List.getElem?_eq_none (by simpa using h)]
  rfl
theorem wordsTo_low (l : List UInt8) (t : Nat) (h : t < 16) : Sh.wordsTo l (t + 1) = Sh.wordsTo l t ++ [Sh.part l t 4] := by
  rw [Sh.wordsTo, if_pos h, Sh.part_four]
theorem wordsTo_high (l : List UInt8) (t : Nat) (h : ¬ t < 16) : Sh.wordsTo l (t + 1) = Sh.wordsTo l t ++ [Sh.rot ((Sh.wordsTo l t).getD (t - 3) 0 ^^^ (Sh.wordsTo l t).getD (t - 8) 0 ^^^ (Sh.wordsTo l t).getD (t - 14) 0 ^^^ (Sh.wordsTo l t).getD (t - 16) 0) 1] := by
  rw [Sh.wordsTo, if_neg h]

end Go.Proofs.YtmbbigmnliiadaaDoor.Hs
namespace Go.Proofs.YtmbbigmnliiadaaDoor.Hs
open Go.RowKit
set_option linter.unusedVariables false
attribute [local go_sem] t_and t_or t_xor t_not t_add t_sub t_add_wrap t_sub_wrap

theorem info27 (x : Sh.Ch) : (Tryd.prog.info? 69).map (·.size) = some (cs x).size := by
  have : (Tryd.prog.info? 69).map (·.size) = some 5 := by kernel_rfl
  rw [this]; rfl
theorem zero_size (x : Sh.Ch) : (#[.int .u32 0, .int .u32 0, .int .u32 0, .int .u32 0, .int .u32 0] : Array Value).size = (cs x).size := rfl
theorem cs_one (x : Sh.Ch) : (cs x).all (·.oneCell') = true := by simp [cs, Value.oneCell']
theorem ws_one (l : List UInt32) : (ws l).all (·.oneCell') = true := by simp [ws, Value.oneCell']
theorem info29w (l : List UInt32) : (Tryd.prog.info? 72).map (·.size) = some (ws l).size := by rw [ws_size]; exact info29
theorem row_of {w : World} {g : Nat} {l : List UInt32} (h : w.heap[g]? = some (.cells (ws l) 72 (0, 0))) (j : Nat) (hj : j < 80) : w.cell? ⟨g, j, none⟩ = some (.int .u32 (tn (l.getD j 0))) := by
  rw [cell_of_row w g j _ _ _ h]; simp [ws, hj]

/-- the state of Press: the chain, the result's row, the words, the letters -/
structure Pr (w wr : World) (g : Nat) (c x : Sh.Ch) (W : List UInt32) : Prop where
  below : Below w.heap.size w wr
  lo : w.heap.size + 1 < g
  size : g + 1 < wr.heap.size
  ch : wr.heap[w.heap.size]? = some (.cells (cs c) 69 (0, 0))
  res : wr.heap[w.heap.size + 1]? = some (.cells (cs ⟨0, 0, 0, 0, 0⟩) 69 (0, 0))
  wd : wr.heap[g]? = some (.cells (ws W) 72 (0, 0))
  lt : wr.heap[g + 1]? = some (.cells (cs x) 69 (0, 0))
theorem Pr.step {w wr w1 : World} {g : Nat} {c x : Sh.Ch} {W : List UInt32} (h : Pr w wr g c x W) (hb : Below wr.heap.size wr.drew w1) (y : Sh.Ch) : Pr w (w1.setRow (g + 1) (cs y)) g c y W := by
  have hl := h.lo
  have hs := h.size
  have hsz : wr.heap.size ≤ w1.heap.size := hb.size
  refine ⟨below_setRow (h.below.drew.trans (hb.mono h.below.size)) (by omega) _, h.lo, by simpa using Nat.lt_of_lt_of_le hs hsz, ?_, ?_, ?_, ?_⟩
  · rw [setRow_other _ _ _ _ (by omega), hb.block _ (by omega)]; exact h.ch
  · rw [setRow_other _ _ _ _ (by omega), hb.block _ (by omega)]; exact h.res
  · rw [setRow_other _ _ _ _ (by omega), hb.block _ (by omega)]; exact h.wd
  · exact setRow_heap _ _ (cs x) _ _ _ (by rw [hb.block _ hs]; exact h.lt)
theorem cs_zero : (#[.int .u32 0, .int .u32 0, .int .u32 0, .int .u32 0, .int .u32 0] : Array Value) = cs ⟨0, 0, 0, 0, 0⟩ := by kernel_rfl
/-- behind Expand, and the two stores -/
theorem Pr.start {w w1 : World} (c : Sh.Ch) (W : List UInt32) (hb : Below (w.heap.size + 1 + 1) ((w.alloc (.cells (cs c) 69)).alloc (.cells #[.int .u32 0, .int .u32 0, .int .u32 0, .int .u32 0, .int .u32 0] 69)) w1) :
    Pr w ((((w1.alloc (.cells (ws []) 72)).setRow w1.heap.size (ws W)).alloc (.cells #[.int .u32 0, .int .u32 0, .int .u32 0, .int .u32 0, .int .u32 0] 69)).setRow (w1.heap.size + 1) (cs c)) w1.heap.size c c W := by
  have hsz := hb.size
  simp at hsz
  have hbw : Below w.heap.size w w1 := Below.trans (((Below.refl _ w).alloc (Nat.le_refl _) _).alloc (by simp) _) (hb.mono (by omega))
  have e1 : ((w1.alloc (.cells (ws []) 72)).setRow w1.heap.size (ws W)).heap.size = w1.heap.size + 1 := by simp
  have hnew := heap_alloc_new ((w1.alloc (.cells (ws []) 72)).setRow w1.heap.size (ws W)) (.cells #[.int .u32 0, .int .u32 0, .int .u32 0, .int .u32 0, .int .u32 0] 69)
  rw [e1] at hnew
  have hold : ∀ k, k ≤ w1.heap.size → (((w1.alloc (.cells (ws []) 72)).setRow w1.heap.size (ws W)).alloc (.cells #[.int .u32 0, .int .u32 0, .int .u32 0, .int .u32 0, .int .u32 0] 69)).heap[k]? = ((w1.alloc (.cells (ws []) 72)).setRow w1.heap.size (ws W)).heap[k]? := fun k hk => heap_alloc_old _ _ (by rw [e1]; omega)
  have hold2 : ∀ k, k < w1.heap.size → (((w1.alloc (.cells (ws []) 72)).setRow w1.heap.size (ws W)).alloc (.cells #[.int .u32 0, .int .u32 0, .int .u32 0, .int .u32 0, .int .u32 0] 69)).heap[k]? = w1.heap[k]? := fun k hk => by
    rw [hold k (by omega), setRow_other _ _ _ _ (by omega), heap_alloc_old _ _ hk]
  refine ⟨below_setRow (Below.alloc (below_setRow (hbw.alloc hbw.size _) hbw.size _) (by rw [e1]; have := hbw.size; omega) _) (by have := hbw.size; omega) _, by omega, by simp, ?_, ?_, ?_, ?_⟩
  · rw [setRow_other _ _ _ _ (by omega), hold2 _ (by omega), hb.block _ (by omega), heap_alloc2_old]
  · rw [setRow_other _ _ _ _ (by omega), hold2 _ (by omega), hb.block _ (by omega), heap_alloc2_new, cs_zero]
  · rw [setRow_other _ _ _ _ (by omega), hold _ (Nat.le_refl _)]
    exact setRow_heap _ _ (ws []) _ _ _ (heap_alloc_new _ _)
  · exact setRow_heap _ _ _ _ _ _ hnew

/-- a chain's word at a place -/
def fld (x : Sh.Ch) (j : Nat) : UInt32 := if j = 0 then x.a else if j = 1 then x.b else if j = 2 then x.c else if j = 3 then x.d else x.e
theorem cs_fld (x : Sh.Ch) (j : Nat) (h : j < 5) : (cs x)[j]? = some (.int .u32 (tn (fld x j))) := by
  match j, h with
  | 0, _ => rfl
  | 1, _ => rfl
  | 2, _ => rfl
  | 3, _ => rfl
  | 4, _ => rfl
theorem cs_sizes (x y : Sh.Ch) : (cs x).size = (cs y).size := rfl
theorem row_cs {w : World} {g : Nat} {x : Sh.Ch} (h : w.heap[g]? = some (.cells (cs x) 69 (0, 0))) : w.rowIs g 69 5 (fun j => .int .u32 (tn (fld x j))) := ⟨cs x, h, rfl, fun i hi => cs_fld x i hi⟩
theorem cs_row {w : World} {g : Nat} {x : Sh.Ch} (h : w.rowIs g 69 5 (fun j => .int .u32 (tn (fld x j)))) : w.heap[g]? = some (.cells (cs x) 69 (0, 0)) := by
  obtain ⟨c, hb, hn, hc⟩ := h
  rw [hb]
  congr 2
  apply Array.ext_getElem?
  intro i
  by_cases hi : i < 5
  · rw [hc i hi, cs_fld x i hi]
  · rw [Array.getElem?_eq_none (by omega), Array.getElem?_eq_none (by show 5 ≤ i; omega)]
theorem fld_add (c x : Sh.Ch) (j : Nat) : fld (Sh.add c x) j = fld c j + fld x j := by
  unfold fld Sh.add
  repeat' split
  all_goals rfl
/-- k words of the chain are the sums -/
structure Ad (w wr : World) (g : Nat) (c x : Sh.Ch) (k : Nat) : Prop where
  below : Below w.heap.size w wr
  lo : w.heap.size + 1 < g
  ch : wr.rowIs w.heap.size 69 5 (fun j => .int .u32 (tn (if j < k then fld c j + fld x j else fld c j)))
  res : wr.heap[w.heap.size + 1]? = some (.cells (cs ⟨0, 0, 0, 0, 0⟩) 69 (0, 0))
  lt : wr.rowIs (g + 1) 69 5 (fun j => .int .u32 (tn (fld x j)))
section
variable {w wr : World} {g k : Nat} {c x : Sh.Ch} {W : List UInt32}
theorem Pr.begin_ (h : Pr w wr g c x W) : Ad w wr g c x 0 := ⟨h.below, h.lo, (row_cs h.ch).congr fun j _ => by rw [if_neg (by omega)], h.res, row_cs h.lt⟩
theorem Ad.put (h : Ad w wr g c x k) (hk : k < 5) {y : UInt32} (hy : y = fld c k + fld x k) : Ad w (wr.setCell ⟨w.heap.size, k, none⟩ (.int .u32 (tn y))) g c x (k + 1) := by
  have hl := h.lo
  refine ⟨h.below.setCell (Nat.le_refl _) _, h.lo, (h.ch.set k _).congr fun j _ => ?_, ?_, h.lt.setOther (by show g + 1 ≠ w.heap.size; omega) _⟩
  · by_cases e : j = k
    · subst e; rw [if_pos rfl, if_pos (by omega), hy]
    · rw [if_neg e]
      by_cases hlt : j < k
      · rw [if_pos hlt, if_pos (by omega)]
      · rw [if_neg hlt, if_neg (by omega)]
  · rw [heap_setCell_other _ _ _ _ (by simp)]; exact h.res
theorem Ad.drew (h : Ad w wr g c x k) : Ad w wr.drew g c x k := ⟨h.below.drew, h.lo, h.ch, h.res, h.lt⟩
theorem Ad.done (h : Ad w wr g c x 5) : wr.heap[w.heap.size]? = some (.cells (cs (Sh.add c x)) 69 (0, 0)) :=
  cs_row (h.ch.congr fun j hj => by rw [if_pos hj, fld_add])
end

end Go.Proofs.YtmbbigmnliiadaaDoor.Hs
namespace Go.Proofs.YtmbbigmnliiadaaDoor.Hs
open Go.RowKit
set_option linter.unusedVariables false

/-- a slice of bytes of the call's own, wherever it lies by now, its array marked or not: it reads as l -/
def Bts (w : World) (B : Nat) (v : Value) (l : List UInt8) : Prop :=
  ∃ g cap, v = .slice (some ⟨g, 0, none⟩) l.length cap ∧ B ≤ g ∧ g < w.heap.size ∧ l.length ≤ cap ∧ (∀ j, j < l.length → w.cell? ⟨g, j, none⟩ = some (.int .u8 (l.getD j 0).toNat)) ∧
    ∀ j, j < cap → (w.cell? ⟨g, j, none⟩).isSome = true ∧ w.frozen? ⟨g, j, none⟩ = false
section
variable {P : Program} {w w' : World} {B : Nat} {v : Value} {l : List UInt8}
theorem Bts.below (h : Bts w B v l) (hb : Below w.heap.size w w') : Bts w' B v l := by
  obtain ⟨g, cap, hv, h1, h2, h3, h4, h5⟩ := h
  exact ⟨g, cap, hv, h1, Nat.lt_of_lt_of_le h2 hb.size, h3, fun j hj => by rw [hb.cell (p := ⟨g, j, none⟩) h2]; exact h4 j hj, fun j hj => by rw [hb.cell (p := ⟨g, j, none⟩) h2, hb.frozen (p := ⟨g, j, none⟩) h2]; exact h5 j hj⟩
theorem Bts.alloc (h : Bts w B v l) (o : Obj) : Bts (w.alloc o) B v l := h.below ((Below.refl _ w).alloc (Nat.le_refl _) _)
theorem Bts.of_own {base n : Nat} (h : w.ownsRow base 5 1 v n (l.map fun c => .int .u8 c.toNat)) (hB : B ≤ base) (hl : l ≠ []) : Bts w B v l := by
  have hn : l.length = n := by have := h.1; simp at this; omega
  subst hn
  rcases h.2 with ⟨rfl, h0⟩ | ⟨g, cap, cur, rfl, hb, hg, hle, hm, hsz, htk⟩
  · exact absurd (List.eq_nil_of_length_eq_zero h0) hl
  · refine ⟨g, cap, rfl, Nat.le_trans hB hb, (Array.getElem?_eq_some_iff.1 hg).1, hle, fun j hj => ?_, fun j hj => ?_⟩
    · have := h.cells (g := g) rfl j (.int .u8 (l.getD j 0).toNat) (by simp [List.getD, List.getElem?_eq_getElem hj])
      rwa [show (⟨g, 0, none⟩ : Addr).add j = ⟨g, j, none⟩ by unfold Addr.add; split <;> simp_all] at this
    · rw [cell_of_row w g j cur 5 (0, 0) hg, frozen_of_row w g j cur 5 hg]
      refine ⟨?_, rfl⟩
      rw [Array.getElem?_eq_getElem (by omega)]; rfl
theorem add_zero_of (g j : Nat) : (⟨g, 0, none⟩ : Addr).add j = ⟨g, j, none⟩ := by unfold Addr.add; split <;> simp_all
theorem getD_snoc8 (l : List UInt8) (c : UInt8) (j : Nat) (h : j < l.length) : (l ++ [c]).getD j 0 = l.getD j 0 := by simp [List.getD, List.getElem?_append_left h]

/-- one byte more -/
theorem run_append_bts (t ty : TypeId) (i : TypeInfo) (ht : P.underlying t = some (.slice 5)) (hi : P.info? 5 = some i) (hz : i.zero = some (.int .u8 0)) (hs : i.size = 1) (hby : i.bytes = 1)
    (h : Bts w B v l) (hB : B ≤ w.heap.size) (c : UInt8) (x : Int) (hx : x = c.toNat) (hl : l.length + 1 ≤ 1000000) (ad : Addr) (hc : w.cell? ad = some (.int .u8 x)) (m : Nat) :
    ∃ v' w', (Builtin.append_ #[t, t] ty #[v, .slice (some ad) 1 m]).run P w = .ok v' w' ∧ Bts w' B v' (l ++ [c]) ∧ Below B w w' := by
  subst hx
  have hnews : ∀ (j : Nat) (u : Value), [Value.int .u8 c.toNat][j]? = some u → w.cell? (ad.add j) = some u := fun j u hu => by
    have hj : j = 0 := by
      rcases Nat.eq_zero_or_pos j with h0 | h0
      · exact h0
      · rw [List.getElem?_eq_none (by simp; omega)] at hu; cases hu
    subst hj
    simp at hu
    subst hu
    exact hc
  obtain ⟨g, cap, rfl, h1, h2, h3, h4, h5⟩ := h
  by_cases hroom : l.length + 1 ≤ cap
  · have hr := run_append_room_cells (P := P) w t ty 5 i ht hi g 0 l.length cap ad 1 m [.int .u8 c.toNat] (by simp [hs]) hnews (by simp [Value.oneCell']) hroom
      (fun j hj => by simp at hj; subst hj; simp [hs]; exact (h5 l.length (by omega)).1) (fun j hj => by simp at hj; subst hj; simp [hs]; exact (h5 l.length (by omega)).2)
    have hset : w.setCells g (0 + l.length * i.size) [.int .u8 c.toNat] = w.setCell ⟨g, l.length, none⟩ (.int .u8 c.toNat) := by simp [hs, World.setCells]
    rw [hset] at hr
    refine ⟨_, _, hr, ?_, (Below.refl _ w).setCell h1 _⟩
    refine ⟨g, cap, by simp, h1, by simpa using h2, by simpa using hroom, fun j hj => ?_, fun j hj => ?_⟩
    · simp at hj
      by_cases e : j = l.length
      · subst e
        have hsome := (h5 l.length (by omega)).1
        rw [World.cell?_setCell_same' _ _ _ hsome]
        simp
      · rw [World.cell?_setCell_other _ _ _ _ (fun e' => by injection e' with _ e'; exact e e'.symm), h4 j (by omega), getD_snoc8 _ _ _ (by omega)]
    · refine ⟨?_, by simpa using (h5 j hj).2⟩
      by_cases e : j = l.length
      · subst e
        rw [World.cell?_setCell_same' _ _ _ (h5 l.length hj).1]; rfl
      · rw [World.cell?_setCell_other _ _ _ _ (fun e' => by injection e' with _ e'; exact e e'.symm)]
        exact (h5 j hj).1
  · have hr := run_append_arg_grows (P := P) w t ty 5 i (.int .u8 0) 1 1 ht hi hz hs hby rfl (by omega) ⟨g, 0, none⟩ l.length cap (l.map fun c => .int .u8 c.toNat) (by simp)
      (fun j u hu => by
        have hj : j < l.length := by
          rcases Nat.lt_or_ge j l.length with hlt | hge
          · exact hlt
          · rw [List.getElem?_eq_none (by simpa using hge)] at hu; cases hu
        rw [add_zero_of, h4 j hj, ← hu]
        simp [List.getD, List.getElem?_eq_getElem hj]) ad 1 m [.int .u8 c.toNat] rfl hnews (by omega) (by unfold maxLen; omega) (by omega)
    obtain ⟨v', w', hrun, hown, hg⟩ := hr
    refine ⟨v', w', hrun, ?_, (Below.refl _ w).grown hg hB (fun k hk => by cases hk)⟩
    refine Bts.of_own (base := w.heap.size) (n := l.length + 1) ?_ hB (by simp)
    simpa using hown
/-- .. at the operation, for the walk -/
theorem wpList_append_bts {ops : Array Oper} {rest : List Oper} {o : Oper} {a : Act} {Q : Exit → Act → World → Prop} (hgd : o.guard = none) (s x : Operand) (t : TypeId)
    (ho : o.op = .call { callee := .builtin .append, args := #[s, x], argTypes := #[t, t] }) (i : TypeInfo) (ht : P.underlying t = some (.slice 5)) (hi : P.info? 5 = some i) (hz : i.zero = some (.int .u8 0)) (hs : i.size = 1) (hby : i.bytes = 1)
    (hv : a.eval s = v) (h : Bts w B v l) (hB : B ≤ w.heap.size) (c : UInt8) (y : Int) (hy : y = c.toNat) (hl : l.length + 1 ≤ 1000000) (ad : Addr) (m : Nat) (hx : a.eval x = .slice (some ad) 1 m) (hc : w.cell? ad = some (.int .u8 y))
    (hK : ∀ v' w', Bts w' B v' (l ++ [c]) → Below B w w' → wpList P ops Q rest (a.put o.dst v') w') : wpList P ops Q (o :: rest) a w := by
  refine wpList_plain hgd fun K hK' => ?_
  obtain ⟨v', w', hrun, h1, h2⟩ := run_append_bts (P := P) t o.type i ht hi hz hs hby h hB c y hy hl ad hc m
  unfold Oper.wp
  simp [execOp, ho, resolve, invoke, builtin, hv, hx, hrun, Result.andThen]
  exact hK' _ _ (hK v' w' h1 h2)
/-- what '[]byte(s)' lays -/
theorem bts_of_string (w : World) (s : ByteArray) (hc : s.size ≤ 1000000) : Bts (w.drew.alloc (.cells (bytesRow s (grownCap w s.size 0 5)) 5 ((bytesRow s (grownCap w s.size 0 5)).size, (bytesRow s (grownCap w s.size 0 5)).size + 1))) w.heap.size
    (.slice (some ⟨w.heap.size, 0, none⟩) s.size (grownCap w s.size 0 5)) s.data.toList := by
  have hge := grownCap_ge w s.size 0 5
  have hsz : (bytesRow s (grownCap w s.size 0 5)).size = grownCap w s.size 0 5 := by simp [bytesRow]; have : s.data.size = s.size := rfl; omega
  have hh : (w.drew.alloc (.cells (bytesRow s (grownCap w s.size 0 5)) 5 ((bytesRow s (grownCap w s.size 0 5)).size, (bytesRow s (grownCap w s.size 0 5)).size + 1))).heap[w.heap.size]? = some (.cells (bytesRow s (grownCap w s.size 0 5)) 5 ((bytesRow s (grownCap w s.size 0 5)).size, (bytesRow s (grownCap w s.size 0 5)).size + 1)) := heap_alloc_new w.drew _
  refine ⟨w.heap.size, grownCap w s.size 0 5, by simp, Nat.le_refl _, by simp, by simpa using hge, fun j hj => ?_, fun j hj => ?_⟩
  · rw [cell_of_row _ _ j _ _ _ hh]
    have hj' : j < s.data.size := by simpa using hj
    simp only [bytesRow]
    rw [Array.getElem?_append_left (by simpa using hj'), Array.getElem?_map, Array.getElem?_eq_getElem hj', List.getD_eq_getElem?_getD, List.getElem?_eq_getElem (by simpa using hj')]
    simp
  · rw [cell_of_row _ _ j _ _ _ hh]
    refine ⟨by rw [Array.getElem?_eq_getElem (by omega)]; rfl, ?_⟩
    generalize hW : (w.drew.alloc (.cells (bytesRow s (grownCap w s.size 0 5)) 5 ((bytesRow s (grownCap w s.size 0 5)).size, (bytesRow s (grownCap w s.size 0 5)).size + 1))) = W at hh ⊢
    unfold World.frozen?
    rw [hh]
    simp
    omega
theorem bts_string {v : Value} {l : List UInt8} (src dst : TypeId) (hs : P.underlying src = some (.slice 5)) (he : P.underlying 5 = some (.int .u8)) (hd : P.underlying dst = some .string) (h : Bts w B v l) :
    (convert src dst v).run P w = .ok (.string ⟨l.toArray⟩) w := by
  obtain ⟨g, cap, rfl, h1, h2, h3, h4, h5⟩ := h
  rw [run_convert_bytes_arg w src 5 hs he g 0 l.length cap (l.map fun c => (c.toNat : Int)) (by simp) (fun i hi => by
    rw [Nat.zero_add, h4 i hi]
    simp [List.getD, List.getElem?_eq_getElem hi]) dst hd]
  simp [strOfNums, Function.comp_def]
theorem bts_len {v : Value} {l : List UInt8} (h : Bts w B v l) : ∃ A cap, v = .slice A l.length cap := by
  obtain ⟨g, cap, rfl, _⟩ := h
  exact ⟨_, _, rfl⟩
end
end Go.Proofs.YtmbbigmnliiadaaDoor.Hs
namespace Go.Proofs.YtmbbigmnliiadaaDoor.Hs
open Go.RowKit
set_option linter.unusedVariables false

namespace Sh
/-- how many noughts fill up -/
def nought (n : Nat) : Nat := (119 - n % 64) % 64
/-- the byte i of a number, the lowest is 0 -/
def byteOf (n i : Nat) : UInt8 := UInt8.ofNat (n / 2 ^ (8 * i) % 256)
/-- the bytes from the highest on, but for the k lowest -/
def highs (n : Nat) : Nat → List UInt8
  | 0 => []
  | j + 1 => highs n j ++ [byteOf n (7 - j)]
def pad (l : List UInt8) (k : Nat) : List UInt8 := l ++ [128] ++ List.replicate k 0
def fill (l : List UInt8) : List UInt8 := pad l (nought l.length) ++ highs (l.length * 8) 8
theorem pad_length (l : List UInt8) (k : Nat) : (pad l k).length = l.length + 1 + k := by simp [pad]; omega
theorem pad_succ (l : List UInt8) (k : Nat) : pad l (k + 1) = pad l k ++ [0] := by simp [pad, List.replicate_succ']
theorem highs_length (n j : Nat) : (highs n j).length = j := by
  induction j with
  | zero => rfl
  | succ j ih => simp [highs, ih]
end Sh

theorem info5 : (Tryd.prog.info? 5).map (fun i => (i.zero, i.size, i.bytes)) = some (some (.int .u8 0), 1, 1) := by kernel_rfl

theorem byte_of (n j : Nat) : (n : Int) * 8 / 2 ^ (8 * j) % 256 = ((Sh.byteOf (n * 8) j).toNat : Int) := by
  rw [Sh.byteOf, UInt8.toNat_ofNat', Nat.mod_eq_of_lt (show n * 8 / 2 ^ (8 * j) % 256 < 2 ^ 8 from Nat.mod_lt _ (by omega))]
  have h : (((2 : Nat) ^ (8 * j) : Nat) : Int) = (2 : Int) ^ (8 * j) := by simp
  rw [← h, Int.natCast_emod, Int.natCast_ediv, Int.natCast_mul]
  rfl

end Go.Proofs.YtmbbigmnliiadaaDoor.Hs
namespace Go.Proofs.YtmbbigmnliiadaaDoor.Hs
open Go.RowKit
set_option linter.unusedVariables false
attribute [local go_sem] t_and t_or t_xor t_not t_add t_sub t_add_wrap t_sub_wrap

namespace Sh
/-- the chain behind k blocks -/
def chain (f : List UInt8) : Nat → Ch
  | 0 => first
  | k + 1 => press (chain f k) ((f.drop (64 * k)).take 64)
/-- a word's bytes, the highest first -/
def be4 (x : UInt32) : List UInt8 := [UInt8.ofNat (x.toNat / 16777216 % 256), UInt8.ofNat (x.toNat / 65536 % 256), UInt8.ofNat (x.toNat / 256 % 256), UInt8.ofNat (x.toNat % 256)]
def told (x : Ch) : Nat → List UInt8
  | 0 => []
  | k + 1 => told x k ++ be4 (fld x k)
def sum (l : List UInt8) : List UInt8 := told (chain (fill l) ((fill l).length / 64)) 5
theorem fill_length (l : List UInt8) : (fill l).length % 64 = 0 := by
  rw [fill, List.length_append, pad_length, highs_length]
  unfold nought
  omega
theorem told_length (x : Ch) (k : Nat) : (told x k).length = 4 * k := by
  induction k with
  | zero => rfl
  | succ k ih => simp [told, ih, be4]; omega
end Sh

theorem be4_parts (x : UInt32) : ∃ b0 b1 b2 b3 : UInt8, Sh.be4 x = [b0, b1, b2, b3] ∧ IntKind.u8.wrap (tn x / 16777216) = (b0.toNat : Int) ∧ IntKind.u8.wrap (tn x / 65536) = (b1.toNat : Int) ∧ IntKind.u8.wrap (tn x / 256) = (b2.toNat : Int) ∧ IntKind.u8.wrap (tn x) = (b3.toNat : Int) := by
  have hx := w_lt x
  have hw : ∀ n : Nat, IntKind.u8.wrap (n : Int) = ((UInt8.ofNat (n % 256)).toNat : Int) := fun n => by
    rw [UInt8.toNat_ofNat', Nat.mod_eq_of_lt (show n % 256 < 2 ^ 8 from Nat.mod_lt _ (by omega))]
    simp [IntKind.wrap, IntKind.bits, IntKind.signed]
  refine ⟨_, _, _, _, rfl, ?_, ?_, ?_, ?_⟩
  · rw [← hw]; rfl
  · rw [← hw]; rfl
  · rw [← hw]; rfl
  · rw [← hw]; rfl
theorem grown_cell {w w' : World} {row : Option Nat} (h : w.grownBy w' row) {p : Addr} (hp : p.block < w.heap.size) (hne : row ≠ some p.block) : w'.cell? p = w.cell? p :=
  World.cell?_of_block (h.block p.block hp (fun e => hne e.symm))

/-- the state of Sum's loop: the chain's row -/
structure Su (w wr : World) (g : Nat) (x : Sh.Ch) : Prop where
  below : Below w.heap.size w wr
  lo : w.heap.size ≤ g
  row : wr.heap[g]? = some (.cells (cs x) 69 (0, 0))
theorem Su.lt {w wr : World} {g : Nat} {x : Sh.Ch} (h : Su w wr g x) : g < wr.heap.size := (Array.getElem?_eq_some_iff.1 h.row).1
theorem Su.step {w wr w1 : World} {g : Nat} {x : Sh.Ch} (h : Su w wr g x) (hb : Below wr.heap.size wr.drew w1) (y : Sh.Ch) : Su w (w1.setRow g (cs y)) g y :=
  ⟨below_setRow (h.below.drew.trans (hb.mono h.below.size)) h.lo _, h.lo, setRow_heap _ _ (cs x) _ _ _ (by rw [hb.block _ h.lt]; exact h.row)⟩

theorem own_text {w : World} {base n : Nat} {v : Value} {l : List UInt8} (h : w.ownsRow base 5 1 v n (l.map fun c => .int .u8 c.toNat)) : (convert 41 9 v).run Tryd.prog w = .ok (.string ⟨l.toArray⟩) w := by
  cases hl : l with
  | nil =>
    subst hl
    have hn : n = 0 := by have := h.1; simp at this; omega
    subst hn
    rcases h.2 with ⟨rfl, _⟩ | ⟨g, cap, cur, rfl, _, _⟩
    · exact run_convert_bytes_nil w 41 5 Tryd.underlying41 Tryd.underlying5 0 0 9 Tryd.underlying9
    · rw [run_convert_bytes_arg w 41 5 Tryd.underlying41 Tryd.underlying5 g 0 0 cap [] rfl (fun i hi => by omega) 9 Tryd.underlying9]; rfl
  | cons a r =>
    rw [← hl]
    exact bts_string (B := base) 41 9 Tryd.underlying41 Tryd.underlying5 Tryd.underlying9 (Bts.of_own h (Nat.le_refl _) (by rw [hl]; simp))

end Go.Proofs.YtmbbigmnliiadaaDoor.Hs
