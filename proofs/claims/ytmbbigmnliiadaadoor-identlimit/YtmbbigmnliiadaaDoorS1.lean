/-
  SHA-256 as Lean functions; rows of 64 words and of 8; contracts of the document's turn and keys (layer 3).
  What the contract of the document's Sum (layer 3) is made of: rows of eight words, the states between its steps.
-/
import Derived.Test.YtmbbigmnliiadaaDoorH1
import Derived.StillTailTactics
import Derived.Laws.Tables
import Derived.IntWalk
import Derived.BigRegion
import Derived.Deep.AppendLies
namespace Go.Proofs.YtmbbigmnliiadaaDoor.Hs
open Go.RowKit
set_option linter.unusedVariables false
attribute [local go_sem] t_and t_or t_xor t_not t_add t_sub t_add_wrap t_sub_wrap

namespace S2
def turn (x : UInt32) (n : Nat) : UInt32 := (x >>> UInt32.ofNat n) ||| (x <<< UInt32.ofNat (32 - n))
def keys : List UInt32 := [0x428a2f98, 0x71374491, 0xb5c0fbcf, 0xe9b5dba5, 0x3956c25b, 0x59f111f1, 0x923f82a4, 0xab1c5ed5, 0xd807aa98, 0x12835b01, 0x243185be, 0x550c7dc3, 0x72be5d74, 0x80deb1fe, 0x9bdc06a7, 0xc19bf174, 0xe49b69c1, 0xefbe4786, 0x0fc19dc6, 0x240ca1cc, 0x2de92c6f, 0x4a7484aa, 0x5cb0a9dc, 0x76f988da, 0x983e5152, 0xa831c66d, 0xb00327c8, 0xbf597fc7, 0xc6e00bf3, 0xd5a79147, 0x06ca6351, 0x14292967, 0x27b70a85, 0x2e1b2138, 0x4d2c6dfc, 0x53380d13, 0x650a7354, 0x766a0abb, 0x81c2c92e, 0x92722c85, 0xa2bfe8a1, 0xa81a664b, 0xc24b8b70, 0xc76c51a3, 0xd192e819, 0xd6990624, 0xf40e3585, 0x106aa070, 0x19a4c116, 0x1e376c08, 0x2748774c, 0x34b0bcb5, 0x391c0cb3, 0x4ed8aa4a, 0x5b9cca4f, 0x682e6ff3, 0x748f82ee, 0x78a5636f, 0x84c87814, 0x8cc70208, 0x90befffa, 0xa4506ceb, 0xbef9a3f7, 0xc67178f2]
/-- a chain: eight words -/
structure Ch where
  a : UInt32
  b : UInt32
  c : UInt32
  d : UInt32
  e : UInt32
  f : UInt32
  g : UInt32
  h : UInt32
def first : Ch := ⟨0x6a09e667, 0xbb67ae85, 0x3c6ef372, 0xa54ff53a, 0x510e527f, 0x9b05688c, 0x1f83d9ab, 0x5be0cd19⟩
def word (l : List UInt8) (t : Nat) : UInt32 := Sh.byteOr l (4 * t) * 16777216 + Sh.byteOr l (4 * t + 1) * 65536 + Sh.byteOr l (4 * t + 2) * 256 + Sh.byteOr l (4 * t + 3)
def s0 (x : UInt32) : UInt32 := turn x 7 ^^^ turn x 18 ^^^ (x >>> 3)
def s1 (x : UInt32) : UInt32 := turn x 17 ^^^ turn x 19 ^^^ (x >>> 10)
/-- the words of a block, up to t of them -/
def wordsTo (l : List UInt8) : Nat → List UInt32
  | 0 => []
  | t + 1 => wordsTo l t ++ [if t < 16 then word l t else (wordsTo l t).getD (t - 16) 0 + s0 ((wordsTo l t).getD (t - 15) 0) + (wordsTo l t).getD (t - 7) 0 + s1 ((wordsTo l t).getD (t - 2) 0)]
def one (x : Ch) (k w : UInt32) : UInt32 := x.h + (turn x.e 6 ^^^ turn x.e 11 ^^^ turn x.e 25) + ((x.e &&& x.f) ^^^ (~~~x.e &&& x.g)) + k + w
def two (x : Ch) : UInt32 := (turn x.a 2 ^^^ turn x.a 13 ^^^ turn x.a 22) + ((x.a &&& x.b) ^^^ (x.a &&& x.c) ^^^ (x.b &&& x.c))
def step (x : Ch) (k w : UInt32) : Ch := ⟨one x k w + two x, x.a, x.b, x.c, x.d + one x k w, x.e, x.f, x.g⟩
def stepsTo (l : List UInt32) (x : Ch) : Nat → Ch
  | 0 => x
  | t + 1 => step (stepsTo l x t) (keys.getD t 0) (l.getD t 0)
def add (x y : Ch) : Ch := ⟨x.a + y.a, x.b + y.b, x.c + y.c, x.d + y.d, x.e + y.e, x.f + y.f, x.g + y.g, x.h + y.h⟩
def press (x : Ch) (l : List UInt8) : Ch := add x (stepsTo (wordsTo l 64) x 64)
/-- the chain behind k blocks -/
def chain (f : List UInt8) : Nat → Ch
  | 0 => first
  | k + 1 => press (chain f k) ((f.drop (64 * k)).take 64)
def fld (x : Ch) : Nat → UInt32
  | 0 => x.a
  | 1 => x.b
  | 2 => x.c
  | 3 => x.d
  | 4 => x.e
  | 5 => x.f
  | 6 => x.g
  | _ => x.h
/-- a word's bytes, the highest first -/
def be4 (x : UInt32) : List UInt8 := [UInt8.ofNat (x.toNat / 16777216 % 256), UInt8.ofNat (x.toNat / 65536 % 256), UInt8.ofNat (x.toNat / 256 % 256), UInt8.ofNat (x.toNat % 256)]
def told (x : Ch) : Nat → List UInt8
  | 0 => []
  | k + 1 => told x k ++ be4 (fld x k)
def sum (l : List UInt8) : List UInt8 := told (chain (Sh.fill l) ((Sh.fill l).length / 64)) 8
theorem fill_length (l : List UInt8) : (Sh.fill l).length % 64 = 0 := by
  rw [Sh.fill, List.length_append, Sh.pad_length, Sh.highs_length]
  unfold Sh.nought
  omega
theorem told_length (x : Ch) (k : Nat) : (told x k).length = 4 * k := by
  induction k with
  | zero => rfl
  | succ k ih => simp [told, ih, be4]; omega
theorem wordsTo_length (l : List UInt8) (t : Nat) : (wordsTo l t).length = t := by
  induction t with
  | zero => rfl
  | succ t ih => simp [wordsTo, ih]
theorem fld_add (x y : Ch) (j : Nat) : fld (add x y) j = fld x j + fld y j := by
  match j with
  | 0 => rfl
  | 1 => rfl
  | 2 => rfl
  | 3 => rfl
  | 4 => rfl
  | 5 => rfl
  | 6 => rfl
  | _ + 7 => rfl
end S2

theorem sum2_abc : S2.sum [97, 98, 99] = [186, 120, 22, 191, 143, 1, 207, 234, 65, 65, 64, 222, 93, 174, 34, 35, 176, 3, 97, 163, 150, 23, 122, 156, 180, 16, 255, 97, 242, 0, 21, 173] := by kernel_rfl

/-- sixty-four words as cells -/
def w64 (l : List UInt32) : Array Value := ((List.range 64).map fun j => .int .u32 (tn (l.getD j 0))).toArray
theorem w64_size (l : List UInt32) : (w64 l).size = 64 := by simp [w64]
theorem w64_one (l : List UInt32) : (w64 l).all (·.oneCell') = true := by simp [w64, Value.oneCell']
theorem w64_get (l : List UInt32) (t : Nat) (h : t < 64) : (w64 l)[t]? = some (.int .u32 (tn (l.getD t 0))) := by simp [w64, h]

theorem zv64 (w : World) : (zeroValue 119).run Tryd.prog w = .ok (.agg (w64 [])) w := by kernel_rfl

theorem info64 (l : List UInt32) : (Tryd.prog.info? 119).map (·.size) = some (w64 l).size := by rw [w64_size]; kernel_rfl

theorem wpList_built3 {P : Program} {ops : Array Oper} {rest : List Oper} {o : Oper} {a : Act} {w : World} {Q : Exit → Act → World → Prop} (hg : o.guard = none) (t : TypeId) (parts : Array (Nat × Operand)) (ho : o.op = .build t parts) (cells : Array Value)
    (hc : P.built t (parts.map fun (i, x) => (i, a.eval x)).toList = some cells) (h : wpList P ops Q rest (a.put o.dst (.agg cells)) w) : wpList P ops Q (o :: rest) a w :=
  wpList_build hg t parts ho (by rw [hc]; rfl) (by rw [hc]; exact h)

theorem below_row {B g : Nat} {a w : World} (h : Below B a w) (hg : B ≤ g) (c : Array Value) : Below B a (w.setRow g c) :=
  ⟨h.os, h.tape, h.output, by simpa using h.size, fun i hi => (setRow_other _ _ _ _ (by omega)).trans (h.block i hi)⟩

end Go.Proofs.YtmbbigmnliiadaaDoor.Hs
namespace Go.Proofs.YtmbbigmnliiadaaDoor.Hs
open Go.RowKit
set_option linter.unusedVariables false
attribute [local go_sem] t_and t_or t_xor t_not t_add t_sub t_add_wrap t_sub_wrap

/-- a chain of eight words as cells -/
def c8 (x : S2.Ch) : Array Value := #[.int .u32 (tn x.a), .int .u32 (tn x.b), .int .u32 (tn x.c), .int .u32 (tn x.d), .int .u32 (tn x.e), .int .u32 (tn x.f), .int .u32 (tn x.g), .int .u32 (tn x.h)]
theorem c8_get (x : S2.Ch) (k : Nat) (h : k < 8) : (c8 x)[k]? = some (.int .u32 (tn (S2.fld x k))) := by
  rcases (by omega : k = 0 ∨ k = 1 ∨ k = 2 ∨ k = 3 ∨ k = 4 ∨ k = 5 ∨ k = 6 ∨ k = 7) with rfl | rfl | rfl | rfl | rfl | rfl | rfl | rfl <;> rfl
theorem c8_one (x : S2.Ch) : (c8 x).all (·.oneCell') = true := by simp [c8, Value.oneCell']
theorem getD_end (l : List UInt32) (x : UInt32) (t : Nat) (ht : l.length = t) (j : Nat) : (l ++ [x]).getD j 0 = if j = t then x else l.getD j 0 := by
  subst ht
  by_cases h : j = l.length
  · subst h; simp
  · rw [if_neg h]
    by_cases hlt : j < l.length
    · simp [List.getD, List.getElem?_append_left hlt]
    · rw [List.getD_eq_getElem?_getD, List.getElem?_eq_none (by simp; omega), List.getD_eq_getElem?_getD, List.getElem?_eq_none (by omega)]

/-- the state of Sum: the keys' row, the chain's row -/
structure Sm (w wr : World) (gk gx : Nat) (x : S2.Ch) : Prop where
  below : Below w.heap.size w wr
  lok : w.heap.size ≤ gk
  lox : w.heap.size ≤ gx
  ne : gk ≠ gx
  kr : wr.heap[gk]? = some (.cells (w64 S2.keys) 119 (0, 0))
  xr : wr.heap[gx]? = some (.cells (c8 x) 86 (0, 0))
section
variable {w wr w1 : World} {gk gx gw gy : Nat} {x y : S2.Ch} {l : List UInt32} {t i : Nat}
theorem Sm.drew (h : Sm w wr gk gx x) : Sm w wr.drew gk gx x := ⟨h.below.drew, h.lok, h.lox, h.ne, h.kr, h.xr⟩
theorem Sm.ltk (h : Sm w wr gk gx x) : gk < wr.heap.size := (Array.getElem?_eq_some_iff.1 h.kr).1
theorem Sm.ltx (h : Sm w wr gk gx x) : gx < wr.heap.size := (Array.getElem?_eq_some_iff.1 h.xr).1
theorem Sm.alloc (h : Sm w wr gk gx x) (o : Obj) : Sm w (wr.alloc o) gk gx x :=
  ⟨h.below.alloc h.below.size _, h.lok, h.lox, h.ne, (Below.heap_alloc _ _ _ h.ltk).trans h.kr, (Below.heap_alloc _ _ _ h.ltx).trans h.xr⟩
theorem Sm.key (h : Sm w wr gk gx x) {j : Nat} (hj : j < 64) : wr.cell? ⟨gk, j, none⟩ = some (.int .u32 (tn (S2.keys.getD j 0))) := by rw [cell_of_row _ _ j _ _ _ h.kr]; exact w64_get _ j hj
theorem Sm.fld (h : Sm w wr gk gx x) {j : Nat} (hj : j < 8) : wr.cell? ⟨gx, j, none⟩ = some (.int .u32 (tn (S2.fld x j))) := by rw [cell_of_row _ _ j _ _ _ h.xr]; exact c8_get x j hj

/-- .. and a row of words behind -/
structure Sw (w wr : World) (gk gx gw : Nat) (x : S2.Ch) (l : List UInt32) : Prop extends Sm w wr gk gx x where
  low : w.heap.size ≤ gw
  nwk : gw ≠ gk
  nwx : gw ≠ gx
  row : wr.rowIs gw 119 64 (fun j => .int .u32 (tn (l.getD j 0)))
theorem Sw.drew (h : Sw w wr gk gx gw x l) : Sw w wr.drew gk gx gw x l := ⟨h.toSm.drew, h.low, h.nwk, h.nwx, h.row⟩
theorem Sw.start (h : Sm w wr gk gx x) : Sw w (wr.alloc (.cells (w64 []) 119)) gk gx wr.heap.size x [] := by
  refine ⟨h.alloc _, h.below.size, fun e => by have := h.ltk; omega, fun e => by have := h.ltx; omega, ?_⟩
  have hr := World.rowIs_alloc wr (w64 []) 119 (fun j => .int .u32 (tn (([] : List UInt32).getD j 0))) (fun i hi => by rw [w64_size] at hi; exact w64_get [] i hi)
  rwa [w64_size] at hr
theorem Sw.put (h : Sw w wr gk gx gw x l) (hl : l.length = t) (ht : t < 64) (v : UInt32) : Sw w (wr.setCell ⟨gw, t, none⟩ (.int .u32 (tn v))) gk gx gw x (l ++ [v]) := by
  refine ⟨⟨h.below.setCell h.low _, h.lok, h.lox, h.ne, (heap_setCell_other _ _ _ _ (fun e => h.nwk e.symm)).trans h.kr, (heap_setCell_other _ _ _ _ (fun e => h.nwx e.symm)).trans h.xr⟩, h.low, h.nwk, h.nwx, ?_⟩
  refine (h.row.set t _).congr fun j _ => ?_
  rw [getD_end l v t hl]
  split <;> rfl
theorem Sw.at_ (h : Sw w wr gk gx gw x l) {j : Nat} (hj : j < 64) : wr.cell? ⟨gw, j, none⟩ = some (.int .u32 (tn (l.getD j 0))) := h.row.cell hj

/-- .. while the letters are added: i of them are -/
structure Sa (w wr : World) (gk gx gy : Nat) (x y : S2.Ch) (i : Nat) : Prop where
  below : Below w.heap.size w wr
  lok : w.heap.size ≤ gk
  lox : w.heap.size ≤ gx
  ne : gk ≠ gx
  nyx : gy ≠ gx
  kr : wr.heap[gk]? = some (.cells (w64 S2.keys) 119 (0, 0))
  yr : wr.heap[gy]? = some (.cells (c8 y) 86 (0, 0))
  row : wr.rowIs gx 86 8 (fun j => .int .u32 (tn (if j < i then S2.fld (S2.add x y) j else S2.fld x j)))
theorem Sa.start (h : Sm w wr gk gx x) (y : S2.Ch) : Sa w (wr.alloc (.cells (c8 y) 86)) gk gx wr.heap.size x y 0 := by
  have h2 := h.alloc (.cells (c8 y) 86)
  exact ⟨h2.below, h.lok, h.lox, h.ne, fun e => by have := h.ltx; omega, h2.kr, heap_alloc_new _ _, ⟨c8 x, h2.xr, rfl, fun j hj => by rw [c8_get x j hj]; show _ = some (Value.int .u32 (tn (if j < 0 then _ else _))); rw [if_neg (Nat.not_lt_zero _)]⟩⟩
theorem Sa.put (h : Sa w wr gk gx gy x y i) (hi : i < 8) {v : UInt32} (hv : v = S2.fld x i + S2.fld y i) : Sa w (wr.setCell ⟨gx, i, none⟩ (.int .u32 (tn v))) gk gx gy x y (i + 1) := by
  refine ⟨h.below.setCell h.lox _, h.lok, h.lox, h.ne, h.nyx, (heap_setCell_other _ _ _ _ h.ne).trans h.kr, (heap_setCell_other _ _ _ _ h.nyx).trans h.yr, ?_⟩
  refine (h.row.set i _).congr fun j _ => ?_
  by_cases e : j = i
  · subst e
    rw [if_pos rfl, if_pos (Nat.lt_succ_self _), S2.fld_add, hv]
  · rw [if_neg e]
    by_cases h1 : j < i
    · rw [if_pos h1, if_pos (by omega)]
    · rw [if_neg h1, if_neg (by omega)]
theorem Sa.drew (h : Sa w wr gk gx gy x y i) : Sa w wr.drew gk gx gy x y i := ⟨h.below.drew, h.lok, h.lox, h.ne, h.nyx, h.kr, h.yr, h.row⟩
theorem Sa.done (h : Sa w wr gk gx gy x y 8) : Sm w wr gk gx (S2.add x y) := by
  refine ⟨h.below, h.lok, h.lox, h.ne, h.kr, ?_⟩
  obtain ⟨c, hb, hn, hc⟩ := h.row
  rw [hb]
  congr 2
  apply Array.ext_getElem?
  intro j
  by_cases hj : j < 8
  · rw [hc j hj, c8_get _ j hj]; show some (Value.int .u32 (tn (if j < 8 then _ else _))) = _; rw [if_pos hj]
  · rw [Array.getElem?_eq_none (by omega), Array.getElem?_eq_none (by show 8 ≤ j; omega)]
end
theorem c8_first : c8 S2.first = #[.int .u32 1779033703, .int .u32 3144134277, .int .u32 1013904242, .int .u32 2773480762, .int .u32 1359893119, .int .u32 2600822924, .int .u32 528734635, .int .u32 1541459225] := by kernel_rfl
theorem byteOr_block (F : List UInt8) (o j : Nat) (hj : j < 64) : Sh.byteOr ((F.drop o).take 64) j = Sh.byteOr F (o + j) := by
  unfold Sh.byteOr
  rw [List.getD_eq_getElem?_getD, List.getD_eq_getElem?_getD, List.getElem?_take, if_pos hj, List.getElem?_drop]
theorem byte_word (s : ByteArray) (k : Nat) (h : k < s.size) : ((s[k].toNat : Int)) = tn (Sh.byteOr s.data.toList k) := by
  have h256 : s[k].toNat < 256 := s[k].toNat_lt
  rw [Sh.byteOr, List.getD_eq_getElem?_getD, List.getElem?_eq_getElem (by simpa using h), Option.getD_some, tn_ofNat (by have : (s.data.toList[k]'(by simpa using h)).toNat < 256 := UInt8.toNat_lt _; omega)]
  rfl
theorem t_mul3 (x y : UInt32) : (tn x * tn y) % 4294967296 = tn (x * y) := by
  unfold tn
  rw [UInt32.toNat_mul]
  omega
theorem m24 (x : UInt32) : IntKind.u32.wrap (tn x * 16777216) = tn (x * 16777216) := by rw [IntKind.wrap_u32']; exact t_mul3 x 16777216
theorem m16 (x : UInt32) : IntKind.u32.wrap (tn x * 65536) = tn (x * 65536) := by rw [IntKind.wrap_u32']; exact t_mul3 x 65536
theorem m8 (x : UInt32) : IntKind.u32.wrap (tn x * 256) = tn (x * 256) := by rw [IntKind.wrap_u32']; exact t_mul3 x 256

theorem be4_parts2 (x : UInt32) : ∃ b0 b1 b2 b3 : UInt8, S2.be4 x = [b0, b1, b2, b3] ∧ IntKind.u8.wrap (tn x / 16777216) = (b0.toNat : Int) ∧ IntKind.u8.wrap (tn x / 65536) = (b1.toNat : Int) ∧ IntKind.u8.wrap (tn x / 256) = (b2.toNat : Int) ∧ IntKind.u8.wrap (tn x) = (b3.toNat : Int) := by
  have hx := w_lt x
  have hw : ∀ n : Nat, IntKind.u8.wrap (n : Int) = ((UInt8.ofNat (n % 256)).toNat : Int) := fun n => by
    rw [UInt8.toNat_ofNat', Nat.mod_eq_of_lt (show n % 256 < 2 ^ 8 from Nat.mod_lt _ (by omega))]
    simp [IntKind.wrap, IntKind.bits, IntKind.signed]
  refine ⟨_, _, _, _, rfl, ?_, ?_, ?_, ?_⟩
  · rw [← hw]; rfl
  · rw [← hw]; rfl
  · rw [← hw]; rfl
  · rw [← hw]; rfl
theorem grown_cell2 {w w' : World} {row : Option Nat} (h : w.grownBy w' row) {p : Addr} (hp : p.block < w.heap.size) (hne : row ≠ some p.block) : w'.cell? p = w.cell? p :=
  World.cell?_of_block (h.block p.block hp (fun e => hne e.symm))
theorem own_text2 {w : World} {base n : Nat} {v : Value} {l : List UInt8} (h : w.ownsRow base 5 1 v n (l.map fun c => .int .u8 c.toNat)) : (convert 41 9 v).run Tryd.prog w = .ok (.string ⟨l.toArray⟩) w := by
  cases hl : l with
  | nil =>
    subst hl
    have hn : n = 0 := by have := h.1; simp at this; omega
    subst hn
    rcases h.2 with ⟨rfl, _⟩ | ⟨g, cap, cur, rfl, _, _⟩
    · exact run_convert_bytes_nil w 41 5 Tryd.underlying41 Tryd.underlying5 0 0 9 Tryd.underlying9
    · rw [run_convert_bytes_arg w 41 5 Tryd.underlying41 Tryd.underlying5 g 0 0 cap [] rfl (fun i hi => by omega) 9 Tryd.underlying9]; rfl
  | cons a r =>
    rw [← hl]
    exact bts_string (B := base) 41 9 Tryd.underlying41 Tryd.underlying5 Tryd.underlying9 (Bts.of_own h (Nat.le_refl _) (by rw [hl]; simp))
theorem word_form (x16 x15 x7 x2 : UInt32) : (tn x16 + bits .xor .u32 (tn (S2.turn x15 7 ^^^ S2.turn x15 18)) (tn x15 / 8) + tn x7 + bits .xor .u32 (tn (S2.turn x2 17 ^^^ S2.turn x2 19)) (tn x2 / 1024)) % 4294967296 = tn (x16 + S2.s0 x15 + x7 + S2.s1 x2) := by
  have p3 : tn x15 / (8 : Int) = tn (x15 >>> (3 : UInt32)) := t_shr x15 3 (by omega)
  have p10 : tn x2 / (1024 : Int) = tn (x2 >>> (10 : UInt32)) := t_shr x2 10 (by omega)
  rw [p3, p10, t_xor, t_xor]
  show (tn x16 + tn (S2.s0 x15) + tn x7 + tn (S2.s1 x2)) % 4294967296 = _
  rw [← t_add (x16 + S2.s0 x15 + x7), ← t_add (x16 + S2.s0 x15), ← t_add x16]
  omega
end Go.Proofs.YtmbbigmnliiadaaDoor.Hs
