/-
  Words of 32 bits: what the model's operations on them are; SHA-1 over them. No part of the program is named here.
  Contracts of the document's Rot, Mix and Step (layer 2): what a call returns, and that nothing that was there has changed.
  Contracts of the document's First and Back (layer 2).
  The contract of the document's Expand (layer 2): the eighty words of a block.
  The contract of the document's Press (layer 2): the chain behind a block.
  Bytes that are appended one by one to a slice of the call's own, its array marked or not (what a conversion of a string lays).
  The contract of the document's Fill (layer 2): bytes, filled up.
  The contract of the document's Sum (layer 2): the digest.
-/
import Derived.WalkKit
import Derived.Laws.BitsAllLaws
import Derived.Laws.BitsLemmas
import Derived.Test.YtmbbigmnliiadaaGreatDoorRows
import Derived.ProofKit
import Derived.Below
import Derived.Lib.Hide
import Derived.Deep.OwnRows
import Derived.Deep.LoopGhost
import Derived.Deep.QuietTactic
import Derived.BigQuiet
import Derived.Deep.RegionHeld3
import Derived.Laws.Rows
import Derived.Laws.Tables
import Derived.IntWalk
import Derived.BigRegion
import Derived.Laws.CopyOwn
import Derived.ArgAppend
import Derived.Laws.IdiomStrings
import Derived.Laws.BytesArg
import Derived.Maps.AppendAt
import Derived.OwnWalk
import Derived.Deep.AppendLies
namespace Go.Proofs.YtmbbigmnliiadaaGreatDoor.Hs

theorem w_lt (x : UInt32) : x.toNat < 4294967296 := x.toNat_lt
theorem w_and (x y : UInt32) : bits .and .u32 (x.toNat : Int) (y.toNat : Int) = ((x &&& y).toNat : Int) := by rw [u32_and_nat _ _ (w_lt x) (w_lt y), UInt32.toNat_and]
theorem w_or (x y : UInt32) : bits .or .u32 (x.toNat : Int) (y.toNat : Int) = ((x ||| y).toNat : Int) := by rw [u32_or_nat _ _ (w_lt x) (w_lt y), UInt32.toNat_or]
theorem w_xor (x y : UInt32) : bits .xor .u32 (x.toNat : Int) (y.toNat : Int) = ((x ^^^ y).toNat : Int) := by rw [u32_xor_nat _ _ (w_lt x) (w_lt y), UInt32.toNat_xor]
theorem w_not (x : UInt32) : bits .xor .u32 IntKind.u32.max (x.toNat : Int) = ((~~~x).toNat : Int) := by
  have h : IntKind.u32.max = ((4294967295 : Nat) : Int) := by rfl
  have hx := w_lt x
  rw [h, u32_xor_nat _ _ (by omega) hx, UInt32.toNat_not]
  have e : (~~~x) = x ^^^ (4294967295 : UInt32) := by
    apply UInt32.toBitVec_inj.1
    have h2 : (4294967295 : UInt32).toBitVec = BitVec.allOnes 32 := by decide
    rw [UInt32.toBitVec_not, UInt32.toBitVec_xor, h2, BitVec.xor_allOnes]
  have e2 := congrArg UInt32.toNat e
  rw [UInt32.toNat_xor, UInt32.toNat_not] at e2
  rw [e2, Nat.xor_comm]
  rfl
theorem w_add (x y : UInt32) : ((x.toNat : Int) + (y.toNat : Int)) % 4294967296 = ((x + y).toNat : Int) := by rw [UInt32.toNat_add]; omega
theorem w_sub (x y : UInt32) : ((x.toNat : Int) - (y.toNat : Int)) % 4294967296 = ((x - y).toNat : Int) := by
  have hx := w_lt x
  have hy := w_lt y
  rw [UInt32.toNat_sub]; omega
theorem w_shl (x : UInt32) (n : Nat) (h : n < 32) : ((x.toNat : Int) * 2 ^ n) % 4294967296 = ((x <<< (UInt32.ofNat n)).toNat : Int) := by
  rw [UInt32.toNat_shiftLeft, UInt32.toNat_ofNat', Nat.mod_eq_of_lt (show n < 2 ^ 32 by omega), Nat.mod_eq_of_lt h, Nat.shiftLeft_eq]
  have : ((x.toNat * 2 ^ n : Nat) : Int) = (x.toNat : Int) * 2 ^ n := by simp
  rw [← this]
  omega
theorem w_shr (x : UInt32) (n : Nat) (h : n < 32) : (x.toNat : Int) / 2 ^ n = ((x >>> (UInt32.ofNat n)).toNat : Int) := by
  rw [UInt32.toNat_shiftRight, UInt32.toNat_ofNat', Nat.mod_eq_of_lt (show n < 2 ^ 32 by omega), Nat.mod_eq_of_lt h, Nat.shiftRight_eq_div_pow]
  have : (((2 : Nat) ^ n : Nat) : Int) = (2 : Int) ^ n := by simp
  rw [← this, ← Int.natCast_ediv]
theorem w_add_wrap (x y : UInt32) : IntKind.u32.wrap ((x.toNat : Int) + (y.toNat : Int)) = ((x + y).toNat : Int) := by rw [IntKind.wrap_u32', w_add]
theorem w_sub_wrap (x y : UInt32) : IntKind.u32.wrap ((x.toNat : Int) - (y.toNat : Int)) = ((x - y).toNat : Int) := by rw [IntKind.wrap_u32', w_sub]

/-- a word as the model's number; a plain name, so that the walk's simp leaves it -/
def tn (x : UInt32) : Int := x.toNat
theorem tn_nonneg (x : UInt32) : 0 ≤ tn x := by unfold tn; omega
theorem tn_lt (x : UInt32) : tn x < 4294967296 := by have := w_lt x; unfold tn; omega
theorem tn_inj {x y : UInt32} (h : tn x = tn y) : x = y := UInt32.toNat_inj.1 (by unfold tn at h; omega)
theorem tn_ofNat {n : Nat} (h : n < 4294967296) : tn (UInt32.ofNat n) = n := by unfold tn; rw [UInt32.toNat_ofNat', Nat.mod_eq_of_lt h]
theorem tn_of {a : Int} (h0 : 0 ≤ a) (h1 : a < 4294967296) : ∃ x : UInt32, a = tn x := ⟨UInt32.ofNat a.toNat, by rw [tn_ofNat (by omega)]; omega⟩
theorem t_and (x y : UInt32) : bits .and .u32 (tn x) (tn y) = tn (x &&& y) := w_and x y
theorem t_or (x y : UInt32) : bits .or .u32 (tn x) (tn y) = tn (x ||| y) := w_or x y
theorem t_xor (x y : UInt32) : bits .xor .u32 (tn x) (tn y) = tn (x ^^^ y) := w_xor x y
theorem t_not (x : UInt32) : bits .xor .u32 IntKind.u32.max (tn x) = tn (~~~x) := w_not x
theorem t_add (x y : UInt32) : (tn x + tn y) % 4294967296 = tn (x + y) := w_add x y
theorem t_sub (x y : UInt32) : (tn x - tn y) % 4294967296 = tn (x - y) := w_sub x y
theorem t_add_wrap (x y : UInt32) : IntKind.u32.wrap (tn x + tn y) = tn (x + y) := w_add_wrap x y
theorem t_sub_wrap (x y : UInt32) : IntKind.u32.wrap (tn x - tn y) = tn (x - y) := w_sub_wrap x y
theorem t_shl (x : UInt32) (n : Nat) (h : n < 32) : (tn x * 2 ^ n) % 4294967296 = tn (x <<< (UInt32.ofNat n)) := w_shl x n h
theorem t_shr (x : UInt32) (n : Nat) (h : n < 32) : tn x / 2 ^ n = tn (x >>> (UInt32.ofNat n)) := w_shr x n h

/-! ### SHA-1 -/
namespace Sh
def rot (x : UInt32) (n : Nat) : UInt32 := (x <<< (UInt32.ofNat n)) ||| (x >>> (UInt32.ofNat (32 - n)))
def mix (t : Nat) (b c d : UInt32) : UInt32 :=
  if t < 20 then ((b &&& c) ||| (~~~b &&& d)) + 0x5a827999
  else if t < 40 then (b ^^^ c ^^^ d) + 0x6ed9eba1
  else if t < 60 then ((b &&& c) ||| (b &&& d) ||| (c &&& d)) + 0x8f1bbcdc
  else (b ^^^ c ^^^ d) + 0xca62c1d6
/-- a chain: five words -/
structure Ch where
  a : UInt32
  b : UInt32
  c : UInt32
  d : UInt32
  e : UInt32
def step (x : Ch) (t : Nat) (w : UInt32) : Ch := ⟨rot x.a 5 + mix t x.b x.c x.d + x.e + w, x.a, rot x.b 30, x.c, x.d⟩
def back (x : Ch) (t : Nat) (w : UInt32) : Ch := ⟨x.b, rot x.c 2, x.d, x.e, x.a - (rot x.b 5 + mix t (rot x.c 2) x.d x.e + w)⟩
def add (x y : Ch) : Ch := ⟨x.a + y.a, x.b + y.b, x.c + y.c, x.d + y.d, x.e + y.e⟩
def first : Ch := ⟨0x67452301, 0xefcdab89, 0x98badcfe, 0x10325476, 0xc3d2e1f0⟩
/-- the word at a place of a block -/
def byteOr (l : List UInt8) (i : Nat) : UInt32 := UInt32.ofNat (l.getD i 0).toNat
def word (l : List UInt8) (t : Nat) : UInt32 := ((byteOr l (4 * t) * 256 + byteOr l (4 * t + 1)) * 256 + byteOr l (4 * t + 2)) * 256 + byteOr l (4 * t + 3)
/-- the words of a block, up to t of them -/
def wordsTo (l : List UInt8) : Nat → List UInt32
  | 0 => []
  | t + 1 => wordsTo l t ++ [if t < 16 then word l t else rot ((wordsTo l t).getD (t - 3) 0 ^^^ (wordsTo l t).getD (t - 8) 0 ^^^ (wordsTo l t).getD (t - 14) 0 ^^^ (wordsTo l t).getD (t - 16) 0) 1]
def words (l : List UInt8) : List UInt32 := wordsTo l 80
def stepsTo (l : List UInt8) (x : Ch) : Nat → Ch
  | 0 => x
  | t + 1 => step (stepsTo l x t) t ((words l).getD t 0)
def press (x : Ch) (l : List UInt8) : Ch := add x (stepsTo l x 80)
end Sh
end Go.Proofs.YtmbbigmnliiadaaGreatDoor.Hs
namespace Go.Proofs.YtmbbigmnliiadaaGreatDoor.Hs
open Go.RowKit
set_option linter.unusedVariables false
attribute [local go_sem] t_and t_or t_xor t_not t_add t_sub t_add_wrap t_sub_wrap

theorem k1 (x : UInt32) : (tn x + 1518500249) % 4294967296 = tn (x + 0x5a827999) := t_add x 0x5a827999
theorem k2 (x : UInt32) : (tn x + 1859775393) % 4294967296 = tn (x + 0x6ed9eba1) := t_add x 0x6ed9eba1
theorem k3 (x : UInt32) : (tn x + 2400959708) % 4294967296 = tn (x + 0x8f1bbcdc) := t_add x 0x8f1bbcdc
theorem k4 (x : UInt32) : (tn x + 3395469782) % 4294967296 = tn (x + 0xca62c1d6) := t_add x 0xca62c1d6

theorem ret_int {k : IntKind} {a b : Int} (h : a = b) : Ending.returned (.int k a) = .returned (.int k b) := by rw [h]

theorem rot_any (x : UInt32) (n : Nat) (w : World) (h0 : 0 < n) (h : n < 32) : Calls Tryz.prog 87 #[.int .u32 (tn x), .int .u64 n] w fun e w' => e = .returned (.int .u32 (tn (Sh.rot x n))) ∧ w = w' := by
  have hx := tn_lt x
  have hx0 := tn_nonneg x
  have hs := t_shl x n h
  have hr := t_shr x (32 - n) (by omega)
  go_enter Tryz.func87, Tryz.ntmps87
  go_wp2
  go_ret
  exact ⟨rfl, rfl⟩

theorem mix_any (t : Nat) (b c d : UInt32) (w : World) : Calls Tryz.prog 88 #[.int .i64 t, .int .u32 (tn b), .int .u32 (tn c), .int .u32 (tn d)] w fun e w' => e = .returned (.int .u32 (tn (Sh.mix t b c d))) ∧ w = w' := by
  by_cases h1 : t < 20
  · have hv : Sh.mix t b c d = ((b &&& c) ||| (~~~b &&& d)) + 0x5a827999 := by rw [Sh.mix, if_pos h1]
    have HV := Lib.hid hv
    clear hv
    go_enter Tryz.func88, Tryz.ntmps88
    go_wp2
    go_ret
    exact ⟨ret_int ((k1 _).trans (congrArg tn HV.out.symm)), rfl⟩
  · by_cases h2 : t < 40
    · have hv : Sh.mix t b c d = (b ^^^ c ^^^ d) + 0x6ed9eba1 := by rw [Sh.mix, if_neg h1, if_pos h2]
      have HV := Lib.hid hv
      clear hv
      go_enter Tryz.func88, Tryz.ntmps88
      go_wp2
      go_ret
      exact ⟨ret_int ((k2 _).trans (congrArg tn HV.out.symm)), rfl⟩
    · by_cases h3 : t < 60
      · have hv : Sh.mix t b c d = ((b &&& c) ||| (b &&& d) ||| (c &&& d)) + 0x8f1bbcdc := by rw [Sh.mix, if_neg h1, if_neg h2, if_pos h3]
        have HV := Lib.hid hv
        clear hv
        go_enter Tryz.func88, Tryz.ntmps88
        go_wp2
        go_ret
        exact ⟨ret_int ((k3 _).trans (congrArg tn HV.out.symm)), rfl⟩
      · have hv : Sh.mix t b c d = (b ^^^ c ^^^ d) + 0xca62c1d6 := by rw [Sh.mix, if_neg h1, if_neg h2, if_neg h3]
        have HV := Lib.hid hv
        clear hv
        go_enter Tryz.func88, Tryz.ntmps88
        go_wp2
        go_ret
        exact ⟨ret_int ((k4 _).trans (congrArg tn HV.out.symm)), rfl⟩

theorem quiet_left {P : Program} {f : FuncId} {args : Array Value} {w : World} {n : Nat} {v : Value}
    (h : Calls P f args (w.drewN n) fun e w' => e = .returned v ∧ w.drewN n = w') : Calls P f args (w.drewN n) fun e w'' => e = .returned v ∧ ∃ m, w'' = w.drewN m :=
  h.mono fun _ _ ⟨he, hm⟩ => ⟨he, n, hm.symm⟩

theorem below_drewN {B : Nat} {a w : World} (h : Below B a w) (n : Nat) : Below B a (w.drewN n) := ⟨h.os, h.tape, h.output, h.size, h.block⟩

/-- a word, a chain as cells -/
def U (x : UInt32) : Value := .int .u32 (tn x)
def cs (x : Sh.Ch) : Array Value := #[.int .u32 (tn x.a), .int .u32 (tn x.b), .int .u32 (tn x.c), .int .u32 (tn x.d), .int .u32 (tn x.e)]

set_option maxHeartbeats 1000000 in
theorem rstep_any (x : Sh.Ch) (t : Nat) (v : UInt32) (w : World) :
    Calls Tryz.prog 67 #[.agg (cs x), .int .i64 t, .int .u32 (tn v)] w fun e w' => e = .returned (.agg (cs (Sh.step x t v))) ∧ Below w.heap.size w w' := by
  obtain ⟨a, b, c, d, e⟩ := x
  unfold cs
  go_enter Tryz.func67, Tryz.ntmps67
  go_wp2_with fail
  go_quiet ((first | (go_at_call 87; exact quiet_left (rot_any _ 5 _ (by omega) (by omega))) | (go_at_call 88; exact quiet_left (mix_any _ _ _ _ _))))
  go_wp2_with fail
  go_region_held3 (fun w' => w'.cell? ⟨w.heap.size, 0, none⟩ = some (.int .u32 (tn a)) ∧ w'.cell? ⟨w.heap.size, 1, none⟩ = some (.int .u32 (tn b)) ∧ w'.cell? ⟨w.heap.size, 2, none⟩ = some (.int .u32 (tn c)) ∧ w'.cell? ⟨w.heap.size, 3, none⟩ = some (.int .u32 (tn d))) (go_keep)
    (first | (go_at_call 87; refine (rot_any _ 30 _ (by omega) (by omega)).mono ?_; rintro e w' ⟨rfl, rfl⟩))
  go_wp2
  refine bodyPost_ret (v := .agg (cs (Sh.step ⟨a, b, c, d, e⟩ t v))) (by simp [results, Tryz.results67, go_sem, cs, Sh.step]) rfl ⟨rfl, ?_⟩
  refine Below.setCell (Below.setCell (Below.setCell (Below.setCell (Below.setCell ?_ ?_ _) ?_ _) ?_ _) ?_ _) ?_ _
  · exact below_drewN ((Below.alloc ((Below.refl _ w).alloc (Nat.le_refl _) _) (by simp) _)) _
  all_goals simp
end Go.Proofs.YtmbbigmnliiadaaGreatDoor.Hs
namespace Go.Proofs.YtmbbigmnliiadaaGreatDoor.Hs
open Go.RowKit
set_option linter.unusedVariables false
attribute [local go_sem] t_and t_or t_xor t_not t_add t_sub t_add_wrap t_sub_wrap

theorem cs_first : cs Sh.first = #[.int .u32 1732584193, .int .u32 4023233417, .int .u32 2562383102, .int .u32 271733878, .int .u32 3285377520] := by kernel_rfl
theorem rfirst_any (w : World) : Calls Tryz.prog 44 #[] w fun e w' => e = .returned (.agg (cs Sh.first)) ∧ Below w.heap.size w w' := by
  rw [cs_first]
  go_enter Tryz.func44, Tryz.ntmps44
  go_wp2
  refine bodyPost_ret (v := .agg #[.int .u32 1732584193, .int .u32 4023233417, .int .u32 2562383102, .int .u32 271733878, .int .u32 3285377520]) (by simp [results, Tryz.results44, go_sem]) rfl ⟨rfl, ?_⟩
  exact (Below.refl _ w).alloc (Nat.le_refl _) _

theorem rstep_zero (a b c d : UInt32) (t : Nat) (v : UInt32) (w : World) :
    Calls Tryz.prog 67 #[.agg #[.int .u32 (tn a), .int .u32 (tn b), .int .u32 (tn c), .int .u32 (tn d), .int .u32 0], .int .i64 t, .int .u32 (tn v)] w
      fun e w' => e = .returned (.agg #[.int .u32 (tn (Sh.rot a 5 + Sh.mix t b c d + v)), .int .u32 (tn a), .int .u32 (tn (Sh.rot b 30)), .int .u32 (tn c), .int .u32 (tn d)]) ∧ Below w.heap.size w w' := by
  have h := rstep_any ⟨a, b, c, d, 0⟩ t v w
  simp only [cs, Sh.step, UInt32.add_zero] at h
  exact h

set_option maxHeartbeats 1000000 in
theorem rback_any (x : Sh.Ch) (t : Nat) (v : UInt32) (w : World) :
    Calls Tryz.prog 68 #[.agg (cs x), .int .i64 t, .int .u32 (tn v)] w fun e w' => e = .returned (.agg (cs (Sh.back x t v))) ∧ Below w.heap.size w w' := by
  obtain ⟨a, b, c, d, e⟩ := x
  unfold cs
  go_enter Tryz.func68, Tryz.ntmps68
  go_wp2_with fail
  go_region_held3 (fun w' => w'.cell? ⟨w.heap.size, 1, none⟩ = some (.int .u32 (tn b)) ∧ w'.cell? ⟨w.heap.size, 2, none⟩ = some (.int .u32 (tn c)) ∧ w'.cell? ⟨w.heap.size, 3, none⟩ = some (.int .u32 (tn d)) ∧ w'.cell? ⟨w.heap.size, 4, none⟩ = some (.int .u32 (tn e))) (go_keep)
    (first | (go_at_call 87; refine (rot_any _ 2 _ (by omega) (by omega)).mono ?_; rintro e w' ⟨rfl, rfl⟩))
  all_goals
    go_wp2_with fail
    refine (rstep_zero b (Sh.rot c 2) d e t v _).mono ?_
    rintro e0 w1 ⟨rfl, hb1⟩
    have hz := hb1.size
    simp at hz
    have hz0 : w.heap.size < w1.heap.size := by omega
    have hz1 : w.heap.size + 1 < w1.heap.size := by omega
    have hz2 : w.heap.size + 1 + 1 < w1.heap.size := by omega
    have c0 : w1.cell? ⟨w.heap.size, 0, none⟩ = some (.int .u32 (tn a)) := by rw [hb1.cell (p := ⟨w.heap.size, 0, none⟩) (by simp; omega)]; simp [go_sem]
    have y0 : w1.cell? ⟨w.heap.size + 1 + 1, 0, none⟩ = some (.int .u32 (tn b)) := by rw [hb1.cell (p := ⟨w.heap.size + 1 + 1, 0, none⟩) (by simp)]; simp [go_sem]
    have y1 : w1.cell? ⟨w.heap.size + 1 + 1, 1, none⟩ = some (.int .u32 (tn (Sh.rot c 2))) := by rw [hb1.cell (p := ⟨w.heap.size + 1 + 1, 1, none⟩) (by simp)]; simp [go_sem]
    have y2 : w1.cell? ⟨w.heap.size + 1 + 1, 2, none⟩ = some (.int .u32 (tn d)) := by rw [hb1.cell (p := ⟨w.heap.size + 1 + 1, 2, none⟩) (by simp)]; simp [go_sem]
    have y3 : w1.cell? ⟨w.heap.size + 1 + 1, 3, none⟩ = some (.int .u32 (tn e)) := by rw [hb1.cell (p := ⟨w.heap.size + 1 + 1, 3, none⟩) (by simp)]; simp [go_sem]
    have y4 : w1.cell? ⟨w.heap.size + 1 + 1, 4, none⟩ = some (.int .u32 0) := by rw [hb1.cell (p := ⟨w.heap.size + 1 + 1, 4, none⟩) (by simp)]; simp [go_sem]
    have f4 : ∀ o, w1.frozen? ⟨w.heap.size + 1 + 1, o, none⟩ = false := fun o => by rw [hb1.frozen (p := ⟨w.heap.size + 1 + 1, o, none⟩) (by simp)]; simp [go_sem]
    have r4 : ∀ o, w1.frozen? ⟨w.heap.size + 1, o, none⟩ = false := fun o => by rw [hb1.frozen (p := ⟨w.heap.size + 1, o, none⟩) (by simp)]; simp [go_sem]
    have z0 : ∀ o, o < 5 → w1.cell? ⟨w.heap.size + 1, o, none⟩ = some (.int .u32 0) := fun o ho => by
      rw [hb1.cell (p := ⟨w.heap.size + 1, o, none⟩) (by simp)]
      match o, ho with
      | 0, _ => simp [go_sem]
      | 1, _ => simp [go_sem]
      | 2, _ => simp [go_sem]
      | 3, _ => simp [go_sem]
      | 4, _ => simp [go_sem]
    have q0 := z0 0 (by omega)
    have q1 := z0 1 (by omega)
    have q2 := z0 2 (by omega)
    have q3 := z0 3 (by omega)
    have q4 := z0 4 (by omega)
    clear z0
    have hbw : Below w.heap.size w w1 := by
      refine Below.trans ?_ (hb1.mono (by simp; omega))
      repeat (first | exact Below.refl _ _ | refine Below.drew ?_ | refine Below.alloc ?_ (by simp; try omega) _)
    have HB := Lib.hid hbw
    clear hbw hb1
    go_wp2
    refine bodyPost_ret (v := .agg (cs (Sh.back ⟨a, b, c, d, e⟩ t v))) (by simp [results, Tryz.results68, go_sem, cs, Sh.back, q0, q1, q2, q3, q4, hz1]) rfl ⟨rfl, ?_⟩
    refine Below.alloc (Below.setCell (Below.setCell (Below.setCell (Below.setCell (Below.setCell (Below.setCell HB.out ?_ _) ?_ _) ?_ _) ?_ _) ?_ _) ?_ _) ?_ _
    all_goals simp
    all_goals omega
end Go.Proofs.YtmbbigmnliiadaaGreatDoor.Hs
namespace Go.Proofs.YtmbbigmnliiadaaGreatDoor.Hs
open Go.RowKit
set_option linter.unusedVariables false
attribute [local go_sem] t_and t_or t_xor t_not t_add t_sub t_add_wrap t_sub_wrap

/-- eighty words -/
def ws (l : List UInt32) : Array Value := ((List.range 80).map fun j => .int .u32 (tn (l.getD j 0))).toArray
theorem ws_size (l : List UInt32) : (ws l).size = 80 := by simp [ws]
theorem zv29 (w : World) : (zeroValue 84).run Tryz.prog w = .ok (.agg (ws [])) w := by kernel_rfl
theorem row_ws (w : World) (l : List UInt32) : (w.alloc (.cells (ws l) 84)).rowIs w.heap.size 84 80 (fun j => .int .u32 (tn (l.getD j 0))) := by
  have h := World.rowIs_alloc w (ws l) 84 (fun j => .int .u32 (tn (l.getD j 0))) (fun i hi => by rw [ws_size] at hi; simp [ws, hi])
  rwa [ws_size] at h
/-- a row of eighty words, its cells laid whole -/
theorem ws_row {w : World} {g : Nat} {l : List UInt32} (h : w.rowIs g 84 80 (fun j => .int .u32 (tn (l.getD j 0)))) : w.heap[g]? = some (.cells (ws l) 84 (0, 0)) := by
  obtain ⟨c, hb, hn, hc⟩ := h
  rw [hb]
  congr 2
  apply Array.ext_getElem?
  intro i
  by_cases hi : i < 80
  · rw [hc i hi]; simp [ws, hi]
  · rw [Array.getElem?_eq_none (by omega), Array.getElem?_eq_none (by rw [ws_size]; omega)]

namespace Sh
/-- a word, i of its four bytes told -/
def part (l : List UInt8) (t : Nat) : Nat → UInt32
  | 0 => 0
  | i + 1 => part l t i * 256 + byteOr l (4 * t + i)
theorem part_four (l : List UInt8) (t : Nat) : part l t 4 = word l t := by simp [part, word]
theorem wordsTo_length (l : List UInt8) (t : Nat) : (wordsTo l t).length = t := by
  induction t with
  | zero => rfl
  | succ t ih => simp [wordsTo, ih]
end Sh
theorem t_mul (x y : UInt32) : (tn x * tn y) % 4294967296 = tn (x * y) := by
  unfold tn
  rw [UInt32.toNat_mul]
  omega
theorem t_mul256 (x : UInt32) : (tn x * 256) % 4294967296 = tn (x * 256) := t_mul x 256
theorem getD_snoc (l : List UInt32) (x : UInt32) (t : Nat) (ht : l.length = t) (j : Nat) : (l ++ [x]).getD j 0 = if j = t then x else l.getD j 0 := by
  subst ht
  by_cases h : j = l.length
  · subst h; simp
  · rw [if_neg h]
    by_cases hlt : j < l.length
    · simp [List.getD, List.getElem?_append_left hlt]
    · rw [List.getD_eq_getElem?_getD, List.getElem?_eq_none (by simp; omega), List.getD_eq_getElem?_getD, List.getElem?_eq_none (by omega)]
/-- a word is put behind the t that are there, or in the place of the last -/
theorem row_put {w : World} {g t : Nat} {l : List UInt32} {x y : UInt32} (hl : l.length = t) (h : w.rowIs g 84 80 (fun j => .int .u32 (tn ((l ++ [x]).getD j 0)))) :
    (w.setCell ⟨g, t, none⟩ (.int .u32 (tn y))).rowIs g 84 80 (fun j => .int .u32 (tn ((l ++ [y]).getD j 0))) := by
  refine (h.set t _).congr fun j _ => ?_
  simp only [getD_snoc _ _ _ hl]
  split <;> rfl
theorem row_none {w : World} {g t : Nat} {l : List UInt32} (hl : l.length = t) (h : w.rowIs g 84 80 (fun j => .int .u32 (tn (l.getD j 0)))) :
    w.rowIs g 84 80 (fun j => .int .u32 (tn ((l ++ [0]).getD j 0))) :=
  h.congr fun j _ => by
    rw [getD_snoc _ _ _ hl]
    split
    · rename_i e; rw [List.getD_eq_getElem?_getD, List.getElem?_eq_none (by omega)]; rfl
    · rfl

theorem info29 : (Tryz.prog.info? 84).map (·.size) = some 80 := by kernel_rfl

/-- the state of Expand: the result's row is empty yet, the words' row holds l -/
structure Ex (w wr : World) (l : List UInt32) : Prop where
  below : Below w.heap.size w wr
  size : w.heap.size + 1 < wr.heap.size
  res : wr.rowIs w.heap.size 84 80 (fun j => .int .u32 (tn (([] : List UInt32).getD j 0)))
  row : wr.rowIs (w.heap.size + 1) 84 80 (fun j => .int .u32 (tn (l.getD j 0)))
section
variable {w wr : World} {l : List UInt32} {t : Nat} {x y : UInt32}
theorem Ex.start (w : World) : Ex w ((w.alloc (.cells (ws []) 84)).alloc (.cells (ws []) 84)) [] := by
  refine ⟨((Below.refl _ w).alloc (Nat.le_refl _) _).alloc (by simp) _, by simp, (row_ws w []).alloc _, ?_⟩
  have := row_ws (w.alloc (.cells (ws []) 84)) []
  simpa using this
theorem Ex.begin_ (h : Ex w wr l) (hl : l.length = t) : Ex w wr (l ++ [0]) := ⟨h.below, h.size, h.res, row_none hl h.row⟩
theorem Ex.put (h : Ex w wr (l ++ [x])) (hl : l.length = t) (y : UInt32) : Ex w (wr.setCell ⟨w.heap.size + 1, t, none⟩ (.int .u32 (tn y))) (l ++ [y]) :=
  ⟨h.below.setCell (Nat.le_succ _) _, by simpa using h.size, h.res.setOther (by simp) _, row_put hl h.row⟩
theorem Ex.drawn (h : Ex w wr l) (n : Nat) : Ex w (wr.drewN n) l := ⟨below_drewN h.below n, h.size, h.res, h.row⟩
theorem Ex.drew (h : Ex w wr l) : Ex w wr.drew l := ⟨h.below.drew, h.size, h.res, h.row⟩
theorem Ex.at_ (h : Ex w wr l) {j : Nat} (hj : j < 80) : wr.cell? ⟨w.heap.size + 1, j, none⟩ = some (.int .u32 (tn (l.getD j 0))) := h.row.cell hj
theorem Ex.cell (h : Ex w wr (l ++ [x])) (hl : l.length = t) (ht : t < 80) : wr.cell? ⟨w.heap.size + 1, t, none⟩ = some (.int .u32 (tn x)) := by
  rw [h.row.cell ht, getD_snoc _ _ _ hl, if_pos rfl]
end

theorem byte_in (s : ByteArray) (k : Nat) (h : k < s.size) : ((s[k].toNat : Int)) = tn (Sh.byteOr s.data.toList k) := by
  have h256 : s[k].toNat < 256 := s[k].toNat_lt
  rw [Sh.byteOr, List.getD_eq_getElem?_getD, List.getElem?_eq_getElem (by simpa using h), Option.getD_some, tn_ofNat (by have : (s.data.toList[k]'(by simpa using h)).toNat < 256 := UInt8.toNat_lt _; omega)]
  rfl
theorem byte_out (s : ByteArray) (k : Nat) (h : s.size ≤ k) : Sh.byteOr s.data.toList k = 0 := by
  rw [Sh.byteOr, List.getD_eq_getElem?_getD, List.getElem?_eq_none (by simpa using h)]
  rfl
theorem wordsTo_low (l : List UInt8) (t : Nat) (h : t < 16) : Sh.wordsTo l (t + 1) = Sh.wordsTo l t ++ [Sh.part l t 4] := by
  rw [Sh.wordsTo, if_pos h, Sh.part_four]
theorem wordsTo_high (l : List UInt8) (t : Nat) (h : ¬ t < 16) : Sh.wordsTo l (t + 1) = Sh.wordsTo l t ++ [Sh.rot ((Sh.wordsTo l t).getD (t - 3) 0 ^^^ (Sh.wordsTo l t).getD (t - 8) 0 ^^^ (Sh.wordsTo l t).getD (t - 14) 0 ^^^ (Sh.wordsTo l t).getD (t - 16) 0) 1] := by
  rw [Sh.wordsTo, if_neg h]

set_option maxHeartbeats 2000000 in
set_option maxRecDepth 100000 in
theorem rexpand_any (s : ByteArray) (w : World) (hs : s.size ≤ 100000) :
    Calls Tryz.prog 66 #[.string s] w fun e w' => e = .returned (.agg (ws (Sh.words s.data.toList))) ∧ Below w.heap.size w w' := by
  have hz := zv29
  have hst := Ex.start w
  have HST := Lib.hid hst
  clear hst
  go_enter Tryz.func66, Tryz.ntmps66
  go_wp2
  clear hz
  go_loopg [4] 16 (fun g i wr => ∃ t : Nat, t ≤ 16 ∧ g = 16 - t ∧ i = .int .i64 t ∧ Ex w wr (Sh.wordsTo s.data.toList t))
  case atStart => exact ⟨0, Nat.zero_le _, rfl, rfl, HST.out⟩
  case round =>
    obtain ⟨t, ht, rfl, rfl, hex⟩ := hrel
    clear HST
    by_cases hlt : t < 16
    · have h1 : (t : Int) < 16 := by omega
      have hlen := Sh.wordsTo_length s.data.toList t
      have hnx := wordsTo_low s.data.toList t hlt
      generalize Sh.wordsTo s.data.toList t = L at *
      have HL := Lib.hid hlen
      have HNX := Lib.hid hnx
      have HE := Lib.hid (hex.begin_ hlen)
      clear hlen hnx hex
      go_wp2
      go_loopg [5] 4 (fun g i wx => ∃ i' : Nat, i' ≤ 4 ∧ g = 4 - i' ∧ i = .int .i64 i' ∧ Ex w wx (L ++ [Sh.part s.data.toList t i']))
      case atStart => exact ⟨0, Nat.zero_le _, rfl, rfl, HE.out⟩
      case round =>
        obtain ⟨i, hi, rfl, rfl, hex⟩ := hrel
        clear HE
        by_cases hil : i < 4
        · have h2 : (i : Int) < 4 := by omega
          have hc := hex.cell HL.out (by omega)
          have hf := hex.row.frozen t
          have hp1 := hex.put HL.out (Sh.part s.data.toList t i * 256)
          have hc2 := hp1.cell HL.out (by omega)
          have hf2 := hp1.row.frozen t
          have hm := t_mul256 (Sh.part s.data.toList t i)
          have hpt : Sh.part s.data.toList t (i + 1) = Sh.part s.data.toList t i * 256 + Sh.byteOr s.data.toList (4 * t + i) := rfl
          generalize Sh.part s.data.toList t i = X at *
          have HP1 := Lib.hid hp1
          have HPT := Lib.hid hpt
          clear hp1 hpt hex
          by_cases hin : 4 * t + i < s.size
          · have h3 : 4 * (t : Int) + i < s.size := by omega
            have hby := byte_in s (4 * t + i) hin
            have h4 : (0 : Int) ≤ 4 * (t : Int) + i := by omega
            have h5 : (4 * (t : Int) + i).toNat = 4 * t + i := by omega
            have w5 : IntKind.i64.wrap (4 * (t : Int)) = 4 * (t : Int) := IntWalk.i64_in _ (by omega)
            have w6 : IntKind.i64.wrap (4 * (t : Int) + i) = 4 * (t : Int) + i := IntWalk.i64_in _ (by omega)
            go_wp2_with fail
            generalize wr.setCell ⟨w.heap.size + 1, t, none⟩ (.int .u32 (tn (X * 256))) = wy at *
            go_region
            go_wp2
            go_roundg (4 - (i + 1))
            case rel => exact ⟨i + 1, by omega, rfl, by go_num, by rw [HPT.out]; exact (HP1.out.put HL.out _).drew⟩
            case measure => omega
          · have h3 : ¬ 4 * (t : Int) + i < s.size := by omega
            have hby := byte_out s (4 * t + i) (by omega)
            have HBY := Lib.hid hby
            clear hby
            go_wp2
            go_roundg (4 - (i + 1))
            case rel => exact ⟨i + 1, by omega, rfl, by go_num, by rw [HPT.out, HBY.out, UInt32.add_zero]; exact HP1.out⟩
            case measure => omega
        · obtain rfl : i = 4 := by omega
          go_wp2
          go_roundg (16 - (t + 1))
          case rel => exact ⟨t + 1, by omega, rfl, by go_num, by rw [HNX.out]; exact hex⟩
          case measure => omega
    · obtain rfl : t = 16 := by omega
      have HE := Lib.hid hex
      clear hex
      go_wp2
      go_loopg [6] 64 (fun g i wx => ∃ t : Nat, 16 ≤ t ∧ t ≤ 80 ∧ g = 80 - t ∧ i = .int .i64 t ∧ Ex w wx (Sh.wordsTo s.data.toList t))
      case atStart => exact ⟨16, Nat.le_refl _, by omega, rfl, rfl, HE.out⟩
      case round =>
        obtain ⟨t, ht16, ht80, rfl, rfl, hex⟩ := hrel
        clear HE
        by_cases hlt : t < 80
        · have h1 : (t : Int) < 80 := by omega
          have hlen := Sh.wordsTo_length s.data.toList t
          have hnx := wordsTo_high s.data.toList t (by omega)
          generalize Sh.wordsTo s.data.toList t = L at *
          have HL := Lib.hid hlen
          have HNX := Lib.hid hnx
          clear hlen hnx
          have a3 : (0 : Int) ≤ (t : Int) - 3 := by omega
          have b3 : (3 : Int) ≤ (t : Int) := by omega
          have d3 : (t : Int) - 3 < 80 := by omega
          have a8 : (0 : Int) ≤ (t : Int) - 8 := by omega
          have b8 : (8 : Int) ≤ (t : Int) := by omega
          have d8 : (t : Int) - 8 < 80 := by omega
          have a14 : (0 : Int) ≤ (t : Int) - 14 := by omega
          have b14 : (14 : Int) ≤ (t : Int) := by omega
          have d14 : (t : Int) - 14 < 80 := by omega
          have a16 : (0 : Int) ≤ (t : Int) - 16 := by omega
          have b16 : (16 : Int) ≤ (t : Int) := by omega
          have d16 : (t : Int) - 16 < 80 := by omega
          have n3 : ((t : Int) - 3).toNat = t - 3 := by omega
          have n8 : ((t : Int) - 8).toNat = t - 8 := by omega
          have n14 : ((t : Int) - 14).toNat = t - 14 := by omega
          have n16 : ((t : Int) - 16).toNat = t - 16 := by omega
          have w3 : IntKind.i64.wrap ((t : Int) - 3) = (t : Int) - 3 := IntWalk.i64_in _ (by omega)
          have w8 : IntKind.i64.wrap ((t : Int) - 8) = (t : Int) - 8 := IntWalk.i64_in _ (by omega)
          have w14 : IntKind.i64.wrap ((t : Int) - 14) = (t : Int) - 14 := IntWalk.i64_in _ (by omega)
          have w16 : IntKind.i64.wrap ((t : Int) - 16) = (t : Int) - 16 := IntWalk.i64_in _ (by omega)
          have c3 := hex.at_ (j := t - 3) (by omega)
          have c8 := hex.at_ (j := t - 8) (by omega)
          have c14 := hex.at_ (j := t - 14) (by omega)
          have c16 := hex.at_ (j := t - 16) (by omega)
          have ct := (hex.begin_ HL.out).cell HL.out hlt
          have cf := hex.row.frozen t
          have HX := Lib.hid (hex.begin_ HL.out)
          clear hex
          generalize L.getD (t - 3) 0 = x3 at *
          generalize L.getD (t - 8) 0 = x8 at *
          generalize L.getD (t - 14) 0 = x14 at *
          generalize L.getD (t - 16) 0 = x16 at *
          have hk3 : ∀ v, (wr.setCell ⟨w.heap.size + 1, t, none⟩ v).cell? ⟨w.heap.size + 1, t - 3, none⟩ = some (.int .u32 (tn x3)) := fun v => by rw [World.cell?_setCell_other _ _ _ _ (fun e => by injection e with _ e; omega)]; exact c3
          have hk8 : ∀ v, (wr.setCell ⟨w.heap.size + 1, t, none⟩ v).cell? ⟨w.heap.size + 1, t - 8, none⟩ = some (.int .u32 (tn x8)) := fun v => by rw [World.cell?_setCell_other _ _ _ _ (fun e => by injection e with _ e; omega)]; exact c8
          have hk14 : ∀ v, (wr.setCell ⟨w.heap.size + 1, t, none⟩ v).cell? ⟨w.heap.size + 1, t - 14, none⟩ = some (.int .u32 (tn x14)) := fun v => by rw [World.cell?_setCell_other _ _ _ _ (fun e => by injection e with _ e; omega)]; exact c14
          have hk16 : ∀ v, (wr.setCell ⟨w.heap.size + 1, t, none⟩ v).cell? ⟨w.heap.size + 1, t - 16, none⟩ = some (.int .u32 (tn x16)) := fun v => by rw [World.cell?_setCell_other _ _ _ _ (fun e => by injection e with _ e; omega)]; exact c16
          go_wp2_with fail
          go_region_held3 (fun w' => w'.cell? ⟨w.heap.size + 1, t - 3, none⟩ = some (.int .u32 (tn x3)) ∧ w'.cell? ⟨w.heap.size + 1, t - 8, none⟩ = some (.int .u32 (tn x8)) ∧ w'.cell? ⟨w.heap.size + 1, t - 14, none⟩ = some (.int .u32 (tn x14)) ∧ w'.cell? ⟨w.heap.size + 1, t - 16, none⟩ = some (.int .u32 (tn x16))) (go_keep)
            (first | (go_at_call 87; refine (rot_any _ 1 _ (by omega) (by omega)).mono ?_; rintro e w' ⟨rfl, rfl⟩))
          go_wp2
          go_roundg (80 - (t + 1))
          case rel => exact ⟨t + 1, by omega, by omega, rfl, by go_num, by rw [HNX.out]; exact (HX.out.put HL.out _).drew⟩
          case measure => omega
        · obtain rfl : t = 80 := by omega
          have hw : wr.heap[w.heap.size + 1]? = some (.cells (ws (Sh.words s.data.toList)) 84 (0, 0)) := ws_row hex.row
          have hr : wr.heap[w.heap.size]? = some (.cells (ws []) 84 (0, 0)) := ws_row hex.res
          have hbl := hex.below
          clear hex
          generalize hW : ws (Sh.words s.data.toList) = W at *
          have hWs : W.size = 80 := by rw [← hW]; exact ws_size _
          have hW1 : W.all (·.oneCell') = true := by rw [← hW]; simp [ws, Value.oneCell']
          have HW := Lib.hid hW
          have HS := Lib.hid hWs
          clear hW hWs
          have i29 : (Tryz.prog.info? 84).map (·.size) = some W.size := by rw [HS.out]; exact info29
          have HI := Lib.hid i29
          have HR := Lib.hid hr
          have HH := Lib.hid hw
          clear i29 hr hw
          go_wp2_with (first
            | (with_reducible refine wpList_load_row rfl 84 (.tmp 3) rfl (w.heap.size + 1) rfl 84 W (0, 0) _ HH.out Tryz.underlying84 rfl HI.out ?_)
            | (with_reducible refine wpList_store_row rfl 84 (.tmp 2) (.tmp 67) rfl w.heap.size W rfl rfl 84 (ws []) HR.out HI.out (by rw [ws_size, HS.out]) hW1 ?_))
          refine bodyPost_ret (results_cell_row Tryz.results66 _ _ w.heap.size 84 W (0, 0) _ rfl (setRow_heap _ _ _ _ _ _ HR.out) Tryz.underlying84 rfl HI.out) rfl ⟨by rw [HW.out], ?_⟩
          exact below_setRow hbl (Nat.le_refl _) _
end Go.Proofs.YtmbbigmnliiadaaGreatDoor.Hs
namespace Go.Proofs.YtmbbigmnliiadaaGreatDoor.Hs
open Go.RowKit
set_option linter.unusedVariables false
attribute [local go_sem] t_and t_or t_xor t_not t_add t_sub t_add_wrap t_sub_wrap

theorem info27 (x : Sh.Ch) : (Tryz.prog.info? 69).map (·.size) = some (cs x).size := by
  have : (Tryz.prog.info? 69).map (·.size) = some 5 := by kernel_rfl
  rw [this]; rfl
theorem zero_size (x : Sh.Ch) : (#[.int .u32 0, .int .u32 0, .int .u32 0, .int .u32 0, .int .u32 0] : Array Value).size = (cs x).size := rfl
theorem cs_one (x : Sh.Ch) : (cs x).all (·.oneCell') = true := by simp [cs, Value.oneCell']
theorem ws_one (l : List UInt32) : (ws l).all (·.oneCell') = true := by simp [ws, Value.oneCell']
theorem info29w (l : List UInt32) : (Tryz.prog.info? 84).map (·.size) = some (ws l).size := by rw [ws_size]; exact info29
theorem row_of {w : World} {g : Nat} {l : List UInt32} (h : w.heap[g]? = some (.cells (ws l) 84 (0, 0))) (j : Nat) (hj : j < 80) : w.cell? ⟨g, j, none⟩ = some (.int .u32 (tn (l.getD j 0))) := by
  rw [cell_of_row w g j _ _ _ h]; simp [ws, hj]

/-- the state of Press: the chain, the result's row, the words, the letters -/
structure Pr (w wr : World) (g : Nat) (c x : Sh.Ch) (W : List UInt32) : Prop where
  below : Below w.heap.size w wr
  lo : w.heap.size + 1 < g
  size : g + 1 < wr.heap.size
  ch : wr.heap[w.heap.size]? = some (.cells (cs c) 69 (0, 0))
  res : wr.heap[w.heap.size + 1]? = some (.cells (cs ⟨0, 0, 0, 0, 0⟩) 69 (0, 0))
  wd : wr.heap[g]? = some (.cells (ws W) 84 (0, 0))
  lt : wr.heap[g + 1]? = some (.cells (cs x) 69 (0, 0))
theorem Pr.step {w wr w1 : World} {g : Nat} {c x : Sh.Ch} {W : List UInt32} (h : Pr w wr g c x W) (hb : Below wr.heap.size wr.drew w1) (y : Sh.Ch) : Pr w (w1.setRow (g + 1) (cs y)) g c y W := by
  have hl := h.lo
  have hs := h.size
  have hsz : wr.heap.size ≤ w1.heap.size := hb.size
  refine ⟨below_setRow (h.below.drew.trans (hb.mono h.below.size)) (by omega) _, h.lo, by simpa using Nat.lt_of_lt_of_le hs hsz, ?_, ?_, ?_, ?_⟩
  · rw [setRow_other _ _ _ _ (by omega), hb.block _ (by omega)]; exact h.ch
  · rw [setRow_other _ _ _ _ (by omega), hb.block _ (by omega)]; exact h.res
  · rw [setRow_other _ _ _ _ (by omega), hb.block _ (by omega)]; exact h.wd
  · exact setRow_heap _ _ (cs x) _ _ _ (by rw [hb.block _ hs]; exact h.lt)
theorem cs_zero : (#[.int .u32 0, .int .u32 0, .int .u32 0, .int .u32 0, .int .u32 0] : Array Value) = cs ⟨0, 0, 0, 0, 0⟩ := by kernel_rfl
/-- behind Expand, and the two stores -/
theorem Pr.start {w w1 : World} (c : Sh.Ch) (W : List UInt32) (hb : Below (w.heap.size + 1 + 1) ((w.alloc (.cells (cs c) 69)).alloc (.cells #[.int .u32 0, .int .u32 0, .int .u32 0, .int .u32 0, .int .u32 0] 69)) w1) :
    Pr w ((((w1.alloc (.cells (ws []) 84)).setRow w1.heap.size (ws W)).alloc (.cells #[.int .u32 0, .int .u32 0, .int .u32 0, .int .u32 0, .int .u32 0] 69)).setRow (w1.heap.size + 1) (cs c)) w1.heap.size c c W := by
  have hsz := hb.size
  simp at hsz
  have hbw : Below w.heap.size w w1 := Below.trans (((Below.refl _ w).alloc (Nat.le_refl _) _).alloc (by simp) _) (hb.mono (by omega))
  have e1 : ((w1.alloc (.cells (ws []) 84)).setRow w1.heap.size (ws W)).heap.size = w1.heap.size + 1 := by simp
  have hnew := heap_alloc_new ((w1.alloc (.cells (ws []) 84)).setRow w1.heap.size (ws W)) (.cells #[.int .u32 0, .int .u32 0, .int .u32 0, .int .u32 0, .int .u32 0] 69)
  rw [e1] at hnew
  have hold : ∀ k, k ≤ w1.heap.size → (((w1.alloc (.cells (ws []) 84)).setRow w1.heap.size (ws W)).alloc (.cells #[.int .u32 0, .int .u32 0, .int .u32 0, .int .u32 0, .int .u32 0] 69)).heap[k]? = ((w1.alloc (.cells (ws []) 84)).setRow w1.heap.size (ws W)).heap[k]? := fun k hk => heap_alloc_old _ _ (by rw [e1]; omega)
  have hold2 : ∀ k, k < w1.heap.size → (((w1.alloc (.cells (ws []) 84)).setRow w1.heap.size (ws W)).alloc (.cells #[.int .u32 0, .int .u32 0, .int .u32 0, .int .u32 0, .int .u32 0] 69)).heap[k]? = w1.heap[k]? := fun k hk => by
    rw [hold k (by omega), setRow_other _ _ _ _ (by omega), heap_alloc_old _ _ hk]
  refine ⟨below_setRow (Below.alloc (below_setRow (hbw.alloc hbw.size _) hbw.size _) (by rw [e1]; have := hbw.size; omega) _) (by have := hbw.size; omega) _, by omega, by simp, ?_, ?_, ?_, ?_⟩
  · rw [setRow_other _ _ _ _ (by omega), hold2 _ (by omega), hb.block _ (by omega), heap_alloc2_old]
  · rw [setRow_other _ _ _ _ (by omega), hold2 _ (by omega), hb.block _ (by omega), heap_alloc2_new, cs_zero]
  · rw [setRow_other _ _ _ _ (by omega), hold _ (Nat.le_refl _)]
    exact setRow_heap _ _ (ws []) _ _ _ (heap_alloc_new _ _)
  · exact setRow_heap _ _ _ _ _ _ hnew

/-- a chain's word at a place -/
def fld (x : Sh.Ch) (j : Nat) : UInt32 := if j = 0 then x.a else if j = 1 then x.b else if j = 2 then x.c else if j = 3 then x.d else x.e
theorem cs_fld (x : Sh.Ch) (j : Nat) (h : j < 5) : (cs x)[j]? = some (.int .u32 (tn (fld x j))) := by
  match j, h with
  | 0, _ => rfl
  | 1, _ => rfl
  | 2, _ => rfl
  | 3, _ => rfl
  | 4, _ => rfl
theorem cs_sizes (x y : Sh.Ch) : (cs x).size = (cs y).size := rfl
theorem row_cs {w : World} {g : Nat} {x : Sh.Ch} (h : w.heap[g]? = some (.cells (cs x) 69 (0, 0))) : w.rowIs g 69 5 (fun j => .int .u32 (tn (fld x j))) := ⟨cs x, h, rfl, fun i hi => cs_fld x i hi⟩
theorem cs_row {w : World} {g : Nat} {x : Sh.Ch} (h : w.rowIs g 69 5 (fun j => .int .u32 (tn (fld x j)))) : w.heap[g]? = some (.cells (cs x) 69 (0, 0)) := by
  obtain ⟨c, hb, hn, hc⟩ := h
  rw [hb]
  congr 2
  apply Array.ext_getElem?
  intro i
  by_cases hi : i < 5
  · rw [hc i hi, cs_fld x i hi]
  · rw [Array.getElem?_eq_none (by omega), Array.getElem?_eq_none (by show 5 ≤ i; omega)]
theorem fld_add (c x : Sh.Ch) (j : Nat) : fld (Sh.add c x) j = fld c j + fld x j := by
  unfold fld Sh.add
  repeat' split
  all_goals rfl
/-- k words of the chain are the sums -/
structure Ad (w wr : World) (g : Nat) (c x : Sh.Ch) (k : Nat) : Prop where
  below : Below w.heap.size w wr
  lo : w.heap.size + 1 < g
  ch : wr.rowIs w.heap.size 69 5 (fun j => .int .u32 (tn (if j < k then fld c j + fld x j else fld c j)))
  res : wr.heap[w.heap.size + 1]? = some (.cells (cs ⟨0, 0, 0, 0, 0⟩) 69 (0, 0))
  lt : wr.rowIs (g + 1) 69 5 (fun j => .int .u32 (tn (fld x j)))
section
variable {w wr : World} {g k : Nat} {c x : Sh.Ch} {W : List UInt32}
theorem Pr.begin_ (h : Pr w wr g c x W) : Ad w wr g c x 0 := ⟨h.below, h.lo, (row_cs h.ch).congr fun j _ => by rw [if_neg (by omega)], h.res, row_cs h.lt⟩
theorem Ad.put (h : Ad w wr g c x k) (hk : k < 5) {y : UInt32} (hy : y = fld c k + fld x k) : Ad w (wr.setCell ⟨w.heap.size, k, none⟩ (.int .u32 (tn y))) g c x (k + 1) := by
  have hl := h.lo
  refine ⟨h.below.setCell (Nat.le_refl _) _, h.lo, (h.ch.set k _).congr fun j _ => ?_, ?_, h.lt.setOther (by show g + 1 ≠ w.heap.size; omega) _⟩
  · by_cases e : j = k
    · subst e; rw [if_pos rfl, if_pos (by omega), hy]
    · rw [if_neg e]
      by_cases hlt : j < k
      · rw [if_pos hlt, if_pos (by omega)]
      · rw [if_neg hlt, if_neg (by omega)]
  · rw [heap_setCell_other _ _ _ _ (by simp)]; exact h.res
theorem Ad.drew (h : Ad w wr g c x k) : Ad w wr.drew g c x k := ⟨h.below.drew, h.lo, h.ch, h.res, h.lt⟩
theorem Ad.done (h : Ad w wr g c x 5) : wr.heap[w.heap.size]? = some (.cells (cs (Sh.add c x)) 69 (0, 0)) :=
  cs_row (h.ch.congr fun j hj => by rw [if_pos hj, fld_add])
end

set_option maxHeartbeats 2000000 in
set_option maxRecDepth 100000 in
theorem rpress_any (c : Sh.Ch) (s : ByteArray) (w : World) (hs : s.size ≤ 100000) :
    Calls Tryz.prog 46 #[.agg (cs c), .string s] w fun e w' => e = .returned (.agg (cs (Sh.press c s.data.toList))) ∧ Below w.heap.size w w' := by
  have hz := zv29
  go_enter Tryz.func46, Tryz.ntmps46
  go_wp2_with fail
  refine (rexpand_any _ _ hs).mono ?_
  rintro e w1 ⟨rfl, hb1⟩
  have hst := Pr.start c (Sh.words s.data.toList) (hb1.mono (by simp))
  have HST := Lib.hid hst
  have hz1 := hb1.size
  simp at hz1
  have hch : w1.heap[w.heap.size]? = some (.cells (cs c) 69 (0, 0)) := by rw [hb1.block _ (by simp; omega), heap_alloc2_old]
  have HCH := Lib.hid hch
  have hnew := heap_alloc_new ((w1.alloc (.cells (ws []) 84)).setRow w1.heap.size (ws (Sh.words s.data.toList))) (.cells #[.int .u32 0, .int .u32 0, .int .u32 0, .int .u32 0, .int .u32 0] 69)
  rw [show ((w1.alloc (.cells (ws []) 84)).setRow w1.heap.size (ws (Sh.words s.data.toList))).heap.size = w1.heap.size + 1 by simp] at hnew
  have HNEW := Lib.hid hnew
  clear hnew
  clear hst hb1 hch
  go_wp2_with (first
    | (with_reducible refine wpList_store_row rfl 84 (.tmp 5) (.tmp 10) rfl w1.heap.size _ rfl rfl 84 (ws []) (heap_alloc_new _ _) (info29w _) (by rw [ws_size, ws_size]) (ws_one _) ?_)
    | (with_reducible refine wpList_load_row rfl 69 (.tmp 2) rfl w.heap.size rfl 69 (cs c) (0, 0) _ (by rw [setRow_other _ _ _ _ (by omega), heap_alloc_old _ _ (by omega)]; exact HCH.out) Tryz.underlying69 rfl (info27 c) ?_)
    | (with_reducible refine wpList_store_row rfl 69 (.tmp 6) (.tmp 11) rfl (w1.heap.size + 1) _ rfl rfl 69 _ HNEW.out (info27 c) (zero_size c) (cs_one c) ?_))
  clear hz HCH HNEW
  generalize hgg : w1.heap.size = g at *
  clear hgg
  go_loopg [7] 80 (fun gk i wr => ∃ t : Nat, t ≤ 80 ∧ gk = 80 - t ∧ i = .int .i64 t ∧ Pr w wr g c (Sh.stepsTo s.data.toList c t) (Sh.words s.data.toList))
  case atStart => exact ⟨0, Nat.zero_le _, rfl, rfl, HST.out⟩
  case round =>
    obtain ⟨t, ht, rfl, rfl, hpr⟩ := hrel
    clear HST
    by_cases hlt : t < 80
    · have h1 : (t : Int) < 80 := by omega
      have h0 : (0 : Int) ≤ t := by omega
      have hnx : Sh.stepsTo s.data.toList c (t + 1) = Sh.step (Sh.stepsTo s.data.toList c t) t ((Sh.words s.data.toList).getD t 0) := rfl
      have hcell := row_of hpr.wd t hlt
      generalize Sh.stepsTo s.data.toList c t = X at *
      generalize Sh.words s.data.toList = W at *
      generalize W.getD t 0 = v at *
      have HNX := Lib.hid hnx
      have HP := Lib.hid hpr
      clear hnx hpr
      go_wp2_with fail
      refine wp_region_any (by kernel_rfl) ?_
      change wpAny _ _ _ _ _ _ _ (World.drew _)
      refine wpAny_take (i := 1) (v := .int .i64 t) rfl (by kernel_rfl) (by kernel_rfl) (by kernel_rfl) (fun _ _ _ h => h) (Or.inl ⟨by rfl, fun w => by go_simp⟩) ?_
      go_simp
      refine wpAny_take (i := 2) (v := .int .i64 t) rfl (by kernel_rfl) (by kernel_rfl) (by kernel_rfl) (fun _ _ _ h => h) (Or.inl ⟨by rfl, fun w => by go_simp⟩) ?_
      go_simp
      refine wpAny_take (i := 3) (v := .pointer (some ⟨g, t, none⟩)) rfl (by kernel_rfl) (by kernel_rfl) (by kernel_rfl) (fun _ _ _ h => h) (Or.inl ⟨by rfl, fun w => by go_simp⟩) ?_
      go_simp
      refine wpAny_ready (rs := [0, 4]) (by kernel_rfl) (by simp) ?_
      refine AllReady.cons rfl (fun K hK => ?_) (AllReady.cons rfl (fun K hK => ?_) AllReady.nil)
      · rw [if_pos (by rfl)]
        refine wp_load_row 69 (.tmp 6) rfl (g + 1) rfl 69 (cs X) (0, 0) _ HP.out.lt Tryz.underlying69 rfl (info27 X) ?_
        refine hK _ _ ?_
        clear hK K
        go_simp
        refine wpAny_ready (rs := [4]) (by kernel_rfl) (by simp) ?_
        refine AllReady.cons rfl (fun K hK => ?_) AllReady.nil
        go_simp
        refine hK _ _ ?_
        clear hK K
        refine wpAny_ready (rs := [5]) (by kernel_rfl) (by simp) ?_
        refine AllReady.cons rfl (fun K hK => ?_) AllReady.nil
        go_simp
        refine (rstep_any X t v _).mono ?_
        rintro e w2 ⟨rfl, hb2⟩
        refine hK _ _ ?_
        clear hK K
        refine wpAny_ready (rs := [6]) (by kernel_rfl) (by simp) ?_
        refine AllReady.cons rfl (fun K hK => ?_) AllReady.nil
        rw [if_pos (by rfl)]
        refine wp_store_row 69 (.tmp 6) (.tmp 21) rfl (g + 1) _ rfl rfl 69 (cs X) (by rw [hb2.block _ HP.out.size]; exact HP.out.lt) (info27 _) rfl (cs_one _) ?_
        refine hK _ _ ?_
        clear hK K
        go_simp
        refine wpAny_done (by kernel_rfl) ?_ _
        go_wp2
        go_roundg (80 - (t + 1))
        case rel => exact ⟨t + 1, by omega, rfl, by go_num, by rw [HNX.out]; exact HP.out.step hb2 _⟩
        case measure => omega
      · go_simp
        refine hK _ _ ?_
        clear hK K
        refine wpAny_ready (rs := [0]) (by kernel_rfl) (by simp) ?_
        refine AllReady.cons rfl (fun K hK => ?_) AllReady.nil
        rw [if_pos (by rfl)]
        refine wp_load_row 69 (.tmp 6) rfl (g + 1) rfl 69 (cs X) (0, 0) _ HP.out.lt Tryz.underlying69 rfl (info27 X) ?_
        refine hK _ _ ?_
        clear hK K
        go_simp
        refine wpAny_ready (rs := [5]) (by kernel_rfl) (by simp) ?_
        refine AllReady.cons rfl (fun K hK => ?_) AllReady.nil
        go_simp
        refine (rstep_any X t v _).mono ?_
        rintro e w2 ⟨rfl, hb2⟩
        refine hK _ _ ?_
        clear hK K
        refine wpAny_ready (rs := [6]) (by kernel_rfl) (by simp) ?_
        refine AllReady.cons rfl (fun K hK => ?_) AllReady.nil
        rw [if_pos (by rfl)]
        refine wp_store_row 69 (.tmp 6) (.tmp 21) rfl (g + 1) _ rfl rfl 69 (cs X) (by rw [hb2.block _ HP.out.size]; exact HP.out.lt) (info27 _) rfl (cs_one _) ?_
        refine hK _ _ ?_
        clear hK K
        go_simp
        refine wpAny_done (by kernel_rfl) ?_ _
        go_wp2
        go_roundg (80 - (t + 1))
        case rel => exact ⟨t + 1, by omega, rfl, by go_num, by rw [HNX.out]; exact HP.out.step hb2 _⟩
        case measure => omega
    · obtain rfl : t = 80 := by omega
      have hfin : Sh.press c s.data.toList = Sh.add c (Sh.stepsTo s.data.toList c 80) := rfl
      generalize Sh.stepsTo s.data.toList c 80 = X at *
      have HF := Lib.hid hfin
      have hp2 := hpr.begin_
      have HP := Lib.hid hp2
      clear hfin hpr hp2
      go_wp2
      go_loopg [8] 5 (fun gk i wx => ∃ k : Nat, k ≤ 5 ∧ gk = 5 - k ∧ i = .int .i64 k ∧ Ad w wx g c X k)
      case atStart => exact ⟨0, Nat.zero_le _, rfl, rfl, HP.out⟩
      case round =>
        obtain ⟨k, hk, rfl, rfl, had⟩ := hrel
        clear HP
        by_cases hlt : k < 5
        · have h1 : (k : Int) < 5 := by omega
          have h0 : (0 : Int) ≤ k := by omega
          have hc1 : wr.cell? ⟨w.heap.size, k, none⟩ = some (.int .u32 (tn (fld c k))) := by rw [had.ch.cell hlt, if_neg (by omega)]
          have hc2 : wr.cell? ⟨g + 1, k, none⟩ = some (.int .u32 (tn (fld X k))) := had.lt.cell hlt
          have hf := had.ch.frozen k
          have HA := Lib.hid had
          clear had
          generalize hcv : fld c k = cv at *
          generalize hxv : fld X k = xv at *
          have HCV := Lib.hid hcv
          have HXV := Lib.hid hxv
          clear hcv hxv
          go_wp2_with fail
          go_region
          go_wp2
          go_roundg (5 - (k + 1))
          case rel => exact ⟨k + 1, by omega, rfl, by go_num, (HA.out.put hlt (by rw [HCV.out, HXV.out])).drew⟩
          case measure => omega
        · obtain rfl : k = 5 := by omega
          have hrow := had.done
          have hres := had.res
          have hbl := had.below
          have HR := Lib.hid hrow
          have HZ := Lib.hid hres
          clear had hrow hres
          go_wp2_with (first
            | (with_reducible refine wpList_load_row rfl 69 (.tmp 2) rfl w.heap.size rfl 69 (cs (Sh.add c X)) (0, 0) _ HR.out Tryz.underlying69 rfl (info27 _) ?_)
            | (with_reducible refine wpList_store_row rfl 69 (.tmp 4) (.tmp 35) rfl (w.heap.size + 1) (cs (Sh.add c X)) rfl rfl 69 _ HZ.out (info27 _) (cs_sizes _ _) (cs_one _) ?_))
          refine bodyPost_ret (results_cell_row Tryz.results46 _ _ (w.heap.size + 1) 69 (cs (Sh.add c X)) (0, 0) _ rfl (setRow_heap _ _ _ _ _ _ HZ.out) Tryz.underlying69 rfl (info27 _)) rfl ⟨by rw [HF.out], ?_⟩
          exact below_setRow hbl (by omega) _
end Go.Proofs.YtmbbigmnliiadaaGreatDoor.Hs
namespace Go.Proofs.YtmbbigmnliiadaaGreatDoor.Hs
open Go.RowKit
set_option linter.unusedVariables false

/-- a slice of bytes of the call's own, wherever it lies by now, its array marked or not: it reads as l -/
def Bts (w : World) (B : Nat) (v : Value) (l : List UInt8) : Prop :=
  ∃ g cap, v = .slice (some ⟨g, 0, none⟩) l.length cap ∧ B ≤ g ∧ g < w.heap.size ∧ l.length ≤ cap ∧ (∀ j, j < l.length → w.cell? ⟨g, j, none⟩ = some (.int .u8 (l.getD j 0).toNat)) ∧
    ∀ j, j < cap → (w.cell? ⟨g, j, none⟩).isSome = true ∧ w.frozen? ⟨g, j, none⟩ = false
section
variable {P : Program} {w w' : World} {B : Nat} {v : Value} {l : List UInt8}
theorem Bts.below (h : Bts w B v l) (hb : Below w.heap.size w w') : Bts w' B v l := by
  obtain ⟨g, cap, hv, h1, h2, h3, h4, h5⟩ := h
  exact ⟨g, cap, hv, h1, Nat.lt_of_lt_of_le h2 hb.size, h3, fun j hj => by rw [hb.cell (p := ⟨g, j, none⟩) h2]; exact h4 j hj, fun j hj => by rw [hb.cell (p := ⟨g, j, none⟩) h2, hb.frozen (p := ⟨g, j, none⟩) h2]; exact h5 j hj⟩
theorem Bts.alloc (h : Bts w B v l) (o : Obj) : Bts (w.alloc o) B v l := h.below ((Below.refl _ w).alloc (Nat.le_refl _) _)
theorem Bts.of_own {base n : Nat} (h : w.ownsRow base 5 1 v n (l.map fun c => .int .u8 c.toNat)) (hB : B ≤ base) (hl : l ≠ []) : Bts w B v l := by
  have hn : l.length = n := by have := h.1; simp at this; omega
  subst hn
  rcases h.2 with ⟨rfl, h0⟩ | ⟨g, cap, cur, rfl, hb, hg, hle, hm, hsz, htk⟩
  · exact absurd (List.eq_nil_of_length_eq_zero h0) hl
  · refine ⟨g, cap, rfl, Nat.le_trans hB hb, (Array.getElem?_eq_some_iff.1 hg).1, hle, fun j hj => ?_, fun j hj => ?_⟩
    · have := h.cells (g := g) rfl j (.int .u8 (l.getD j 0).toNat) (by simp [List.getD, List.getElem?_eq_getElem hj])
      rwa [show (⟨g, 0, none⟩ : Addr).add j = ⟨g, j, none⟩ by unfold Addr.add; split <;> simp_all] at this
    · rw [cell_of_row w g j cur 5 (0, 0) hg, frozen_of_row w g j cur 5 hg]
      refine ⟨?_, rfl⟩
      rw [Array.getElem?_eq_getElem (by omega)]; rfl
theorem add_zero_of (g j : Nat) : (⟨g, 0, none⟩ : Addr).add j = ⟨g, j, none⟩ := by unfold Addr.add; split <;> simp_all
theorem getD_snoc8 (l : List UInt8) (c : UInt8) (j : Nat) (h : j < l.length) : (l ++ [c]).getD j 0 = l.getD j 0 := by simp [List.getD, List.getElem?_append_left h]

/-- one byte more -/
theorem run_append_bts (t ty : TypeId) (i : TypeInfo) (ht : P.underlying t = some (.slice 5)) (hi : P.info? 5 = some i) (hz : i.zero = some (.int .u8 0)) (hs : i.size = 1) (hby : i.bytes = 1)
    (h : Bts w B v l) (hB : B ≤ w.heap.size) (c : UInt8) (x : Int) (hx : x = c.toNat) (hl : l.length + 1 ≤ 1000000) (ad : Addr) (hc : w.cell? ad = some (.int .u8 x)) (m : Nat) :
    ∃ v' w', (Builtin.append_ #[t, t] ty #[v, .slice (some ad) 1 m]).run P w = .ok v' w' ∧ Bts w' B v' (l ++ [c]) ∧ Below B w w' := by
  subst hx
  have hnews : ∀ (j : Nat) (u : Value), [Value.int .u8 c.toNat][j]? = some u → w.cell? (ad.add j) = some u := fun j u hu => by
    have hj : j = 0 := by
      rcases Nat.eq_zero_or_pos j with h0 | h0
      · exact h0
      · rw [List.getElem?_eq_none (by simp; omega)] at hu; cases hu
    subst hj
    simp at hu
    subst hu
    exact hc
  obtain ⟨g, cap, rfl, h1, h2, h3, h4, h5⟩ := h
  by_cases hroom : l.length + 1 ≤ cap
  · have hr := run_append_room_cells (P := P) w t ty 5 i ht hi g 0 l.length cap ad 1 m [.int .u8 c.toNat] (by simp [hs]) hnews (by simp [Value.oneCell']) hroom
      (fun j hj => by simp at hj; subst hj; simp [hs]; exact (h5 l.length (by omega)).1) (fun j hj => by simp at hj; subst hj; simp [hs]; exact (h5 l.length (by omega)).2)
    have hset : w.setCells g (0 + l.length * i.size) [.int .u8 c.toNat] = w.setCell ⟨g, l.length, none⟩ (.int .u8 c.toNat) := by simp [hs, World.setCells]
    rw [hset] at hr
    refine ⟨_, _, hr, ?_, (Below.refl _ w).setCell h1 _⟩
    refine ⟨g, cap, by simp, h1, by simpa using h2, by simpa using hroom, fun j hj => ?_, fun j hj => ?_⟩
    · simp at hj
      by_cases e : j = l.length
      · subst e
        have hsome := (h5 l.length (by omega)).1
        rw [World.cell?_setCell_same' _ _ _ hsome]
        simp
      · rw [World.cell?_setCell_other _ _ _ _ (fun e' => by injection e' with _ e'; exact e e'.symm), h4 j (by omega), getD_snoc8 _ _ _ (by omega)]
    · refine ⟨?_, by simpa using (h5 j hj).2⟩
      by_cases e : j = l.length
      · subst e
        rw [World.cell?_setCell_same' _ _ _ (h5 l.length hj).1]; rfl
      · rw [World.cell?_setCell_other _ _ _ _ (fun e' => by injection e' with _ e'; exact e e'.symm)]
        exact (h5 j hj).1
  · have hr := run_append_arg_grows (P := P) w t ty 5 i (.int .u8 0) 1 1 ht hi hz hs hby rfl (by omega) ⟨g, 0, none⟩ l.length cap (l.map fun c => .int .u8 c.toNat) (by simp)
      (fun j u hu => by
        have hj : j < l.length := by
          rcases Nat.lt_or_ge j l.length with hlt | hge
          · exact hlt
          · rw [List.getElem?_eq_none (by simpa using hge)] at hu; cases hu
        rw [add_zero_of, h4 j hj, ← hu]
        simp [List.getD, List.getElem?_eq_getElem hj]) ad 1 m [.int .u8 c.toNat] rfl hnews (by omega) (by unfold maxLen; omega) (by omega)
    obtain ⟨v', w', hrun, hown, hg⟩ := hr
    refine ⟨v', w', hrun, ?_, (Below.refl _ w).grown hg hB (fun k hk => by cases hk)⟩
    refine Bts.of_own (base := w.heap.size) (n := l.length + 1) ?_ hB (by simp)
    simpa using hown
/-- .. at the operation, for the walk -/
theorem wpList_append_bts {ops : Array Oper} {rest : List Oper} {o : Oper} {a : Act} {Q : Exit → Act → World → Prop} (hgd : o.guard = none) (s x : Operand) (t : TypeId)
    (ho : o.op = .call { callee := .builtin .append, args := #[s, x], argTypes := #[t, t] }) (i : TypeInfo) (ht : P.underlying t = some (.slice 5)) (hi : P.info? 5 = some i) (hz : i.zero = some (.int .u8 0)) (hs : i.size = 1) (hby : i.bytes = 1)
    (hv : a.eval s = v) (h : Bts w B v l) (hB : B ≤ w.heap.size) (c : UInt8) (y : Int) (hy : y = c.toNat) (hl : l.length + 1 ≤ 1000000) (ad : Addr) (m : Nat) (hx : a.eval x = .slice (some ad) 1 m) (hc : w.cell? ad = some (.int .u8 y))
    (hK : ∀ v' w', Bts w' B v' (l ++ [c]) → Below B w w' → wpList P ops Q rest (a.put o.dst v') w') : wpList P ops Q (o :: rest) a w := by
  refine wpList_plain hgd fun K hK' => ?_
  obtain ⟨v', w', hrun, h1, h2⟩ := run_append_bts (P := P) t o.type i ht hi hz hs hby h hB c y hy hl ad hc m
  unfold Oper.wp
  simp [execOp, ho, resolve, invoke, builtin, hv, hx, hrun, Result.andThen]
  exact hK' _ _ (hK v' w' h1 h2)
/-- what '[]byte(s)' lays -/
theorem bts_of_string (w : World) (s : ByteArray) (hc : s.size ≤ 1000000) : Bts (w.drew.alloc (.cells (bytesRow s (grownCap w s.size 0 5)) 5 ((bytesRow s (grownCap w s.size 0 5)).size, (bytesRow s (grownCap w s.size 0 5)).size + 1))) w.heap.size
    (.slice (some ⟨w.heap.size, 0, none⟩) s.size (grownCap w s.size 0 5)) s.data.toList := by
  have hge := grownCap_ge w s.size 0 5
  have hsz : (bytesRow s (grownCap w s.size 0 5)).size = grownCap w s.size 0 5 := by simp [bytesRow]; have : s.data.size = s.size := rfl; omega
  have hh : (w.drew.alloc (.cells (bytesRow s (grownCap w s.size 0 5)) 5 ((bytesRow s (grownCap w s.size 0 5)).size, (bytesRow s (grownCap w s.size 0 5)).size + 1))).heap[w.heap.size]? = some (.cells (bytesRow s (grownCap w s.size 0 5)) 5 ((bytesRow s (grownCap w s.size 0 5)).size, (bytesRow s (grownCap w s.size 0 5)).size + 1)) := heap_alloc_new w.drew _
  refine ⟨w.heap.size, grownCap w s.size 0 5, by simp, Nat.le_refl _, by simp, by simpa using hge, fun j hj => ?_, fun j hj => ?_⟩
  · rw [cell_of_row _ _ j _ _ _ hh]
    have hj' : j < s.data.size := by simpa using hj
    simp only [bytesRow]
    rw [Array.getElem?_append_left (by simpa using hj'), Array.getElem?_map, Array.getElem?_eq_getElem hj', List.getD_eq_getElem?_getD, List.getElem?_eq_getElem (by simpa using hj')]
    simp
  · rw [cell_of_row _ _ j _ _ _ hh]
    refine ⟨by rw [Array.getElem?_eq_getElem (by omega)]; rfl, ?_⟩
    generalize hW : (w.drew.alloc (.cells (bytesRow s (grownCap w s.size 0 5)) 5 ((bytesRow s (grownCap w s.size 0 5)).size, (bytesRow s (grownCap w s.size 0 5)).size + 1))) = W at hh ⊢
    unfold World.frozen?
    rw [hh]
    simp
    omega
theorem bts_string {v : Value} {l : List UInt8} (src dst : TypeId) (hs : P.underlying src = some (.slice 5)) (he : P.underlying 5 = some (.int .u8)) (hd : P.underlying dst = some .string) (h : Bts w B v l) :
    (convert src dst v).run P w = .ok (.string ⟨l.toArray⟩) w := by
  obtain ⟨g, cap, rfl, h1, h2, h3, h4, h5⟩ := h
  rw [run_convert_bytes_arg w src 5 hs he g 0 l.length cap (l.map fun c => (c.toNat : Int)) (by simp) (fun i hi => by
    rw [Nat.zero_add, h4 i hi]
    simp [List.getD, List.getElem?_eq_getElem hi]) dst hd]
  simp [strOfNums, Function.comp_def]
theorem bts_len {v : Value} {l : List UInt8} (h : Bts w B v l) : ∃ A cap, v = .slice A l.length cap := by
  obtain ⟨g, cap, rfl, _⟩ := h
  exact ⟨_, _, rfl⟩
end
end Go.Proofs.YtmbbigmnliiadaaGreatDoor.Hs
namespace Go.Proofs.YtmbbigmnliiadaaGreatDoor.Hs
open Go.RowKit
set_option linter.unusedVariables false

namespace Sh
/-- how many noughts fill up -/
def nought (n : Nat) : Nat := (119 - n % 64) % 64
/-- the byte i of a number, the lowest is 0 -/
def byteOf (n i : Nat) : UInt8 := UInt8.ofNat (n / 2 ^ (8 * i) % 256)
/-- the bytes from the highest on, but for the k lowest -/
def highs (n : Nat) : Nat → List UInt8
  | 0 => []
  | j + 1 => highs n j ++ [byteOf n (7 - j)]
def pad (l : List UInt8) (k : Nat) : List UInt8 := l ++ [128] ++ List.replicate k 0
def fill (l : List UInt8) : List UInt8 := pad l (nought l.length) ++ highs (l.length * 8) 8
theorem pad_length (l : List UInt8) (k : Nat) : (pad l k).length = l.length + 1 + k := by simp [pad]; omega
theorem pad_succ (l : List UInt8) (k : Nat) : pad l (k + 1) = pad l k ++ [0] := by simp [pad, List.replicate_succ']
theorem highs_length (n j : Nat) : (highs n j).length = j := by
  induction j with
  | zero => rfl
  | succ j ih => simp [highs, ih]
end Sh

theorem info5 : (Tryz.prog.info? 5).map (fun i => (i.zero, i.size, i.bytes)) = some (some (.int .u8 0), 1, 1) := by kernel_rfl

theorem byte_of (n j : Nat) : (n : Int) * 8 / 2 ^ (8 * j) % 256 = ((Sh.byteOf (n * 8) j).toNat : Int) := by
  rw [Sh.byteOf, UInt8.toNat_ofNat', Nat.mod_eq_of_lt (show n * 8 / 2 ^ (8 * j) % 256 < 2 ^ 8 from Nat.mod_lt _ (by omega))]
  have h : (((2 : Nat) ^ (8 * j) : Nat) : Int) = (2 : Int) ^ (8 * j) := by simp
  rw [← h, Int.natCast_emod, Int.natCast_ediv, Int.natCast_mul]
  rfl

set_option maxHeartbeats 2000000 in
set_option maxRecDepth 100000 in
theorem rfill_any (s : ByteArray) (w : World) (hs : s.size ≤ 100000) :
    Calls Tryz.prog 40 #[.string s] w fun e w' => e = .returned (.string ⟨(Sh.fill s.data.toList).toArray⟩) ∧ Below w.heap.size w w' := by
  have hconv := fun W => run_bytes_of_string (P := Tryz.prog) W 9 54 5 s Tryz.underlying9 Tryz.underlying54 Tryz.underlying5
  obtain ⟨i0, hi0, hz0, hz1, hz2⟩ := info_parts info5
  have HI := Lib.hid (And.intro hi0 (And.intro hz0 (And.intro hz1 hz2)))
  clear hi0 hz0 hz1 hz2
  have hlen : s.data.toList.length = s.size := by simp
  have HLEN := Lib.hid hlen
  clear hlen
  go_enter Tryz.func40, Tryz.ntmps40
  have hb0 := (bts_of_string w s (by omega)).alloc (.cells #[.int .u8 128] 5)
  have hbel : Below w.heap.size w ((w.drew.alloc (.cells (bytesRow s (grownCap w s.size 0 5)) 5 ((bytesRow s (grownCap w s.size 0 5)).size, (bytesRow s (grownCap w s.size 0 5)).size + 1))).alloc (.cells #[.int .u8 128] 5)) :=
    (Below.alloc (Below.refl _ w).drew (Nat.le_refl _) _).alloc (by simp) _
  have hc0 := cell_one_new (w.drew.alloc (.cells (bytesRow s (grownCap w s.size 0 5)) 5 ((bytesRow s (grownCap w s.size 0 5)).size, (bytesRow s (grownCap w s.size 0 5)).size + 1))) (.int .u8 128) 5 0 (.int .u8 128) rfl
  rw [show (w.drew.alloc (.cells (bytesRow s (grownCap w s.size 0 5)) 5 ((bytesRow s (grownCap w s.size 0 5)).size, (bytesRow s (grownCap w s.size 0 5)).size + 1))).heap.size = w.heap.size + 1 by simp, add_zero_of] at hc0
  have HB0 := Lib.hid hb0
  have HC0 := Lib.hid hc0
  have HBE := Lib.hid hbel
  clear hb0 hc0 hbel
  go_wp2_with (at_builtin; refine wpList_append_bts rfl (.tmp 7) (.tmp 8) 54 rfl i0 Tryz.underlying54 HI.out.1 HI.out.2.1 HI.out.2.2.1 HI.out.2.2.2 rfl (B := w.heap.size) (l := s.data.toList) ?_ ?_ 128 128 rfl (by rw [HLEN.out]; omega) ⟨w.heap.size + 1, 0, none⟩ 1 rfl ?_ ?_; exact HB0.out; exact HBE.out.size; exact HC0.out; intro v1 w1 hb1 hw1; have hw2 := HBE.out.trans hw1; clear hw1)
  have hcap : Sh.nought s.size < 64 := Nat.mod_lt _ (by omega)
  have hnt : ∀ k, k < Sh.nought s.size → (s.size + 1 + k) % 64 ≠ 56 := fun k hk => by unfold Sh.nought at hk; omega
  have hnz : (s.size + 1 + Sh.nought s.size) % 64 = 56 := by unfold Sh.nought; omega
  have hfl : Sh.fill s.data.toList = Sh.pad s.data.toList (Sh.nought s.size) ++ Sh.highs (s.size * 8) 8 := by rw [Sh.fill, HLEN.out]
  generalize Sh.nought s.size = K at *
  have HNT := Lib.hid hnt
  have HNZ := Lib.hid hnz
  have HFL := Lib.hid hfl
  have HP0 := Lib.hid (show Bts w1 w.heap.size v1 (Sh.pad s.data.toList 0) by simpa [Sh.pad] using hb1)
  clear hnt hnz hfl hb1 HB0 HC0 HBE hconv
  go_loopg [3] K (fun g v wr => ∃ k : Nat, k ≤ K ∧ g = K - k ∧ Bts wr w.heap.size v (Sh.pad s.data.toList k) ∧ Below w.heap.size w wr)
  case atStart => exact ⟨0, Nat.zero_le _, rfl, HP0.out, hw2⟩
  case round =>
    obtain ⟨k, hk, rfl, hb, hbl⟩ := hrel
    clear HP0 hw2
    have HB := Lib.hid hb
    obtain ⟨A, cap, rfl⟩ := bts_len hb
    clear hb
    have hpl : (Sh.pad s.data.toList k).length = s.size + 1 + k := by rw [Sh.pad_length, HLEN.out]
    have hsz := hbl.size
    by_cases hlt : k < K
    · have ht : (((s.size : Int) + 1 + k) % 64 != 56) = true := by have := HNT.out k hlt; simp; omega
      have hb2 := HB.out.alloc (.cells #[.int .u8 0] 5)
      have hc2 := cell_one_new wr (.int .u8 0) 5 0 (.int .u8 0) rfl
      rw [add_zero_of] at hc2
      have HB2 := Lib.hid hb2
      have HC2 := Lib.hid hc2
      clear hb2 hc2
      go_wp2_with (at_builtin; refine wpList_append_bts rfl (.tmp 14) (.tmp 15) 54 rfl i0 Tryz.underlying54 HI.out.1 HI.out.2.1 HI.out.2.2.1 HI.out.2.2.2 rfl (B := w.heap.size) (l := Sh.pad s.data.toList k) ?_ ?_ 0 0 rfl (by rw [Sh.pad_length, HLEN.out]; omega) ⟨wr.heap.size, 0, none⟩ 1 rfl ?_ ?_; exact HB2.out; exact (by simp; omega); exact HC2.out; intro v2 w2 hb3 hw3)
      have HB3 := Lib.hid hb3
      have HW3 := Lib.hid ((hbl.alloc hsz (.cells #[.int .u8 0] 5)).trans hw3)
      clear hb3 hw3
      go_roundg (K - (k + 1))
      case rel => exact ⟨k + 1, by omega, rfl, by rw [Sh.pad_succ]; exact HB3.out, HW3.out⟩
      case measure => omega
    · obtain rfl : k = K := by omega
      have ht : (((s.size : Int) + 1 + k) % 64 != 56) = false := by have := HNZ.out; simp; omega
      have HBL := Lib.hid hbl
      clear hbl
      go_wp2
      clear hpl
      go_loopg [3, 5] 8 (fun g v i wx => ∃ (j : Nat) (x : Int), j ≤ 8 ∧ g = j ∧ x = (j : Int) - 1 ∧ i = .int .i64 x ∧ Bts wx w.heap.size v (Sh.pad s.data.toList k ++ Sh.highs (s.size * 8) (8 - j)) ∧ Below w.heap.size w wx)
      case atStart => exact ⟨8, 7, Nat.le_refl _, rfl, rfl, rfl, by simpa [Sh.highs] using HB.out, HBL.out⟩
      case round =>
        obtain ⟨j, x, hj, rfl, hx, rfl, hb, hbl⟩ := hrel
        clear HB HBL
        have HB := Lib.hid hb
        cases gk with
        | zero =>
          obtain rfl : x = -1 := by omega
          clear hx
          have hconv := bts_string (P := Tryz.prog) 54 9 Tryz.underlying54 Tryz.underlying5 Tryz.underlying9 hb
          rw [← HFL.out] at hconv
          clear hb
          go_wp2
          go_ret
          exact ⟨rfl, hbl⟩
        | succ j =>
          obtain rfl : x = (j : Int) := by omega
          clear hx
          obtain ⟨A, cap, rfl⟩ := bts_len hb
          clear hb
          have hsz := hbl.size
          have hj7 : j ≤ 7 := by omega
          have hyv := byte_of s.size j
          have hnx : Sh.highs (s.size * 8) (8 - j) = Sh.highs (s.size * 8) (8 - (j + 1)) ++ [Sh.byteOf (s.size * 8) j] := by
            rw [show 8 - j = 8 - (j + 1) + 1 by omega, Sh.highs, show 7 - (8 - (j + 1)) = j by omega]
          have HYV := Lib.hid hyv
          have HNX := Lib.hid hnx
          have hb2 := HB.out.alloc (.cells #[.int .u8 ((s.size : Int) * 8 / 2 ^ (8 * j) % 256)] 5)
          have hc2 := cell_one_new wr (.int .u8 ((s.size : Int) * 8 / 2 ^ (8 * j) % 256)) 5 0 (.int .u8 ((s.size : Int) * 8 / 2 ^ (8 * j) % 256)) rfl
          rw [add_zero_of] at hc2
          have hl2 : (Sh.pad s.data.toList k ++ Sh.highs (s.size * 8) (8 - (j + 1))).length + 1 ≤ 1000000 := by rw [List.length_append, Sh.pad_length, Sh.highs_length, HLEN.out]; omega
          have HB2 := Lib.hid hb2
          have HC2 := Lib.hid hc2
          have HL2 := Lib.hid hl2
          have HA := Lib.hid (hbl.alloc hsz (.cells #[.int .u8 ((s.size : Int) * 8 / 2 ^ (8 * j) % 256)] 5))
          clear hyv hnx hb2 hc2 hl2
          go_wp2_with (at_builtin; refine wpList_append_bts rfl (.tmp 25) (.tmp 32) 54 rfl i0 Tryz.underlying54 HI.out.1 HI.out.2.1 HI.out.2.2.1 HI.out.2.2.2 rfl (B := w.heap.size) (l := Sh.pad s.data.toList k ++ Sh.highs (s.size * 8) (8 - (j + 1))) ?_ ?_ (Sh.byteOf (s.size * 8) j) ((s.size : Int) * 8 / 2 ^ (8 * j) % 256) HYV.out HL2.out ⟨wr.heap.size, 0, none⟩ 1 rfl ?_ ?_; exact HB2.out; exact (by simp; omega); exact HC2.out; intro v2 w2 hb3 hw3)
          have HB3 := Lib.hid hb3
          have HW3 := Lib.hid (HA.out.trans hw3)
          clear hb3 hw3
          go_roundg j
          case rel => exact ⟨j, _, by omega, rfl, rfl, rfl, by rw [HNX.out, ← List.append_assoc]; exact HB3.out, HW3.out⟩
          case measure => omega
end Go.Proofs.YtmbbigmnliiadaaGreatDoor.Hs
namespace Go.Proofs.YtmbbigmnliiadaaGreatDoor.Hs
open Go.RowKit
set_option linter.unusedVariables false
attribute [local go_sem] t_and t_or t_xor t_not t_add t_sub t_add_wrap t_sub_wrap

namespace Sh
/-- the chain behind k blocks -/
def chain (f : List UInt8) : Nat → Ch
  | 0 => first
  | k + 1 => press (chain f k) ((f.drop (64 * k)).take 64)
/-- a word's bytes, the highest first -/
def be4 (x : UInt32) : List UInt8 := [UInt8.ofNat (x.toNat / 16777216 % 256), UInt8.ofNat (x.toNat / 65536 % 256), UInt8.ofNat (x.toNat / 256 % 256), UInt8.ofNat (x.toNat % 256)]
def told (x : Ch) : Nat → List UInt8
  | 0 => []
  | k + 1 => told x k ++ be4 (fld x k)
def sum (l : List UInt8) : List UInt8 := told (chain (fill l) ((fill l).length / 64)) 5
theorem fill_length (l : List UInt8) : (fill l).length % 64 = 0 := by
  rw [fill, List.length_append, pad_length, highs_length]
  unfold nought
  omega
theorem told_length (x : Ch) (k : Nat) : (told x k).length = 4 * k := by
  induction k with
  | zero => rfl
  | succ k ih => simp [told, ih, be4]; omega
end Sh

theorem be4_parts (x : UInt32) : ∃ b0 b1 b2 b3 : UInt8, Sh.be4 x = [b0, b1, b2, b3] ∧ IntKind.u8.wrap (tn x / 16777216) = (b0.toNat : Int) ∧ IntKind.u8.wrap (tn x / 65536) = (b1.toNat : Int) ∧ IntKind.u8.wrap (tn x / 256) = (b2.toNat : Int) ∧ IntKind.u8.wrap (tn x) = (b3.toNat : Int) := by
  have hx := w_lt x
  have hw : ∀ n : Nat, IntKind.u8.wrap (n : Int) = ((UInt8.ofNat (n % 256)).toNat : Int) := fun n => by
    rw [UInt8.toNat_ofNat', Nat.mod_eq_of_lt (show n % 256 < 2 ^ 8 from Nat.mod_lt _ (by omega))]
    simp [IntKind.wrap, IntKind.bits, IntKind.signed]
  refine ⟨_, _, _, _, rfl, ?_, ?_, ?_, ?_⟩
  · rw [← hw]; rfl
  · rw [← hw]; rfl
  · rw [← hw]; rfl
  · rw [← hw]; rfl
theorem grown_cell {w w' : World} {row : Option Nat} (h : w.grownBy w' row) {p : Addr} (hp : p.block < w.heap.size) (hne : row ≠ some p.block) : w'.cell? p = w.cell? p :=
  World.cell?_of_block (h.block p.block hp (fun e => hne e.symm))

/-- the state of Sum's loop: the chain's row -/
structure Su (w wr : World) (g : Nat) (x : Sh.Ch) : Prop where
  below : Below w.heap.size w wr
  lo : w.heap.size ≤ g
  row : wr.heap[g]? = some (.cells (cs x) 69 (0, 0))
theorem Su.lt {w wr : World} {g : Nat} {x : Sh.Ch} (h : Su w wr g x) : g < wr.heap.size := (Array.getElem?_eq_some_iff.1 h.row).1
theorem Su.step {w wr w1 : World} {g : Nat} {x : Sh.Ch} (h : Su w wr g x) (hb : Below wr.heap.size wr.drew w1) (y : Sh.Ch) : Su w (w1.setRow g (cs y)) g y :=
  ⟨below_setRow (h.below.drew.trans (hb.mono h.below.size)) h.lo _, h.lo, setRow_heap _ _ (cs x) _ _ _ (by rw [hb.block _ h.lt]; exact h.row)⟩

theorem own_text {w : World} {base n : Nat} {v : Value} {l : List UInt8} (h : w.ownsRow base 5 1 v n (l.map fun c => .int .u8 c.toNat)) : (convert 54 9 v).run Tryz.prog w = .ok (.string ⟨l.toArray⟩) w := by
  cases hl : l with
  | nil =>
    subst hl
    have hn : n = 0 := by have := h.1; simp at this; omega
    subst hn
    rcases h.2 with ⟨rfl, _⟩ | ⟨g, cap, cur, rfl, _, _⟩
    · exact run_convert_bytes_nil w 54 5 Tryz.underlying54 Tryz.underlying5 0 0 9 Tryz.underlying9
    · rw [run_convert_bytes_arg w 54 5 Tryz.underlying54 Tryz.underlying5 g 0 0 cap [] rfl (fun i hi => by omega) 9 Tryz.underlying9]; rfl
  | cons a r =>
    rw [← hl]
    exact bts_string (B := base) 54 9 Tryz.underlying54 Tryz.underlying5 Tryz.underlying9 (Bts.of_own h (Nat.le_refl _) (by rw [hl]; simp))

set_option maxHeartbeats 400000 in
set_option maxRecDepth 100000 in
theorem rsum_any (s : ByteArray) (w : World) (hs : s.size ≤ 90000) :
    Calls Tryz.prog 47 #[.string s] w fun e w' => e = .returned (.string ⟨(Sh.sum s.data.toList).toArray⟩) ∧ Below w.heap.size w w' := by
  obtain ⟨i0, hi0, hz0, hz1, hz2⟩ := info_parts info5
  have HI := Lib.hid (And.intro hi0 (And.intro hz0 (And.intro hz1 hz2)))
  clear hi0 hz0 hz1 hz2
  have hfl : (Sh.fill s.data.toList).length ≤ 100000 := by
    rw [Sh.fill, List.length_append, Sh.pad_length, Sh.highs_length]
    have : Sh.nought s.data.toList.length < 64 := Nat.mod_lt _ (by omega)
    simp at this ⊢
    omega
  go_enter Tryz.func47, Tryz.ntmps47
  go_wp2_with fail
  refine (rfill_any _ _ (by omega)).mono ?_
  rintro e w1 ⟨rfl, hb1⟩
  have hsum : Sh.sum s.data.toList = Sh.told (Sh.chain (Sh.fill s.data.toList) ((Sh.fill s.data.toList).length / 64)) 5 := rfl
  have h64 := Sh.fill_length s.data.toList
  generalize hF : (⟨(Sh.fill s.data.toList).toArray⟩ : ByteArray) = F at *
  have hFl : Sh.fill s.data.toList = F.data.toList := by rw [← hF]
  rw [hFl] at hsum h64 hfl
  have hFs : F.data.toList.length = F.size := by simp
  rw [hFs] at hsum h64 hfl
  have HSUM := Lib.hid hsum
  have H64 := Lib.hid h64
  clear hsum h64 hF hFl hFs
  go_wp2_with fail
  refine (rfirst_any _).mono ?_
  rintro e w2 ⟨rfl, hb2⟩
  have hnew := heap_alloc_new w2 (.cells #[.int .u32 0, .int .u32 0, .int .u32 0, .int .u32 0, .int .u32 0] 69)
  have hst : Su w ((w2.alloc (.cells #[.int .u32 0, .int .u32 0, .int .u32 0, .int .u32 0, .int .u32 0] 69)).setRow w2.heap.size (cs Sh.first)) w2.heap.size Sh.first := by
    have hbw := hb1.trans (hb2.mono hb1.size)
    exact ⟨below_setRow (hbw.alloc hbw.size _) hbw.size _, hbw.size, setRow_heap _ _ _ _ _ _ hnew⟩
  have HNEW := Lib.hid hnew
  have HST := Lib.hid hst
  clear hnew hst hb1 hb2
  go_wp2_with (with_reducible refine wpList_store_row rfl 69 (.tmp 4) (.tmp 10) rfl w2.heap.size _ rfl rfl 69 _ HNEW.out (info27 _) (zero_size _) (cs_one _) ?_)
  clear HNEW
  generalize hgg : w2.heap.size = g at *
  clear hgg
  go_loopg [5] (F.size / 64) (fun gk i wr => ∃ (k j : Nat), k ≤ F.size / 64 ∧ j = 64 * k ∧ gk = F.size / 64 - k ∧ i = .int .i64 j ∧ Su w wr g (Sh.chain F.data.toList k))
  case atStart => exact ⟨0, 0, Nat.zero_le _, rfl, rfl, rfl, HST.out⟩
  case round =>
    obtain ⟨k, j, hk, hj, rfl, rfl, hsu⟩ := hrel
    clear HST
    by_cases hlt : k < F.size / 64
    · have hjs : j + 64 ≤ F.size := by omega
      have HJ := Lib.hid hj
      clear hj
      have h1 : (j : Int) < F.size := by omega
      have h2 : (0 : Int) ≤ j := by omega
      have h3 : (j : Int) + 64 ≤ F.size := by omega
      have hw64 : IntKind.i64.wrap ((j : Int) + 64) = (j : Int) + 64 := IntWalk.i64_in _ (by omega)
      have h4 : (0 : Int) ≤ (j : Int) + 64 := by omega
      have h5 : (j : Int) ≤ (j : Int) + 64 := by omega
      have h6 : ((j : Int) + 64).toNat = j + 64 := by omega
      have hnx : Sh.chain F.data.toList (k + 1) = Sh.press (Sh.chain F.data.toList k) ((F.data.toList.drop (64 * k)).take 64) := rfl
      generalize Sh.chain F.data.toList k = X at *
      have HNX := Lib.hid hnx
      have HS := Lib.hid hsu
      clear hnx hsu
      go_wp2_with fail
      refine wp_region_any (by kernel_rfl) ?_
      change wpAny _ _ _ _ _ _ _ (World.drew _)
      refine wpAny_take (i := 1) (v := .string F) rfl (by kernel_rfl) (by kernel_rfl) (by kernel_rfl) (fun _ _ _ h => h) (Or.inl ⟨by rfl, fun w => by go_simp⟩) ?_
      go_simp
      refine wpAny_take (i := 2) (v := .int .i64 j) rfl (by kernel_rfl) (by kernel_rfl) (by kernel_rfl) (fun _ _ _ h => h) (Or.inl ⟨by rfl, fun w => by go_simp⟩) ?_
      go_simp
      refine wpAny_take (i := 3) (v := .int .i64 j) rfl (by kernel_rfl) (by kernel_rfl) (by kernel_rfl) (fun _ _ _ h => h) (Or.inl ⟨by rfl, fun w => by go_simp⟩) ?_
      go_simp
      refine wpAny_take (i := 4) (v := .int .i64 ((j : Int) + 64)) rfl (by kernel_rfl) (by kernel_rfl) (by kernel_rfl) (fun _ _ _ h => h) (Or.inl ⟨by rfl, fun w => by go_simp⟩) ?_
      go_simp
      refine wpAny_take (i := 5) (v := .string (F.extract j (j + 64))) rfl (by kernel_rfl) (by kernel_rfl) (by kernel_rfl) (fun _ _ _ h => h) (Or.inl ⟨by rfl, fun w => by go_simp⟩) ?_
      go_simp
      refine wpAny_ready (rs := [0]) (by kernel_rfl) (by simp) ?_
      refine AllReady.cons rfl (fun K hK => ?_) AllReady.nil
      rw [if_pos (by rfl)]
      refine wp_load_row 69 (.tmp 4) rfl g rfl 69 (cs X) (0, 0) _ HS.out.row Tryz.underlying69 rfl (info27 X) ?_
      refine hK _ _ ?_
      clear hK K
      go_simp
      refine wpAny_ready (rs := [6]) (by kernel_rfl) (by simp) ?_
      refine AllReady.cons rfl (fun K hK => ?_) AllReady.nil
      go_simp
      refine (rpress_any X (F.extract j (j + 64)) _ (by rw [ByteArray.size_extract]; omega)).mono ?_
      have hlist : (F.extract j (j + 64)).data.toList = (F.data.toList.drop (64 * k)).take 64 := by rw [← HJ.out]; simp [List.extract_eq_take_drop]
      generalize (F.extract j (j + 64)).data.toList = L at *
      have HLI := Lib.hid hlist
      clear hlist
      rintro e w3 ⟨rfl, hb3⟩
      refine hK _ _ ?_
      clear hK K
      refine wpAny_ready (rs := [7]) (by kernel_rfl) (by simp) ?_
      refine AllReady.cons rfl (fun K hK => ?_) AllReady.nil
      rw [if_pos (by rfl)]
      refine wp_store_row 69 (.tmp 4) (.tmp 23) rfl g _ rfl rfl 69 (cs X) (by rw [hb3.block _ HS.out.lt]; exact HS.out.row) (info27 _) (cs_sizes _ _) (cs_one _) ?_
      refine hK _ _ ?_
      clear hK K
      go_simp
      refine wpAny_done (by kernel_rfl) ?_ _
      go_wp2
      go_roundg (F.size / 64 - (k + 1))
      case rel =>
        have hfin := HS.out.step hb3 (Sh.press X L)
        have e1 : Sh.chain F.data.toList (k + 1) = Sh.press X L := by rw [HNX.out, ← HLI.out]
        refine ⟨k + 1, j + 64, by omega, by have := HJ.out; omega, rfl, ?_, ?_⟩
        · go_num
        · rw [e1]
          exact hfin
      case measure => omega
    · obtain rfl : k = F.size / 64 := by omega
      have h1 : ¬ (j : Int) < F.size := by have := H64.out; omega
      generalize Sh.chain F.data.toList (F.size / 64) = X at *
      have HS := Lib.hid hsu
      clear hsu hj
      go_wp2
      go_loopg [6, 7] 5 (fun gk v i wx => ∃ k : Nat, k ≤ 5 ∧ gk = 5 - k ∧ i = .int .i64 k ∧ Su w wx g X ∧ wx.ownsRow (g + 1) 5 1 v (4 * k) ((Sh.told X k).map fun c => .int .u8 c.toNat))
      case atStart => exact ⟨0, Nat.zero_le _, rfl, rfl, HS.out, World.ownsRow_nil _ _ _ _⟩
      case round =>
        obtain ⟨k, hk, rfl, rfl, hsu, hown⟩ := hrel
        clear HS
        by_cases hlt : k < 5
        · have h1 : (k : Int) < 5 := by omega
          have h0 : (0 : Int) ≤ k := by omega
          have hc := (row_cs hsu.row).cell hlt
          have hglt := hsu.lt
          have hblw := hsu.below.size
          have hlo := hsu.lo
          have hnx : Sh.told X (k + 1) = Sh.told X k ++ Sh.be4 (fld X k) := rfl
          generalize fld X k = x at *
          generalize hxs : ((Sh.told X k).map fun c => Value.int .u8 c.toNat) = xs at *
          have HX := Lib.hid hxs
          have HNX := Lib.hid hnx
          have HO := Lib.hid hown
          have HS := Lib.hid hsu
          clear hxs hnx hown hsu
          have hx0 := tn_nonneg x
          have hx1 := tn_lt x
          obtain ⟨b0, b1, b2, b3, hbe, q0, q1, q2, q3⟩ := be4_parts x
          have HBE := Lib.hid hbe
          have hne : u6.ownBlock ≠ some g := fun e => by have := (HO.out.lt g e).1; omega
          have HF := Lib.hid hne
          clear hbe hne
          go_wp2_with fail
          go_region_held3 (fun w' => w'.cell? ⟨g, k, none⟩ = some (.int .u32 (tn x))) (first | go_keep | (rw [grown_cell hgrow (p := ⟨g, k, none⟩) (by simp; omega) HF.out]; assumption))
            (first | (refine step_append_lies _ (by rfl) _ _ _ (by rfl) (g + 1) 5 i0 _ 1 1 Tryz.underlying54 HI.out.1 HI.out.2.1 HI.out.2.2.1 HI.out.2.2.2 rfl (by omega) u6 (4 * k) xs (by rfl) ((HO.out.alloc _).drew) ⟨wr.heap.size, 0, none⟩ 4 4 [.int .u8 b0.toNat, .int .u8 b1.toNat, .int .u8 b2.toNat, .int .u8 b3.toNat] (by rfl) (by rfl) (World.news_of_block (cs := #[.int .u8 b0.toNat, .int .u8 b1.toNat, .int .u8 b2.toNat, .int .u8 b3.toNat]) (t := 5) (fr := (0, 0)) (heap_alloc_new wr _)) (by simp [Value.oneCell']) (by omega) (by unfold maxLen; omega) (by omega) (by simp; omega) (wr.heap.size + 1) (by simp) ?_; intro gg cap w1 hown1 hgrow hat hlt1))
          have hsu1 : Su w w1 g X := by
            refine ⟨((HS.out.below.alloc hblw _).drew).grown hgrow (by simp; omega) (fun i hi => by have := (HO.out.lt i hi).1; omega), HS.out.lo, ?_⟩
            rw [hgrow.block g (by simp; omega) (fun e => HF.out e.symm)]
            show (wr.alloc _).heap[g]? = _
            rw [Below.heap_alloc _ _ _ hglt]
            exact HS.out.row
          have hown2 : w1.ownsRow (g + 1) 5 1 (.slice (some ⟨gg, 0, none⟩) (4 * k + 4) cap) (4 * (k + 1)) ((Sh.told X (k + 1)).map fun c => .int .u8 c.toNat) := by
            rw [HNX.out, List.map_append, HX.out, HBE.out]
            exact hown1
          have HS1 := Lib.hid hsu1
          have HO2 := Lib.hid hown2
          clear hsu1 hown2 hown1 hgrow hat hlt1
          go_wp2
          go_roundg (5 - (k + 1))
          case rel => exact ⟨k + 1, by omega, rfl, by go_num, HS1.out, HO2.out⟩
          case measure => omega
        · obtain rfl : k = 5 := by omega
          have hconv := own_text hown
          have HC := Lib.hid hconv
          clear hown
          rw [← HSUM.out] at hconv
          have hbl := hsu.below
          clear hsu
          go_wp2
          go_ret
          exact ⟨rfl, hbl⟩
end Go.Proofs.YtmbbigmnliiadaaGreatDoor.Hs
