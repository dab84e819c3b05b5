/-
  For Sha1Blocks: a block's first 64 bytes are all that is pressed; a word told in bytes, and put together again.
-/
import Derived.Test.YtpffolohkmokhaaPi
namespace Go.Proofs.Ytpffolohkmokhaa.Hp
open Go.RowKit Hs
set_option linter.unusedVariables false

theorem words_take (l : List UInt8) : Sh.words (l.take 64) = Sh.words l := wordsTo_take64 l 64 (.inl (Nat.le_refl _)) 80
theorem stepsTo_take (l : List UInt8) (c : Sh.Ch) : ∀ t, Sh.stepsTo (l.take 64) c t = Sh.stepsTo l c t
  | 0 => rfl
  | t + 1 => by rw [Sh.stepsTo, Sh.stepsTo, stepsTo_take l c t, words_take]
theorem press_take (c : Sh.Ch) (l : List UInt8) : Sh.press c (l.take 64) = Sh.press c l := by rw [Sh.press, Sh.press, stepsTo_take]
theorem chain_next (f : List UInt8) (k : Nat) : Sh.chain f (k + 1) = Sh.press (Sh.chain f k) (f.drop (64 * k)) := by rw [Sh.chain, press_take]

theorem told_get (x : Sh.Ch) : ∀ n k j, k < n → j < 4 → (Sh.told x n).getD (4 * k + j) 0 = (Sh.be4 (fld x k)).getD j 0
  | 0, k, j, h, _ => absurd h (Nat.not_lt_zero _)
  | n + 1, k, j, h, hj => by
    have hl := Sh.told_length x n
    have hb : ∀ y, (Sh.be4 y).length = 4 := fun y => rfl
    rw [Sh.told, List.getD_eq_getElem?_getD, List.getD_eq_getElem?_getD]
    by_cases e : k = n
    · subst e
      rw [List.getElem?_append_right (by omega), hl]
      congr 2
      omega
    · rw [List.getElem?_append_left (by omega), ← List.getD_eq_getElem?_getD, told_get x n k j (by omega) hj, List.getD_eq_getElem?_getD]
theorem or_nat (a b : Nat) (ha : a < 4294967296) (hb : b < 4294967296) (c : Nat) (h : a ||| b = c) : bits .or .u32 (a : Int) (b : Int) = (c : Int) := by rw [u32_or_nat a b ha hb, h]
/-- a word's four bytes, or'ed together -/
theorem be4_or (x : UInt32) : ∃ b0 b1 b2 b3 : UInt8, Sh.be4 x = [b0, b1, b2, b3] ∧
    bits .or .u32 (bits .or .u32 (bits .or .u32 ((b0.toNat : Int) * 16777216) ((b1.toNat : Int) * 65536)) ((b2.toNat : Int) * 256)) (b3.toNat : Int) = tn x := by
  have hx := w_lt x
  refine ⟨_, _, _, _, rfl, ?_⟩
  have hm : ∀ n : Nat, n % 256 < 2 ^ 8 := fun n => Nat.mod_lt _ (by omega)
  rw [UInt8.toNat_ofNat', UInt8.toNat_ofNat', UInt8.toNat_ofNat', UInt8.toNat_ofNat', Nat.mod_eq_of_lt (hm _), Nat.mod_eq_of_lt (hm _), Nat.mod_eq_of_lt (hm _), Nat.mod_eq_of_lt (hm _)]
  obtain ⟨b0, h0⟩ : ∃ b, x.toNat / 16777216 % 256 = b := ⟨_, rfl⟩
  obtain ⟨b1, h1⟩ : ∃ b, x.toNat / 65536 % 256 = b := ⟨_, rfl⟩
  obtain ⟨b2, h2⟩ : ∃ b, x.toNat / 256 % 256 = b := ⟨_, rfl⟩
  obtain ⟨b3, h3⟩ : ∃ b, x.toNat % 256 = b := ⟨_, rfl⟩
  rw [h0, h1, h2, h3]
  have e0 : (b0 : Int) * 16777216 = ((b0 * 256 * 65536 : Nat) : Int) := by omega
  have e1 : (b1 : Int) * 65536 = ((b1 * 65536 : Nat) : Int) := by omega
  have e2 : (b2 : Int) * 256 = ((b2 * 256 : Nat) : Int) := by omega
  have o1 := or_add b0 b1 16 (by omega)
  have o2 := or_add (b0 * 256 + b1) b2 8 (by omega)
  have o3 := or_add ((b0 * 256 + b1) * 256 + b2) b3 0 (by omega)
  rw [show (2 : Nat) ^ 16 = 65536 by decide] at o1
  rw [show (2 : Nat) ^ 8 = 256 by decide] at o2
  rw [show (2 : Nat) ^ 0 = 1 by decide] at o3
  rw [Nat.mul_one, Nat.mul_one] at o3
  rw [e0, e1, e2, or_nat _ _ (by omega) (by omega) ((b0 * 256 + b1) * 256 * 256) (o1.trans (by omega)), or_nat _ _ (by omega) (by omega) (((b0 * 256 + b1) * 256 + b2) * 256) o2, or_nat _ _ (by omega) (by omega) _ o3]
  unfold tn
  omega
/-- the state of the walk over blocks: the chain's row -/
structure Su8 (w wr : World) (g : Nat) (x : Sh.Ch) : Prop where
  below : Below w.heap.size w wr
  lo : w.heap.size ≤ g
  row : wr.heap[g]? = some (.cells (cs x) 40 (0, 0))
theorem Su8.lt {w wr : World} {g : Nat} {x : Sh.Ch} (h : Su8 w wr g x) : g < wr.heap.size := (Array.getElem?_eq_some_iff.1 h.row).1
theorem Su8.step {w wr w1 : World} {g : Nat} {x : Sh.Ch} (h : Su8 w wr g x) (hb : Below wr.heap.size wr.drew w1) (y : Sh.Ch) : Su8 w (w1.setRow g (cs y)) g y :=
  ⟨below_setRow (h.below.drew.trans (hb.mono h.below.size)) h.lo _, h.lo, setRow_heap _ _ (cs x) _ _ _ (by rw [hb.block _ h.lt]; exact h.row)⟩
theorem Su8.more {w wr w1 : World} {g : Nat} {x : Sh.Ch} (h : Su8 w wr g x) (hb : Below wr.heap.size wr w1) : Su8 w w1 g x :=
  ⟨h.below.trans (hb.mono h.below.size), h.lo, by rw [hb.block _ h.lt]; exact h.row⟩
theorem info28c (x : Sh.Ch) : (Try.prog.info? 40).map (·.size) = some (cs x).size := info28
theorem conv_one (w : World) (c : UInt8) (v : Int) (hv : v = c.toNat) : (convert 66 9 (.slice (some ⟨w.heap.size, 0, none⟩) 1 1)).run Try.prog (w.alloc (.cells #[.int .u8 v] 5)) = .ok (.string ⟨#[c]⟩) (w.alloc (.cells #[.int .u8 v] 5)) := by
  subst hv
  rw [run_convert_bytes_arg (w.alloc (.cells #[.int .u8 (c.toNat : Int)] 5)) 66 5 Try.underlying66 Try.underlying5 w.heap.size 0 1 1 [(c.toNat : Int)] rfl (fun i hi => by
    have h0 : i = 0 := by omega
    subst h0
    rw [cell_of_row _ _ 0 _ _ _ (heap_alloc_new w _)]
    rfl) 9 Try.underlying9]
  simp [strOfNums]
theorem text_snoc (T : ByteArray) (x : UInt8) : (T ++ ⟨#[x]⟩ : ByteArray).data.toList = T.data.toList ++ [x] := by simp
end Go.Proofs.Ytpffolohkmokhaa.Hp
