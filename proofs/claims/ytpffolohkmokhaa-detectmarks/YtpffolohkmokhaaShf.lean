/-
  The contract of the document's Fill (layer 2): bytes, filled up.
-/
import Derived.Test.YtpffolohkmokhaaShe
namespace Go.Proofs.Ytpffolohkmokhaa.Hs
open Go.RowKit
set_option linter.unusedVariables false

namespace Sh
/-- how many noughts fill up -/
def nought (n : Nat) : Nat := (119 - n % 64) % 64
/-- the byte i of a number, the lowest is 0 -/
def byteOf (n i : Nat) : UInt8 := UInt8.ofNat (n / 2 ^ (8 * i) % 256)
/-- the bytes from the highest on, but for the k lowest -/
def highs (n : Nat) : Nat → List UInt8
  | 0 => []
  | j + 1 => highs n j ++ [byteOf n (7 - j)]
def pad (l : List UInt8) (k : Nat) : List UInt8 := l ++ [128] ++ List.replicate k 0
def fill (l : List UInt8) : List UInt8 := pad l (nought l.length) ++ highs (l.length * 8) 8
theorem pad_length (l : List UInt8) (k : Nat) : (pad l k).length = l.length + 1 + k := by simp [pad]; omega
theorem pad_succ (l : List UInt8) (k : Nat) : pad l (k + 1) = pad l k ++ [0] := by simp [pad, List.replicate_succ']
theorem highs_length (n j : Nat) : (highs n j).length = j := by
  induction j with
  | zero => rfl
  | succ j ih => simp [highs, ih]
end Sh

theorem info5 : (Try.prog.info? 5).map (fun i => (i.zero, i.size, i.bytes)) = some (some (.int .u8 0), 1, 1) := by kernel_rfl

theorem byte_of (n j : Nat) : (n : Int) * 8 / 2 ^ (8 * j) % 256 = ((Sh.byteOf (n * 8) j).toNat : Int) := by
  rw [Sh.byteOf, UInt8.toNat_ofNat', Nat.mod_eq_of_lt (show n * 8 / 2 ^ (8 * j) % 256 < 2 ^ 8 from Nat.mod_lt _ (by omega))]
  have h : (((2 : Nat) ^ (8 * j) : Nat) : Int) = (2 : Int) ^ (8 * j) := by simp
  rw [← h, Int.natCast_emod, Int.natCast_ediv, Int.natCast_mul]
  rfl

set_option maxHeartbeats 2000000 in
set_option maxRecDepth 100000 in
theorem rfill_any (s : ByteArray) (w : World) (hs : s.size ≤ 100000) :
    Calls Try.prog 27 #[.string s] w fun e w' => e = .returned (.string ⟨(Sh.fill s.data.toList).toArray⟩) ∧ Below w.heap.size w w' := by
  have hconv := fun W => run_bytes_of_string (P := Try.prog) W 9 66 5 s Try.underlying9 Try.underlying66 Try.underlying5
  obtain ⟨i0, hi0, hz0, hz1, hz2⟩ := info_parts info5
  have HI := Lib.hid (And.intro hi0 (And.intro hz0 (And.intro hz1 hz2)))
  clear hi0 hz0 hz1 hz2
  have hlen : s.data.toList.length = s.size := by simp
  have HLEN := Lib.hid hlen
  clear hlen
  go_enter Try.func27, Try.ntmps27
  have hb0 := (bts_of_string w s (by omega)).alloc (.cells #[.int .u8 128] 5)
  have hbel : Below w.heap.size w ((w.drew.alloc (.cells (bytesRow s (grownCap w s.size 0 5)) 5 ((bytesRow s (grownCap w s.size 0 5)).size, (bytesRow s (grownCap w s.size 0 5)).size + 1))).alloc (.cells #[.int .u8 128] 5)) :=
    (Below.alloc (Below.refl _ w).drew (Nat.le_refl _) _).alloc (by simp) _
  have hc0 := cell_one_new (w.drew.alloc (.cells (bytesRow s (grownCap w s.size 0 5)) 5 ((bytesRow s (grownCap w s.size 0 5)).size, (bytesRow s (grownCap w s.size 0 5)).size + 1))) (.int .u8 128) 5 0 (.int .u8 128) rfl
  rw [show (w.drew.alloc (.cells (bytesRow s (grownCap w s.size 0 5)) 5 ((bytesRow s (grownCap w s.size 0 5)).size, (bytesRow s (grownCap w s.size 0 5)).size + 1))).heap.size = w.heap.size + 1 by simp, add_zero_of] at hc0
  have HB0 := Lib.hid hb0
  have HC0 := Lib.hid hc0
  have HBE := Lib.hid hbel
  clear hb0 hc0 hbel
  go_wp2_with (at_builtin; refine wpList_append_bts rfl (.tmp 7) (.tmp 8) 66 rfl i0 Try.underlying66 HI.out.1 HI.out.2.1 HI.out.2.2.1 HI.out.2.2.2 rfl (B := w.heap.size) (l := s.data.toList) ?_ ?_ 128 128 rfl (by rw [HLEN.out]; omega) ⟨w.heap.size + 1, 0, none⟩ 1 rfl ?_ ?_; exact HB0.out; exact HBE.out.size; exact HC0.out; intro v1 w1 hb1 hw1; have hw2 := HBE.out.trans hw1; clear hw1)
  have hcap : Sh.nought s.size < 64 := Nat.mod_lt _ (by omega)
  have hnt : ∀ k, k < Sh.nought s.size → (s.size + 1 + k) % 64 ≠ 56 := fun k hk => by unfold Sh.nought at hk; omega
  have hnz : (s.size + 1 + Sh.nought s.size) % 64 = 56 := by unfold Sh.nought; omega
  have hfl : Sh.fill s.data.toList = Sh.pad s.data.toList (Sh.nought s.size) ++ Sh.highs (s.size * 8) 8 := by rw [Sh.fill, HLEN.out]
  generalize Sh.nought s.size = K at *
  have HNT := Lib.hid hnt
  have HNZ := Lib.hid hnz
  have HFL := Lib.hid hfl
  have HP0 := Lib.hid (show Bts w1 w.heap.size v1 (Sh.pad s.data.toList 0) by simpa [Sh.pad] using hb1)
  clear hnt hnz hfl hb1 HB0 HC0 HBE hconv
  go_loopg [3] K (fun g v wr => ∃ k : Nat, k ≤ K ∧ g = K - k ∧ Bts wr w.heap.size v (Sh.pad s.data.toList k) ∧ Below w.heap.size w wr)
  case atStart => exact ⟨0, Nat.zero_le _, rfl, HP0.out, hw2⟩
  case round =>
    obtain ⟨k, hk, rfl, hb, hbl⟩ := hrel
    clear HP0 hw2
    have HB := Lib.hid hb
    obtain ⟨A, cap, rfl⟩ := bts_len hb
    clear hb
    have hpl : (Sh.pad s.data.toList k).length = s.size + 1 + k := by rw [Sh.pad_length, HLEN.out]
    have hsz := hbl.size
    by_cases hlt : k < K
    · have ht : (((s.size : Int) + 1 + k) % 64 != 56) = true := by have := HNT.out k hlt; simp; omega
      have hb2 := HB.out.alloc (.cells #[.int .u8 0] 5)
      have hc2 := cell_one_new wr (.int .u8 0) 5 0 (.int .u8 0) rfl
      rw [add_zero_of] at hc2
      have HB2 := Lib.hid hb2
      have HC2 := Lib.hid hc2
      clear hb2 hc2
      go_wp2_with (at_builtin; refine wpList_append_bts rfl (.tmp 14) (.tmp 15) 66 rfl i0 Try.underlying66 HI.out.1 HI.out.2.1 HI.out.2.2.1 HI.out.2.2.2 rfl (B := w.heap.size) (l := Sh.pad s.data.toList k) ?_ ?_ 0 0 rfl (by rw [Sh.pad_length, HLEN.out]; omega) ⟨wr.heap.size, 0, none⟩ 1 rfl ?_ ?_; exact HB2.out; exact (by simp; omega); exact HC2.out; intro v2 w2 hb3 hw3)
      have HB3 := Lib.hid hb3
      have HW3 := Lib.hid ((hbl.alloc hsz (.cells #[.int .u8 0] 5)).trans hw3)
      clear hb3 hw3
      go_roundg (K - (k + 1))
      case rel => exact ⟨k + 1, by omega, rfl, by rw [Sh.pad_succ]; exact HB3.out, HW3.out⟩
      case measure => omega
    · obtain rfl : k = K := by omega
      have ht : (((s.size : Int) + 1 + k) % 64 != 56) = false := by have := HNZ.out; simp; omega
      have HBL := Lib.hid hbl
      clear hbl
      go_wp2
      clear hpl
      go_loopg [3, 5] 8 (fun g v i wx => ∃ (j : Nat) (x : Int), j ≤ 8 ∧ g = j ∧ x = (j : Int) - 1 ∧ i = .int .i64 x ∧ Bts wx w.heap.size v (Sh.pad s.data.toList k ++ Sh.highs (s.size * 8) (8 - j)) ∧ Below w.heap.size w wx)
      case atStart => exact ⟨8, 7, Nat.le_refl _, rfl, rfl, rfl, by simpa [Sh.highs] using HB.out, HBL.out⟩
      case round =>
        obtain ⟨j, x, hj, rfl, hx, rfl, hb, hbl⟩ := hrel
        clear HB HBL
        have HB := Lib.hid hb
        cases gk with
        | zero =>
          obtain rfl : x = -1 := by omega
          clear hx
          have hconv := bts_string (P := Try.prog) 66 9 Try.underlying66 Try.underlying5 Try.underlying9 hb
          rw [← HFL.out] at hconv
          clear hb
          go_wp2
          go_ret
          exact ⟨rfl, hbl⟩
        | succ j =>
          obtain rfl : x = (j : Int) := by omega
          clear hx
          obtain ⟨A, cap, rfl⟩ := bts_len hb
          clear hb
          have hsz := hbl.size
          have hj7 : j ≤ 7 := by omega
          have hyv := byte_of s.size j
          have hnx : Sh.highs (s.size * 8) (8 - j) = Sh.highs (s.size * 8) (8 - (j + 1)) ++ [Sh.byteOf (s.size * 8) j] := by
            rw [show 8 - j = 8 - (j + 1) + 1 by omega, Sh.highs, show 7 - (8 - (j + 1)) = j by omega]
          have HYV := Lib.hid hyv
          have HNX := Lib.hid hnx
          have hb2 := HB.out.alloc (.cells #[.int .u8 ((s.size : Int) * 8 / 2 ^ (8 * j) % 256)] 5)
          have hc2 := cell_one_new wr (.int .u8 ((s.size : Int) * 8 / 2 ^ (8 * j) % 256)) 5 0 (.int .u8 ((s.size : Int) * 8 / 2 ^ (8 * j) % 256)) rfl
          rw [add_zero_of] at hc2
          have hl2 : (Sh.pad s.data.toList k ++ Sh.highs (s.size * 8) (8 - (j + 1))).length + 1 ≤ 1000000 := by rw [List.length_append, Sh.pad_length, Sh.highs_length, HLEN.out]; omega
          have HB2 := Lib.hid hb2
          have HC2 := Lib.hid hc2
          have HL2 := Lib.hid hl2
          have HA := Lib.hid (hbl.alloc hsz (.cells #[.int .u8 ((s.size : Int) * 8 / 2 ^ (8 * j) % 256)] 5))
          clear hyv hnx hb2 hc2 hl2
          go_wp2_with (at_builtin; refine wpList_append_bts rfl (.tmp 25) (.tmp 32) 66 rfl i0 Try.underlying66 HI.out.1 HI.out.2.1 HI.out.2.2.1 HI.out.2.2.2 rfl (B := w.heap.size) (l := Sh.pad s.data.toList k ++ Sh.highs (s.size * 8) (8 - (j + 1))) ?_ ?_ (Sh.byteOf (s.size * 8) j) ((s.size : Int) * 8 / 2 ^ (8 * j) % 256) HYV.out HL2.out ⟨wr.heap.size, 0, none⟩ 1 rfl ?_ ?_; exact HB2.out; exact (by simp; omega); exact HC2.out; intro v2 w2 hb3 hw3)
          have HB3 := Lib.hid hb3
          have HW3 := Lib.hid (HA.out.trans hw3)
          clear hb3 hw3
          go_roundg j
          case rel => exact ⟨j, _, by omega, rfl, rfl, rfl, by rw [HNX.out, ← List.append_assoc]; exact HB3.out, HW3.out⟩
          case measure => omega
end Go.Proofs.Ytpffolohkmokhaa.Hs
