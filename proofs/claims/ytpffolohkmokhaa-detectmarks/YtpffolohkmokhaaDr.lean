/-
  The contract of the program's filling (package detect): what fills bytes up to whole blocks.
-/
import Derived.Test.YtpffolohkmokhaaDo
namespace Go.Proofs.Ytpffolohkmokhaa.Hd
open Go.RowKit Hs Hp
set_option linter.unusedVariables false

/-- what fills n bytes up -/
def fil (n : Nat) : List UInt8 := Sh.pad [] (Sh.nought n) ++ Sh.highs (n * 8) 8
theorem fill_fil (l : List UInt8) : Sh.fill l = l ++ fil l.length := by simp [Sh.fill, fil, Sh.pad]
theorem fil_length (n : Nat) : (fil n).length = Sh.nought n + 9 := by rw [fil, List.length_append, Sh.pad_length, Sh.highs_length]; simp; omega
theorem bts_one (w : World) (c : UInt8) : Bts (w.alloc (.cells #[.int .u8 c.toNat] 5)) w.heap.size (.slice (some ⟨w.heap.size, 0, none⟩) 1 1) [c] :=
  Bts.of_own (base := w.heap.size) (n := 1) ⟨rfl, .inr ⟨w.heap.size, 1, #[.int .u8 c.toNat], rfl, Nat.le_refl _, heap_alloc_new _ _, Nat.le_refl _, by unfold maxLen; omega, rfl, rfl⟩⟩ (Nat.le_refl _) (by simp)

set_option maxHeartbeats 2000000 in
set_option maxRecDepth 100000 in
theorem filling_any (n : Nat) (w : World) (hs : n ≤ 100000) :
    Calls Try.prog 40 #[.int .i64 n] w fun e w' => e = .returned (.string ⟨(fil n).toArray⟩) ∧ Below w.heap.size w w' := by
  obtain ⟨i0, hi0, hz0, hz1, hz2⟩ := info_parts info5
  have HI := Lib.hid (And.intro hi0 (And.intro hz0 (And.intro hz1 hz2)))
  clear hi0 hz0 hz1 hz2
  have hn0 : (0 : Int) ≤ n := by omega
  have hn1 : (n : Int) ≤ 100000 := by omega
  go_enter Try.func40, Try.ntmps40
  have HB0 := Lib.hid (bts_one w 128)
  have HBE := Lib.hid ((Below.refl _ w).alloc (Nat.le_refl _) (.cells #[.int .u8 128] 5))
  go_wp2
  have hcap : Sh.nought n < 64 := Nat.mod_lt _ (by omega)
  have hnt : ∀ k, k < Sh.nought n → (n + 1 + k) % 64 ≠ 56 := fun k hk => by unfold Sh.nought at hk; omega
  have hnz : (n + 1 + Sh.nought n) % 64 = 56 := by unfold Sh.nought; omega
  have hfl : fil n = Sh.pad [] (Sh.nought n) ++ Sh.highs (n * 8) 8 := rfl
  generalize Sh.nought n = K at *
  have HNT := Lib.hid hnt
  have HNZ := Lib.hid hnz
  have HFL := Lib.hid hfl
  clear hnt hnz hfl
  go_loopg [3] K (fun g v wr => ∃ k : Nat, k ≤ K ∧ g = K - k ∧ Bts wr w.heap.size v (Sh.pad [] k) ∧ Below w.heap.size w wr)
  case atStart => exact ⟨0, Nat.zero_le _, rfl, HB0.out, HBE.out⟩
  case round =>
    obtain ⟨k, hk, rfl, hb, hbl⟩ := hrel
    clear HB0 HBE
    have HB := Lib.hid hb
    obtain ⟨A, cap, rfl⟩ := bts_len hb
    clear hb
    have hpl : (Sh.pad [] k).length = 1 + k := by rw [Sh.pad_length]; simp
    have hsz := hbl.size
    by_cases hlt : k < K
    · have ht : (((n : Int) + (1 + k)) % 64 != 56) = true := by have := HNT.out k hlt; simp; omega
      have hb2 := HB.out.alloc (.cells #[.int .u8 0] 5)
      have hc2 := cell_one_new wr (.int .u8 0) 5 0 (.int .u8 0) rfl
      rw [add_zero_of] at hc2
      have HB2 := Lib.hid hb2
      have HC2 := Lib.hid hc2
      clear hb2 hc2
      go_wp2_with (at_builtin; refine wpList_append_bts rfl (.tmp 12) (.tmp 13) 66 rfl i0 Try.underlying66 HI.out.1 HI.out.2.1 HI.out.2.2.1 HI.out.2.2.2 rfl (B := w.heap.size) (l := Sh.pad [] k) ?_ ?_ 0 0 rfl (by rw [Sh.pad_length]; simp; omega) ⟨wr.heap.size, 0, none⟩ 1 rfl ?_ ?_; exact HB2.out; exact (by simp; omega); exact HC2.out; intro v2 w2 hb3 hw3)
      have HB3 := Lib.hid hb3
      have HW3 := Lib.hid ((hbl.alloc hsz (.cells #[.int .u8 0] 5)).trans hw3)
      clear hb3 hw3
      go_roundg (K - (k + 1))
      case rel => exact ⟨k + 1, by omega, rfl, by rw [Sh.pad_succ]; exact HB3.out, HW3.out⟩
      case measure => omega
    · obtain rfl : k = K := by omega
      have ht : (((n : Int) + (1 + k)) % 64 != 56) = false := by have := HNZ.out; simp; omega
      have HBL := Lib.hid hbl
      clear hbl
      go_wp2
      clear hpl
      go_loopg [3, 4] 8 (fun g v i wx => ∃ (j : Nat) (x : Int), j ≤ 8 ∧ g = j ∧ x = 8 * ((j : Int) - 1) ∧ i = .int .i64 x ∧ Bts wx w.heap.size v (Sh.pad [] k ++ Sh.highs (n * 8) (8 - j)) ∧ Below w.heap.size w wx)
      case atStart => exact ⟨8, 56, Nat.le_refl _, rfl, rfl, rfl, by simpa [Sh.highs] using HB.out, HBL.out⟩
      case round =>
        obtain ⟨j, x, hj, rfl, hx, rfl, hb, hbl⟩ := hrel
        clear HB HBL
        have HB := Lib.hid hb
        cases gk with
        | zero =>
          obtain rfl : x = -8 := by omega
          clear hx
          have hconv := bts_string (P := Try.prog) 66 9 Try.underlying66 Try.underlying5 Try.underlying9 hb
          rw [← HFL.out] at hconv
          clear hb
          go_wp2
          go_ret
          exact ⟨rfl, hbl⟩
        | succ j =>
          obtain ⟨X, hX⟩ : ∃ X : Nat, X = 8 * j := ⟨_, rfl⟩
          obtain rfl : x = (X : Int) := by omega
          clear hx
          obtain ⟨A, cap, rfl⟩ := bts_len hb
          clear hb
          have hsz := hbl.size
          have hX0 : (0 : Int) ≤ X := by omega
          have hX1 : (X : Int) < 64 := by omega
          have hX2 : X < 64 := by omega
          have hyv := byte_of n j
          rw [← hX] at hyv
          have hnx : Sh.highs (n * 8) (8 - j) = Sh.highs (n * 8) (8 - (j + 1)) ++ [Sh.byteOf (n * 8) j] := by
            rw [show 8 - j = 8 - (j + 1) + 1 by omega, Sh.highs, show 7 - (8 - (j + 1)) = j by omega]
          have HQ := Lib.hid (show (X : Int) - 8 = 8 * ((j : Int) - 1) by omega)
          have HYV := Lib.hid hyv
          have HNX := Lib.hid hnx
          have hb2 := HB.out.alloc (.cells #[.int .u8 ((n : Int) * 8 / 2 ^ X % 256)] 5)
          have hc2 := cell_one_new wr (.int .u8 ((n : Int) * 8 / 2 ^ X % 256)) 5 0 (.int .u8 ((n : Int) * 8 / 2 ^ X % 256)) rfl
          rw [add_zero_of] at hc2
          have hl2 : (Sh.pad [] k ++ Sh.highs (n * 8) (8 - (j + 1))).length + 1 ≤ 1000000 := by rw [List.length_append, Sh.pad_length, Sh.highs_length]; simp; omega
          have HB2 := Lib.hid hb2
          have HC2 := Lib.hid hc2
          have HL2 := Lib.hid hl2
          have HA := Lib.hid (hbl.alloc hsz (.cells #[.int .u8 ((n : Int) * 8 / 2 ^ X % 256)] 5))
          clear hyv hnx hb2 hc2 hl2 hX
          go_wp2_with (at_builtin; refine wpList_append_bts rfl (.tmp 19) (.tmp 26) 66 rfl i0 Try.underlying66 HI.out.1 HI.out.2.1 HI.out.2.2.1 HI.out.2.2.2 rfl (B := w.heap.size) (l := Sh.pad [] k ++ Sh.highs (n * 8) (8 - (j + 1))) ?_ ?_ (Sh.byteOf (n * 8) j) ((n : Int) * 8 / 2 ^ X % 256) HYV.out HL2.out ⟨wr.heap.size, 0, none⟩ 1 rfl ?_ ?_; exact HB2.out; exact (by simp; omega); exact HC2.out; intro v2 w2 hb3 hw3)
          have HB3 := Lib.hid hb3
          have HW3 := Lib.hid (HA.out.trans hw3)
          clear hb3 hw3
          go_roundg j
          case rel => exact ⟨j, _, by omega, rfl, HQ.out, rfl, by rw [HNX.out, ← List.append_assoc]; exact HB3.out, HW3.out⟩
          case measure => omega
end Go.Proofs.Ytpffolohkmokhaa.Hd
