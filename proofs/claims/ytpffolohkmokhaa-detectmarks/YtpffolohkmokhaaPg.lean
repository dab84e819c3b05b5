/-
  Contracts of the program's noughts, length and Write (package sha1).
-/
import Derived.Test.YtpffolohkmokhaaPf
import Derived.Test.YtpffolohkmokhaaLay
import Derived.Test.YtpffolohkmokhaaC
import Derived.Deep.DeepFit
namespace Go.Proofs.Ytpffolohkmokhaa.Hp
open Go.RowKit Hs
set_option linter.unusedVariables false

theorem noughts_any (n : Nat) (w : World) (hn : n ≤ 20000000) :
    Calls Try.prog 47 #[.int .u64 (n + 1 : Nat)] w fun e w' => e = .returned (.string ⟨(List.replicate (Sh.nought n) (0 : UInt8)).toArray⟩) ∧ Below w.heap.size w w' := by
  obtain ⟨m, hm⟩ : ∃ m, n + 1 = m := ⟨_, rfl⟩
  have hk : Sh.nought n < 64 := Nat.mod_lt _ (by omega)
  have hw : wrap64 ((IntKind.u64.wrap (56 - (m : Int))).tmod 64) = (Sh.nought n : Int) := by
    have e1 : IntKind.u64.wrap (56 - (m : Int)) = (56 - (m : Int)) % 18446744073709551616 := by simp [IntKind.wrap, IntKind.bits, IntKind.signed]
    rw [e1, Int.tmod_eq_emod_of_nonneg (Int.emod_nonneg _ (by omega))]
    unfold wrap64 Sh.nought
    omega
  rw [hm]
  generalize hK : Sh.nought n = K at *
  have HM := Lib.hid hm
  have HK := Lib.hid hK
  clear hm hK
  have hrep := fun W => Try.strings_Repeat ⟨#[0]⟩ K W (by omega) (by show 1 * K ≤ _; omega)
  have hl : Lib.repeatL (ByteArray.mk #[0]).data.toList K = List.replicate K 0 := by
    have := Lib.repeatL_replicate 0 1 K
    rw [Nat.mul_one] at this
    exact this
  rw [hl] at hrep
  go_enter Try.func47, Try.ntmps47
  go_wp2_with (go_at_call 51; go_fit (hrep _); rintro e w1 ⟨rfl, hb1⟩)
  go_ret
  exact ⟨rfl, hb1⟩

theorem byte_at (n : Nat) (k : Nat) : ((Sh.byteOf n k).toNat : Int) = (n : Int) / 2 ^ (8 * k) % 256 := by
  rw [Sh.byteOf, UInt8.toNat_ofNat', Nat.mod_eq_of_lt (show n / 2 ^ (8 * k) % 256 < 2 ^ 8 from Nat.mod_lt _ (by omega))]
  have h : (((2 : Nat) ^ (8 * k) : Nat) : Int) = (2 : Int) ^ (8 * k) := by simp
  rw [← h, Int.natCast_emod, Int.natCast_ediv]
  rfl
theorem u8_wrap (x : Int) : IntKind.u8.wrap x = x % 256 := by simp [IntKind.wrap, IntKind.bits, IntKind.signed]

theorem make8 (w : World) : (Instr.makeSlice 66 (.int .i64 0) (.int .i64 8)).run Try.prog w = .ok (.slice (some ⟨w.heap.size, 0, none⟩) 0 8) (w.alloc (.cells (Array.replicate 8 (.int .u8 0)) 5)) := by kernel_rfl
theorem make20 (w : World) : (Instr.makeSlice 66 (.int .i64 0) (.int .i64 20)).run Try.prog w = .ok (.slice (some ⟨w.heap.size, 0, none⟩) 0 20) (w.alloc (.cells (Array.replicate 20 (.int .u8 0)) 5)) := by kernel_rfl
theorem bts_make (w : World) (n : Nat) : Bts (w.alloc (.cells (Array.replicate n (.int .u8 0)) 5)) w.heap.size (.slice (some ⟨w.heap.size, 0, none⟩) 0 n) [] := by
  have hh := heap_alloc_new w (.cells (Array.replicate n (.int .u8 0)) 5)
  refine ⟨w.heap.size, n, rfl, Nat.le_refl _, by simp, Nat.zero_le _, fun j hj => absurd hj (Nat.not_lt_zero _), fun j hj => ?_⟩
  rw [cell_of_row _ _ j _ _ _ hh, frozen_of_row _ _ j _ _ hh]
  simp [hj]

set_option maxHeartbeats 1000000 in
set_option maxRecDepth 100000 in
theorem length_any (n : Nat) (w : World) (hn : n < 18446744073709551616) :
    Calls Try.prog 48 #[.int .u64 n] w fun e w' => e = .returned (.string ⟨(Sh.highs n 8).toArray⟩) ∧ Below w.heap.size w w' := by
  obtain ⟨i0, hi0, hz0, hz1, hz2⟩ := info_parts info5
  have HI := Lib.hid (And.intro hi0 (And.intro hz0 (And.intro hz1 hz2)))
  clear hi0 hz0 hz1 hz2
  have hmk := make8 w
  have hb0 := bts_make w 8
  have HB0 := Lib.hid hb0
  have HW0 := Lib.hid ((Below.refl _ w).alloc (Nat.le_refl _) (.cells (Array.replicate 8 (.int .u8 0)) 5))
  clear hb0
  go_enter Try.func48, Try.ntmps48
  go_wp2
  clear hmk
  generalize w.alloc (.cells (Array.replicate 8 (.int .u8 0)) 5) = w0 at *
  go_loopg [3, 4] 8 (fun g v i wx => ∃ (j : Nat) (x : Int), j ≤ 8 ∧ g = j ∧ x = 8 * (j : Int) - 8 ∧ i = .int .i64 x ∧ Bts wx w.heap.size v (Sh.highs n (8 - j)) ∧ Below w.heap.size w wx)
  case atStart => exact ⟨8, 56, Nat.le_refl _, rfl, rfl, rfl, HB0.out, HW0.out⟩
  case round =>
    obtain ⟨j, x, hj, rfl, hx, rfl, hb, hbl⟩ := hrel
    clear HB0 HW0
    have HB := Lib.hid hb
    cases gk with
    | zero =>
      obtain rfl : x = -8 := by omega
      clear hx
      have hconv := bts_string (P := Try.prog) 66 9 Try.underlying66 Try.underlying5 Try.underlying9 hb
      clear hb
      go_wp2
      go_ret
      exact ⟨rfl, hbl⟩
    | succ j =>
      obtain ⟨y, hy⟩ : ∃ y, 8 * j = y := ⟨_, rfl⟩
      obtain rfl : x = (y : Int) := by omega
      clear hx
      obtain ⟨A, cap, rfl⟩ := bts_len hb
      clear hb
      have hsz := hbl.size
      have hyv : ((Sh.byteOf n j).toNat : Int) = (n : Int) / 2 ^ y % 256 := by rw [byte_at, hy]
      have hnx : Sh.highs n (8 - j) = Sh.highs n (8 - (j + 1)) ++ [Sh.byteOf n j] := by
        rw [show 8 - j = 8 - (j + 1) + 1 by omega, Sh.highs, show 7 - (8 - (j + 1)) = j by omega]
      have hlen : (Sh.highs n (8 - (j + 1))).length + 1 ≤ 1000000 := by rw [Sh.highs_length]; omega
      have hy64 : (y : Int) < 64 := by omega
      have hy0 : (0 : Int) ≤ y := by omega
      generalize Sh.highs n (8 - (j + 1)) = hs at *
      have HY := Lib.hid hy
      have HYV := Lib.hid hyv
      have HNX := Lib.hid hnx
      have HLN := Lib.hid hlen
      clear hy hyv hnx hlen
      have hb2 := HB.out.alloc (.cells #[.int .u8 ((n : Int) / 2 ^ y % 256)] 5)
      have hc2 := cell_one_new wr (.int .u8 ((n : Int) / 2 ^ y % 256)) 5 0 (.int .u8 ((n : Int) / 2 ^ y % 256)) rfl
      rw [add_zero_of] at hc2
      have HB2 := Lib.hid hb2
      have HC2 := Lib.hid hc2
      have HA := Lib.hid (hbl.alloc hsz (.cells #[.int .u8 ((n : Int) / 2 ^ y % 256)] 5))
      clear hb2 hc2
      go_wp2_with (at_builtin; refine wpList_append_bts rfl (.tmp 10) (.tmp 15) 66 rfl i0 Try.underlying66 HI.out.1 HI.out.2.1 HI.out.2.2.1 HI.out.2.2.2 rfl (B := w.heap.size) (l := hs) ?_ ?_ (Sh.byteOf n j) ((n : Int) / 2 ^ y % 256) HYV.out.symm HLN.out ⟨wr.heap.size, 0, none⟩ 1 rfl ?_ ?_; exact HB2.out; exact (by simp; omega); exact HC2.out; intro v2 w2 hb3 hw3)
      have HB3 := Lib.hid hb3
      have HW3 := Lib.hid (HA.out.trans hw3)
      clear hb3 hw3
      go_roundg j
      case rel => exact ⟨j, _, by omega, rfl, rfl, by have := HY.out; go_num, by rw [HNX.out]; exact HB3.out, HW3.out⟩
      case measure => omega

theorem flat_take (ss : List ByteArray) (k : Nat) (h : k < ss.length) : (bls (ss.take (k + 1))).flatten = (bls (ss.take k)).flatten ++ (ss.getD k ByteArray.empty).data.toList := by
  rw [List.take_add_one, bls, bls, List.map_append, List.flatten_append]
  simp [List.getElem?_eq_getElem h, List.getD, bl]
theorem flat_le (ss : List ByteArray) (k : Nat) : (bls (ss.take k)).flatten.length ≤ (bls ss).flatten.length := by
  conv => rhs; rw [← List.take_append_drop k ss, bls, List.map_append, List.flatten_append, List.length_append]
  exact Nat.le_add_right _ _

set_option maxHeartbeats 1000000 in
set_option maxRecDepth 100000 in
theorem write_any (w : World) (b : Nat) (l : List UInt8) (A : Option Addr) (B c : Nat) (ss : List ByteArray) (h : St w b l) (hS : Strs w B A ss) (hne : 0 < ss.length → ∀ ad, A = some ad → ad.block ≠ b) (hs : l.length + (bls ss).flatten.length ≤ 10000000) (hss : ss.length ≤ 100000) :
    Calls Try.prog 37 #[.pointer (some ⟨b, 0, none⟩), .slice A ss.length c] w fun e w' => e = .returned (.tuple #[]) ∧ St w' b (l ++ (bls ss).flatten) ∧ w.grownBy w' (some b) := by
  have HS := Lib.hid hS
  have HN := Lib.hid hne
  have HST := Lib.hid h
  have HSM := Lib.hid hs
  clear hS hne h hs
  go_enter Try.func37, Try.ntmps37
  go_wp2
  go_loopg [5, 8] ss.length (fun g s5 i wr => ∃ k : Nat, k ≤ ss.length ∧ g = ss.length - k ∧ i = .int .i64 k ∧ St wr b (l ++ (bls (ss.take k)).flatten) ∧ w.grownBy wr (some b))
  case atStart => exact ⟨0, Nat.zero_le _, rfl, rfl, by simpa [bls] using HST.out, World.grownBy.refl _ _⟩
  case round =>
    obtain ⟨k, hk, rfl, rfl, hst, hgr⟩ := hrel
    clear HST
    by_cases hlt : k < ss.length
    · have h1 : (k : Int) < ss.length := by omega
      have h0 : (0 : Int) ≤ k := by omega
      obtain ⟨ad, rfl, hblk, hc⟩ := HS.out k hlt
      have hc1 := hgr.cell hc (by rw [block_of_add]; exact fun e => HN.out (by omega) ad rfl (by injection e))
      have hfl := flat_take ss k hlt
      have hle := flat_le ss (k + 1)
      rw [hfl] at hle
      rw [List.length_append] at hle
      have hsz : (ss.getD k ByteArray.empty).data.toList.length = (ss.getD k ByteArray.empty).size := by simp
      have htk := fun W (hW : St W b (l ++ (bls (ss.take k)).flatten)) => take_any W b _ (ss.getD k ByteArray.empty) hW (by rw [List.length_append]; have := HSM.out; omega)
      generalize ss.getD k ByteArray.empty = y at *
      have HT := Lib.hid (htk wr hst)
      have HF := Lib.hid hfl
      have HG := Lib.hid hgr
      clear hc htk hle hfl hst hgr hsz
      go_wp2_with (go_at_call 45; refine HT.out.mono ?_; rintro e w1 ⟨rfl, hst1, hg1⟩)
      have HST1 := Lib.hid hst1
      have HG1 := Lib.hid hg1
      clear hst1 hg1
      go_roundg (ss.length - (k + 1))
      case rel => exact ⟨k + 1, by omega, rfl, by go_num, by rw [HF.out, ← List.append_assoc]; exact HST1.out, HG.out.trans HG1.out⟩
      case measure => omega
    · obtain rfl : k = ss.length := by omega
      have h1 : ¬ ((ss.length : Int) < ss.length) := by omega
      rw [List.take_length] at hst
      go_wp2
      exact bodyPost_end (v := .tuple #[]) (by simp [results, Try.results37]) rfl ⟨rfl, hst, hgr⟩
end Go.Proofs.Ytpffolohkmokhaa.Hp
