/-
  Contracts of the document's Sum, Seal and Open (layer 4).
-/
import Derived.Test.YtkaniccmdjbkdaaCd
namespace Go.Proofs.Ytkaniccmdjbkdaa.Hc
open Go.RowKit Hs
set_option linter.unusedVariables false
attribute [local go_sem] t_and t_or t_xor t_not t_add t_sub t_add_wrap t_sub_wrap

theorem t_mod (x : UInt32) : tn x % 4294967296 = tn x := by have := tn_lt x; have := tn_nonneg x; omega
attribute [local go_sem] t_mod
theorem bit_of_odd {x : UInt32} (h : x.toNat % 2 = 1) : (x >>> 1) ^^^ 3988292384 = Cr.bit x := by
  rw [Cr.bit, Cr.one_odd h]; rfl
theorem t_xorm (x : UInt32) : bits .xor .u32 (tn x) 3988292384 = tn (x ^^^ 3988292384) := t_xor x 3988292384
theorem t_xor1 (x : UInt32) : bits .xor .u32 (tn x) 4294967295 = tn (~~~x) := by
  have h : bits .xor .u32 (tn x) 4294967295 = tn (x ^^^ 4294967295) := t_xor x 4294967295
  rw [h]
  congr 1
  apply UInt32.toBitVec_inj.1
  rw [UInt32.toBitVec_not, UInt32.toBitVec_xor, show (4294967295 : UInt32).toBitVec = BitVec.allOnes 32 by decide, BitVec.xor_allOnes]
theorem t_tdiv2 (x : UInt32) : (tn x).tdiv 2 = tn (x >>> 1) := by rw [Int.tdiv_eq_ediv_of_nonneg (tn_nonneg x)]; exact t_half x
theorem t_tmod2 (x : UInt32) (n : Nat) (h : x.toNat % 2 = n) : (tn x).tmod 2 = n := by
  rw [Int.tmod_eq_emod_of_nonneg (tn_nonneg x)]; unfold tn; omega

set_option maxHeartbeats 1000000 in
set_option maxRecDepth 100000 in
theorem rsum_any (s : ByteArray) (w : World) (hs : s.size ≤ 100000) :
    Calls Try.prog 9 #[.string s] w fun e w' => e = .returned (.int .u32 (tn (Cr.sum (bl s)))) ∧ w = w' := by
  have HEND := Lib.hid (show ~~~ Cr.run 4294967295 (bl s) = Cr.sum (bl s) from rfl)
  go_enter Try.func9, Try.ntmps9
  go_wp2
  go_loopg [4, 3] s.size (fun gk i v wr => ∃ k : Nat, k ≤ s.size ∧ gk = s.size - k ∧ i = .int .i64 k ∧ v = .int .u32 (tn (Cr.run 4294967295 ((bl s).take k))) ∧ w = wr)
  case atStart => exact ⟨0, Nat.zero_le _, rfl, rfl, rfl, rfl⟩
  case round =>
    obtain ⟨k, hk, rfl, rfl, rfl, rfl⟩ := hrel
    by_cases hlt : k < s.size
    · have h1 : (k : Int) < s.size := by omega
      have hnx := Cr.run_snoc 4294967295 (bl s) k (by rw [bl_length]; exact hlt)
      rw [bl_getD s k hlt] at hnx
      generalize Cr.run 4294967295 ((bl s).take k) = X at *
      have h256 : s[k].toNat < 256 := s[k].toNat_lt
      have hby : (s[k].toNat : Int) = tn (UInt32.ofNat s[k].toNat) := by rw [tn_ofNat (by omega)]
      unfold Cr.step at hnx
      generalize UInt32.ofNat s[k].toNat = C at *
      clear h256
      have hst : Cr.bitsTo (X ^^^ C) 0 = X ^^^ C := rfl
      have HN := Lib.hid hnx
      generalize hY : X ^^^ C = Y at *
      have HST := Lib.hid hst
      have HY := Lib.hid hY
      clear hnx hst hY
      go_wp2
      go_loopg [5, 3] 8 (fun gk i v wx => ∃ j : Nat, j ≤ 8 ∧ gk = 8 - j ∧ i = .int .i64 j ∧ v = .int .u32 (tn (Cr.bitsTo Y j)) ∧ w = wx)
      case atStart => exact ⟨0, Nat.zero_le _, rfl, rfl, by rw [HST.out, ← HY.out], rfl⟩
      case round =>
        obtain ⟨j, hj, rfl, rfl, rfl, rfl⟩ := hrel
        by_cases hil : j < 8
        · have h2 : (j : Int) < 8 := by omega
          have hnb : Cr.bitsTo Y (j + 1) = Cr.bit (Cr.bitsTo Y j) := rfl
          generalize Cr.bitsTo Y j = Z at *
          have HNB := Lib.hid hnb
          clear hnb hby
          have hd := t_tdiv2 Z
          have hz0 := tn_nonneg Z
          have hd2 := t_half Z
          by_cases ho : Z.toNat % 2 = 1
          · have hm := t_tmod2 Z 1 ho
            have hm2 : tn Z % 2 = 1 := by unfold tn; omega
            have HB := Lib.hid (bit_of_odd ho)
            have hx := t_xorm (Z >>> 1)
            clear ho
            go_wp2
            go_roundg (8 - (j + 1))
            case rel => exact ⟨j + 1, by omega, rfl, by go_num, by rw [HNB.out, ← HB.out], rfl⟩
            case measure => omega
          · have hm := t_tmod2 Z 0 (by omega)
            have hm2 : tn Z % 2 = 0 := by unfold tn; omega
            have HB := Lib.hid (Cr.bit_even (x := Z) (by omega))
            clear ho
            go_wp2
            go_roundg (8 - (j + 1))
            case rel => exact ⟨j + 1, by omega, rfl, by go_num, by rw [HNB.out, HB.out, t_mod], rfl⟩
            case measure => omega
        · obtain rfl : j = 8 := by omega
          go_wp2
          go_roundg (s.size - (k + 1))
          case rel => exact ⟨k + 1, by omega, rfl, by go_num, by rw [HN.out], rfl⟩
          case measure => omega
    · obtain rfl : k = s.size := by omega
      have h1 : ¬ ((s.size : Int) < s.size) := by omega
      rw [show (bl s).take s.size = bl s by rw [← bl_length]; exact List.take_length] at *
      generalize Cr.run 4294967295 (bl s) = Y at *
      have hx := t_xor1 Y
      go_wp2
      go_ret
      exact ⟨by rw [← HEND.out]; rfl, rfl⟩

set_option maxHeartbeats 1000000 in
set_option maxRecDepth 100000 in
theorem rseal_any (s : ByteArray) (w : World) (hs : s.size ≤ 100000) : Calls Try.prog 12 #[.string s] w fun e w' => e = .returned (.string (str (Cr.sealed (bl s)))) ∧ Below w.heap.size w w' := by
  have HE := Lib.hid (sealed_eq s _ rfl)
  have hz2 : (str (Cr.be4 (Cr.sum (bl s)))).size ≤ 100000 := by rw [be4_size]; omega
  have HS := Lib.hid (rsum_any s w hs)
  generalize Cr.sum (bl s) = X at *
  have hc := conv_word w X
  have hx := tn_lt X
  have hx0 := tn_nonneg X
  have HB := Lib.hid ((Below.refl _ w).alloc (Nat.le_refl _) (.cells #[.int .u8 (tn X / 16777216), .int .u8 (tn X / 65536 % 256), .int .u8 (tn X / 256 % 256), .int .u8 (tn X % 256)] 5))
  generalize str (Cr.be4 X) = T at *
  go_enter Try.func12, Try.ntmps12
  go_wp2_with (go_at_call 9; refine HS.out.mono ?_; rintro e w1 ⟨rfl, rfl⟩)
  go_ret
  exact ⟨by rw [HE.out]; rfl, HB.out⟩

theorem ropen_bad (s : ByteArray) (n : Nat) (h : n + 4 = s.size) (hne : str (Cr.sealed (bl (s.extract 0 n))) ≠ s) : Ending.returned (.tuple #[.string ⟨#[]⟩, .int .i64 14]) = .returned (.tuple #[.string (str (Cr.openT (bl s))), .int .i64 (Cr.openC (bl s))]) := by
  have e : (bl s).length - 4 = n := by rw [bl_length]; omega
  have h2 : ¬ Cr.sealed ((bl s).take ((bl s).length - 4)) = bl s := fun hh => hne (by
    rw [e] at hh
    apply bl_inj
    rw [bl_str, bl_take, hh])
  have h4 : ¬ (bl s).length < 4 := by rw [bl_length]; omega
  rw [Cr.openT, Cr.openC, if_neg h4, if_neg h4, if_neg h2, if_neg h2]; rfl
theorem ropen_good (s : ByteArray) (n : Nat) (h : n + 4 = s.size) (he : str (Cr.sealed (bl (s.extract 0 n))) = s) : Ending.returned (.tuple #[.string (s.extract 0 n), .int .i64 0]) = .returned (.tuple #[.string (str (Cr.openT (bl s))), .int .i64 (Cr.openC (bl s))]) := by
  have e : (bl s).length - 4 = n := by rw [bl_length]; omega
  have h2 : Cr.sealed ((bl s).take ((bl s).length - 4)) = bl s := by
    rw [e, ← bl_take, ← bl_str (Cr.sealed _), he]
  have h3 : s.extract 0 n = str ((bl s).take n) := by apply bl_inj; rw [bl_take, bl_str]
  have h4 : ¬ (bl s).length < 4 := by rw [bl_length]; omega
  rw [Cr.openT, Cr.openC, if_neg h4, if_neg h4, if_pos h2, if_pos h2, e, h3]

set_option maxHeartbeats 1000000 in
set_option maxRecDepth 100000 in
theorem ropen_any (s : ByteArray) (w : World) (hs : s.size ≤ 100000) :
    Calls Try.prog 7 #[.string s] w fun e w' => e = .returned (.tuple #[.string (str (Cr.openT (bl s))), .int .i64 (Cr.openC (bl s))]) ∧ Below w.heap.size w w' := by
  by_cases h4 : s.size < 4
  · have h1 : (s.size : Int) < 4 := by omega
    have HE := Lib.hid (open_short s h4)
    clear h4
    go_enter Try.func7, Try.ntmps7
    go_wp2
    go_ret2
    exact ⟨HE.out, Below.refl _ _⟩
  · have h1 : ¬ (s.size : Int) < 4 := by omega
    obtain ⟨n, hn⟩ : ∃ n, n + 4 = s.size := ⟨s.size - 4, by omega⟩
    have hi : (s.size : Int) - 4 = n := by omega
    have ht := slice_to s n (by omega)
    have HG := Lib.hid (ropen_good s n hn)
    have HBD := Lib.hid (ropen_bad s n hn)
    have hz : (s.extract 0 n).size ≤ 100000 := by rw [ByteArray.size_extract]; omega
    clear hn h4
    generalize s.extract 0 n = A at *
    have HS := Lib.hid (rseal_any A w hz)
    generalize str (Cr.sealed (bl A)) = Y at *
    clear hz
    by_cases he : Y = s
    · have hq := str_beq he
      have HQ := Lib.hid (HG.out he)
      clear he HG HBD
      go_enter Try.func7, Try.ntmps7
      go_wp2_with (go_at_call 12; refine HS.out.mono ?_; rintro e w1 ⟨rfl, hb⟩)
      go_ret2
      exact ⟨HQ.out, hb⟩
    · have hq := str_bne he
      have HQ := Lib.hid (HBD.out he)
      clear he HG HBD
      go_enter Try.func7, Try.ntmps7
      go_wp2_with (go_at_call 12; refine HS.out.mono ?_; rintro e w1 ⟨rfl, hb⟩)
      go_ret2
      exact ⟨HQ.out, hb⟩
end Go.Proofs.Ytkaniccmdjbkdaa.Hc
