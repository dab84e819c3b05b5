/-
  Contracts of the document's own answers for layer 1: digit, value, Size, Space, Short, Digits, Begins, Bytes.
-/
import Derived.Test.YtmblabonnioomaaP
import Derived.Maps.AppendAt
import Derived.OwnWalk
import Derived.Deep.RegionHeld3
import Derived.Deep.AppendLies
namespace Go.Proofs.Ytmblabonnioomaa
open Go.RowKit
set_option linter.unusedVariables false

theorem rdigit_any (x : Int) (w : World) (h0 : 0 ≤ x) (h1 : x < 16) :
    Calls Try.prog 29 #[.int .u8 x] w fun e w' => e = .returned (.int .u8 (M.hexc x.toNat).toNat) ∧ w = w' := by
  have hv := M.hexc_toNat (n := x.toNat) (by omega)
  have HV := Lib.hid hv
  clear hv
  by_cases h : x < 10
  · go_enter Try.func29, Try.ntmps29
    go_wp2
    go_ret
    exact ⟨ret_int (by rw [HV.out, if_pos (by omega)]; omega), rfl⟩
  · go_enter Try.func29, Try.ntmps29
    go_wp2
    go_ret
    exact ⟨ret_int (by rw [HV.out, if_neg (by omega)]; omega), rfl⟩

/-- a digit's worth; 16: it is none -/
def valI (c : UInt8) : Int := if M.worthB c = true then (M.worthV c : Int) else 16
theorem valI_at {c : UInt8} {k : Nat} (hk : k < 16) (h : M.hexc k = c) : valI c = k := by
  subst h
  rw [valI, if_pos (M.worthB_hexc hk), M.worthV_hexc hk]
theorem valI_no {c : UInt8} (h : ∀ j, j < 16 → M.hexc j ≠ c) : valI c = 16 := by
  rw [valI, if_neg]
  intro hb
  exact h _ (M.worthV_lt c) (M.hexc_worthV hb)

set_option maxHeartbeats 400000 in
theorem value_any (c : UInt8) (w : World) :
    Calls Try.prog 27 #[.int .u8 c.toNat] w fun e w' => e = .returned (.int .i64 (valI c)) ∧ w = w' := by
  go_enter Try.func27, Try.ntmps27
  go_wp2
  go_loopg [3] 16 (fun g i wr => ∃ k : Nat, k ≤ 16 ∧ g = 16 - k ∧ i = .int .i64 k ∧ w = wr ∧ ∀ j, j < k → M.hexc j ≠ c)
  case atStart => exact ⟨0, by omega, rfl, rfl, rfl, fun j hj => absurd hj (Nat.not_lt_zero _)⟩
  case round =>
    obtain ⟨k, hk, rfl, rfl, rfl, hall⟩ := hrel
    have HA := Lib.hid hall
    clear hall
    by_cases hlt : k < 16
    · have hk8 : IntKind.u8.wrap (k : Int) = k := by simp [IntKind.wrap, IntKind.bits, IntKind.signed]; omega
      by_cases he : M.hexc k = c
      · have hb : (((M.hexc k).toNat : Int) == (c.toNat : Int)) = true := by rw [he]; simp
        have hb' : ((M.hexc k).toNat == c.toNat) = true := by rw [he]; simp
        have hv := valI_at hlt he
        have HV := Lib.hid hv
        clear hv he
        go_wp2_with (go_at_call 29; refine (rdigit_any _ _ (by omega) (by omega)).mono ?_; rintro e w' ⟨rfl, rfl⟩; rw [Int.toNat_natCast])
        go_ret
        exact ⟨ret_int HV.out.symm, rfl⟩
      · have hne : ¬ (M.hexc k).toNat = c.toNat := fun h => he (UInt8.toNat_inj.1 h)
        have hb : (((M.hexc k).toNat : Int) == (c.toNat : Int)) = false := by simp; omega
        have hb' : ((M.hexc k).toNat == c.toNat) = false := by simp; omega
        have HE := Lib.hid he
        clear he hne
        go_wp2_with (go_at_call 29; refine (rdigit_any _ _ (by omega) (by omega)).mono ?_; rintro e w' ⟨rfl, rfl⟩; rw [Int.toNat_natCast])
        go_roundg (16 - (k + 1))
        case rel =>
          refine ⟨k + 1, by omega, rfl, by go_num, rfl, fun j hj => ?_⟩
          by_cases e : j = k
          · subst e; exact HE.out
          · exact HA.out j (by omega)
        case measure => omega
    · obtain rfl : k = 16 := by omega
      have hv := valI_no HA.out
      have HV := Lib.hid hv
      clear hv
      go_wp2
      go_ret
      exact ⟨ret_int HV.out.symm, rfl⟩

theorem rSize_any (x : Int) (w : World) :
    Calls Try.prog 21 #[.int .i64 x] w fun e w' => e = .returned (.int .i64 (if x = 1 then 20 else if x = 2 then 32 else 0)) ∧ w = w' := by
  by_cases h1 : x = 1
  · subst h1
    go_enter Try.func21, Try.ntmps21
    go_wp2
    go_ret
    exact ⟨rfl, rfl⟩
  · by_cases h2 : x = 2
    · subst h2
      go_enter Try.func21, Try.ntmps21
      go_wp2
      go_ret
      exact ⟨rfl, rfl⟩
    · rw [if_neg h1, if_neg h2]
      have b1 : (x == 1) = false := beq_eq_false_iff_ne.2 h1
      have b2 : (x == 2) = false := beq_eq_false_iff_ne.2 h2
      clear h1 h2
      go_enter Try.func21, Try.ntmps21
      go_wp2
      go_ret
      exact ⟨rfl, rfl⟩

theorem rSpace_any (s : ByteArray) (w : World) :
    Calls Try.prog 23 #[.string s] w fun e w' => e = .returned (.int .i64 (spaceN s.size)) ∧ w = w' := by
  by_cases h1 : s.size = 20
  · have b1 : ((s.size : Int) == 20) = true := by rw [h1]; rfl
    have H := Lib.hid h1
    clear h1
    go_enter Try.func23, Try.ntmps23
    go_wp2
    go_ret
    exact ⟨ret_int (by rw [spaceN, if_pos H.out]), rfl⟩
  · have b1 : ((s.size : Int) == 20) = false := beq_eq_false_iff_ne.2 (by omega)
    by_cases h2 : s.size = 32
    · have b2 : ((s.size : Int) == 32) = true := by rw [h2]; rfl
      have H := Lib.hid h1
      have H2 := Lib.hid h2
      clear h1 h2
      go_enter Try.func23, Try.ntmps23
      go_wp2
      go_ret
      exact ⟨ret_int (by rw [spaceN, if_neg H.out, if_pos H2.out]), rfl⟩
    · have b2 : ((s.size : Int) == 32) = false := beq_eq_false_iff_ne.2 (by omega)
      have H := Lib.hid h1
      have H2 := Lib.hid h2
      clear h1 h2
      go_enter Try.func23, Try.ntmps23
      go_wp2
      go_ret
      exact ⟨ret_int (by rw [spaceN, if_neg H.out, if_neg H2.out]), rfl⟩

theorem valI_yes {c : UInt8} (h : M.worthB c = true) : valI c = M.worthV c := by rw [valI, if_pos h]
theorem valI_none {c : UInt8} (h : M.worthB c = false) : valI c = 16 := by rw [valI, if_neg (by simp [h])]

set_option maxHeartbeats 400000 in
theorem rShort_any (s : ByteArray) (w : World) (hs : s.size ≤ 100000) :
    Calls Try.prog 17 #[.string s] w fun e w' => e = .returned (.int .i64 (M.shortC (bl s))) ∧ w = w' := by
  by_cases hr : s.size < 4 ∨ 64 < s.size
  · have hv := M.shortC_range (s := bl s) (by rw [bl_length]; exact hr)
    have H := Lib.hid hv
    clear hv
    rcases hr with hr | hr
    · go_enter Try.func17, Try.ntmps17
      go_wp2
      go_ret
      exact ⟨ret_int H.out.symm, rfl⟩
    · have h4 : ¬ s.size < 4 := by omega
      go_enter Try.func17, Try.ntmps17
      go_wp2
      go_ret
      exact ⟨ret_int H.out.symm, rfl⟩
  · have h4 : 4 ≤ s.size := by omega
    have h64 : s.size ≤ 64 := by omega
    have HR := Lib.hid hr
    clear hr
    have hok := M.shortC_ok (s := bl s) (by rw [bl_length]; exact HR.out)
    have hbad := fun k => @M.shortC_bad (bl s) (by rw [bl_length]; exact HR.out) k
    rw [bl_length] at hok hbad
    have HO := Lib.hid hok
    have HB := Lib.hid hbad
    clear hok hbad
    have d1 : decide ((s.size : Int) < 4) = false := by simp; omega
    have d2 : decide (64 < (s.size : Int)) = false := by simp; omega
    go_enter Try.func17, Try.ntmps17
    go_wp2
    go_loopg [3] s.size (fun g i wr => ∃ k : Nat, k ≤ s.size ∧ g = s.size - k ∧ i = .int .i64 k ∧ w = wr ∧ ∀ j, j < k → M.worthB ((bl s).getD j 0) = true)
    case atStart => exact ⟨0, Nat.zero_le _, rfl, rfl, rfl, fun j hj => absurd hj (Nat.not_lt_zero _)⟩
    case round =>
      obtain ⟨k, hk, rfl, rfl, rfl, hall⟩ := hrel
      have HA := Lib.hid hall
      clear hall
      by_cases hlt : k < s.size
      · have e0 := bl_getD s k hlt
        have E0 := Lib.hid e0
        clear e0
        cases hg : M.worthB s[k]
        · have HG := Lib.hid hg
          have hv : decide (15 < valI s[k]) = true := by rw [valI_none hg]; rfl
          clear hg
          go_wp2_with (go_at_call 27; refine (value_any _ _).mono ?_; rintro e w' ⟨rfl, rfl⟩)
          go_ret
          exact ⟨ret_int (HB.out k hlt (by rw [E0.out]; exact HG.out)).symm, rfl⟩
        · have HG := Lib.hid hg
          have hv : decide (15 < valI s[k]) = false := by have := M.worthV_lt s[k]; rw [valI_yes hg]; simp; omega
          clear hg
          go_wp2_with (go_at_call 27; refine (value_any _ _).mono ?_; rintro e w' ⟨rfl, rfl⟩)
          go_roundg (s.size - (k + 1))
          case rel =>
            refine ⟨k + 1, by omega, rfl, by go_num, rfl, fun j hj => ?_⟩
            by_cases e : j = k
            · subst e; rw [E0.out]; exact HG.out
            · exact HA.out j (by omega)
          case measure => omega
      · obtain rfl : k = s.size := by omega
        go_wp2
        go_ret
        exact ⟨ret_int (HO.out HA.out).symm, rfl⟩
end Go.Proofs.Ytmblabonnioomaa
