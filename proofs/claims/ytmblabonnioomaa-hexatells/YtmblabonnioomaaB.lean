/-
  Contracts of the package hexa's readers: Short, Begins, alike, Size, Space, Find, Least.
-/
import Derived.Test.YtmblabonnioomaaA
import Derived.Test.YtmblabonnioomaaN
import Derived.Deep.QuietTactic
import Derived.BigQuiet
namespace Go.Proofs.Ytmblabonnioomaa
open Go.RowKit
set_option linter.unusedVariables false

theorem quiet_left {P : Program} {f : FuncId} {args : Array Value} {w : World} {n : Nat} {v : Value}
    (h : Calls P f args (w.drewN n) fun e w' => e = .returned v ∧ w.drewN n = w') : Calls P f args (w.drewN n) fun e w'' => e = .returned v ∧ ∃ m, w'' = w.drewN m :=
  h.mono fun _ _ ⟨he, hm⟩ => ⟨he, n, hm.symm⟩

/-- drawn from, and else as it was -/
def Drawn (w w' : World) : Prop := ∃ n, w' = w.drewN n
theorem Drawn.refl (w : World) : Drawn w w := ⟨0, rfl⟩
theorem Drawn.trans {a b c : World} (h : Drawn a b) (k : Drawn b c) : Drawn a c := by
  obtain ⟨n, rfl⟩ := h
  obtain ⟨m, rfl⟩ := k
  exact ⟨n + m, by rw [World.drewN_drewN]⟩
theorem Drawn.more {a b : World} (h : Drawn a b) (n : Nat) : Drawn a (b.drewN n) := h.trans ⟨n, rfl⟩
theorem Drawn.cell {a b : World} (h : Drawn a b) (p : Addr) : b.cell? p = a.cell? p := by obtain ⟨n, rfl⟩ := h; rfl
theorem Drawn.heap {a b : World} (h : Drawn a b) : b.heap = a.heap := by obtain ⟨n, rfl⟩ := h; rfl
theorem Drawn.below {a b : World} (h : Drawn a b) (B : Nat) : Below B a b := by obtain ⟨n, rfl⟩ := h; exact ⟨rfl, rfl, rfl, Nat.le_refl _, fun _ _ => rfl⟩

theorem ret_bool {a b : Bool} (h : a = b) : Ending.returned (.bool a) = .returned (.bool b) := by rw [h]

theorem Size_any (x : Int) (w : World) :
    Calls Try.prog 20 #[.int .i64 x] w fun e w' => e = .returned (.int .i64 (if x = 1 then 20 else if x = 2 then 32 else 0)) ∧ w = w' := by
  by_cases h1 : x = 1
  · subst h1
    go_enter Try.func20, Try.ntmps20
    go_wp2
    go_ret
    exact ⟨rfl, rfl⟩
  · by_cases h2 : x = 2
    · subst h2
      go_enter Try.func20, Try.ntmps20
      go_wp2
      go_ret
      exact ⟨rfl, rfl⟩
    · rw [if_neg h1, if_neg h2]
      have b1 : (x == 1) = false := beq_eq_false_iff_ne.2 h1
      have b2 : (x == 2) = false := beq_eq_false_iff_ne.2 h2
      clear h1 h2
      go_enter Try.func20, Try.ntmps20
      go_wp2
      go_ret
      exact ⟨rfl, rfl⟩

def spaceN (n : Nat) : Int := if n = 20 then 1 else if n = 32 then 2 else 0
theorem Space_any (s : ByteArray) (w : World) :
    Calls Try.prog 22 #[.string s] w fun e w' => e = .returned (.int .i64 (spaceN s.size)) ∧ w = w' := by
  by_cases h1 : s.size = 20
  · have b1 : ((s.size : Int) == 20) = true := by rw [h1]; rfl
    have H := Lib.hid h1
    clear h1
    go_enter Try.func22, Try.ntmps22
    go_wp2
    go_ret
    exact ⟨ret_int (by rw [spaceN, if_pos H.out]), rfl⟩
  · have b1 : ((s.size : Int) == 20) = false := beq_eq_false_iff_ne.2 (by omega)
    by_cases h2 : s.size = 32
    · have b2 : ((s.size : Int) == 32) = true := by rw [h2]; rfl
      have H := Lib.hid h1
      have H2 := Lib.hid h2
      clear h1 h2
      go_enter Try.func22, Try.ntmps22
      go_wp2
      go_ret
      exact ⟨ret_int (by rw [spaceN, if_neg H.out, if_pos H2.out]), rfl⟩
    · have b2 : ((s.size : Int) == 32) = false := beq_eq_false_iff_ne.2 (by omega)
      have H := Lib.hid h1
      have H2 := Lib.hid h2
      clear h1 h2
      go_enter Try.func22, Try.ntmps22
      go_wp2
      go_ret
      exact ⟨ret_int (by rw [spaceN, if_neg H.out, if_neg H2.out]), rfl⟩

set_option maxHeartbeats 400000 in
theorem Short_any (s : ByteArray) (w : World) (hs : s.size ≤ 100000) :
    Calls Try.prog 16 #[.string s] w fun e w' => e = .returned (.int .i64 (M.shortC (bl s))) ∧ w = w' := by
  by_cases hr : s.size < 4 ∨ 64 < s.size
  · have hv := M.shortC_range (s := bl s) (by rw [bl_length]; exact hr)
    have H := Lib.hid hv
    clear hv
    rcases hr with hr | hr
    · go_enter Try.func16, Try.ntmps16
      go_wp2
      go_ret
      exact ⟨ret_int H.out.symm, rfl⟩
    · have h4 : ¬ s.size < 4 := by omega
      go_enter Try.func16, Try.ntmps16
      go_wp2
      go_ret
      exact ⟨ret_int H.out.symm, rfl⟩
  · have h4 : 4 ≤ s.size := by omega
    have h64 : s.size ≤ 64 := by omega
    have HR := Lib.hid hr
    clear hr
    have hok := M.shortC_ok (s := bl s) (by rw [bl_length]; exact HR.out)
    have hbad := fun k => @M.shortC_bad (bl s) (by rw [bl_length]; exact HR.out) k
    rw [bl_length] at hok hbad
    have HO := Lib.hid hok
    have HB := Lib.hid hbad
    clear hok hbad
    go_enter Try.func16, Try.ntmps16
    go_wp2
    go_loopg [16] s.size (fun g i wr => ∃ k : Nat, k ≤ s.size ∧ g = s.size - k ∧ i = .int .i64 k ∧ w = wr ∧ ∀ j, j < k → M.worthB ((bl s).getD j 0) = true)
    case atStart => exact ⟨0, Nat.zero_le _, rfl, rfl, rfl, fun j hj => absurd hj (Nat.not_lt_zero _)⟩
    case round =>
      obtain ⟨k, hk, rfl, rfl, rfl, hall⟩ := hrel
      have HA := Lib.hid hall
      clear hall
      by_cases hlt : k < s.size
      · have e0 := bl_getD s k hlt
        have E0 := Lib.hid e0
        clear e0
        cases hg : M.worthB s[k]
        · have HG := Lib.hid hg
          go_wp2_with (go_at_call 26; refine (worth_any _ _).mono ?_; rintro e w' ⟨rfl, rfl⟩)
          go_ret
          exact ⟨ret_int (HB.out k hlt (by rw [E0.out]; exact HG.out)).symm, rfl⟩
        · have HG := Lib.hid hg
          go_wp2_with (go_at_call 26; refine (worth_any _ _).mono ?_; rintro e w' ⟨rfl, rfl⟩)
          go_roundg (s.size - (k + 1))
          case rel =>
            refine ⟨k + 1, by omega, rfl, by go_num, rfl, fun j hj => ?_⟩
            by_cases e : j = k
            · subst e; rw [E0.out]; exact HG.out
            · exact HA.out j (by omega)
          case measure => omega
      · obtain rfl : k = s.size := by omega
        go_wp2
        go_ret
        exact ⟨ret_int (HO.out HA.out).symm, rfl⟩

set_option maxHeartbeats 400000 in
theorem Begins_any (b s : ByteArray) (w : World) (hb : b.size ≤ 100000) (hs : s.size ≤ 100000) :
    Calls Try.prog 18 #[.string b, .string s] w fun e w' => e = .returned (.bool (M.begB (bl b) (bl s))) ∧ Drawn w w' := by
  by_cases hl : 2 * b.size < s.size
  · have hv := M.begB_long (b := bl b) (s := bl s) (by rw [bl_length, bl_length]; exact hl)
    have HV := Lib.hid hv
    clear hv hs
    have hl' : 2 * (b.size : Int) < s.size := by omega
    go_enter Try.func18, Try.ntmps18
    go_wp2
    go_ret
    exact ⟨ret_bool HV.out.symm, Drawn.refl _⟩
  · have hl' : ¬ 2 * (b.size : Int) < s.size := by omega
    go_enter Try.func18, Try.ntmps18
    go_wp2
    go_loopg [14] s.size (fun g i wr => ∃ k : Nat, k ≤ s.size ∧ g = s.size - k ∧ i = .int .i64 k ∧ Drawn w wr ∧ ∀ j, j < k → M.dig (bl b) j = (bl s).getD j 0)
    case atStart => exact ⟨0, Nat.zero_le _, rfl, rfl, Drawn.refl _, fun j hj => absurd hj (Nat.not_lt_zero _)⟩
    case round =>
      obtain ⟨k, hk, rfl, rfl, hdr, hall⟩ := hrel
      have HA := Lib.hid hall
      clear hall
      by_cases hlt : k < s.size
      · have hk2 : k < 2 * b.size := by omega
        have e0 := bl_getD s k hlt
        have E0 := Lib.hid e0
        clear e0
        by_cases he : M.dig (bl b) k = s[k]
        · have hne : (((M.dig (bl b) k).toNat : Int) != (s[k].toNat : Int)) = false := by rw [he]; simp
          have HE := Lib.hid he
          clear he
          go_wp2_with fail
          go_quiet ((go_at_call 28; exact quiet_left (digit_any _ _ _ hb hk2)))
          go_wp2
          go_roundg (s.size - (k + 1))
          case rel =>
            refine ⟨k + 1, by omega, rfl, by go_num, hdr.more _, fun j hj => ?_⟩
            by_cases e : j = k
            · subst e; rw [E0.out]; exact HE.out
            · exact HA.out j (by omega)
          case measure => omega
        · have hne : (((M.dig (bl b) k).toNat : Int) != (s[k].toNat : Int)) = true := by
            simp only [bne_iff_ne, ne_eq, Int.natCast_inj]
            exact fun h => he (UInt8.toNat_inj.1 h)
          have hv := M.begB_ne (b := bl b) (s := bl s) (k := k) (by rw [bl_length]; exact hlt) (by rw [E0.out]; exact he)
          have HV := Lib.hid hv
          clear he hv
          go_wp2_with fail
          go_quiet ((go_at_call 28; exact quiet_left (digit_any _ _ _ hb hk2)))
          go_wp2
          go_ret
          exact ⟨ret_bool HV.out.symm, hdr.more _⟩
      · obtain rfl : k = s.size := by omega
        have hv := (M.begB_iff (bl b) (bl s)).2 ⟨by rw [bl_length, bl_length]; omega, by rw [bl_length]; exact HA.out⟩
        have HV := Lib.hid hv
        clear hv
        go_wp2
        go_ret
        exact ⟨ret_bool HV.out.symm, hdr⟩

theorem alike_ne {a b : ByteArray} {k : Nat} (ha : k < 2 * a.size) (hb : k < 2 * b.size) (h : ∀ j, j < k → M.dig (bl a) j = M.dig (bl b) j) (hne : M.dig (bl a) k ≠ M.dig (bl b) k) : M.alikeN (M.digs (bl a)) (M.digs (bl b)) = k := by
  refine M.alikeN_of (by rw [M.digs_length, bl_length]; omega) (by rw [M.digs_length, bl_length]; omega) (fun j hj => ?_) (.inr (.inr ?_))
  · rw [M.digs_getD _ _ (by rw [bl_length]; omega), M.digs_getD _ _ (by rw [bl_length]; omega)]; exact h j hj
  · rw [M.digs_getD _ _ (by rw [bl_length]; omega), M.digs_getD _ _ (by rw [bl_length]; omega)]; exact hne
theorem alike_all {a b : ByteArray} {k : Nat} (ha : k ≤ 2 * a.size) (hb : k ≤ 2 * b.size) (hk : k = 2 * a.size ∨ k = 2 * b.size) (h : ∀ j, j < k → M.dig (bl a) j = M.dig (bl b) j) : M.alikeN (M.digs (bl a)) (M.digs (bl b)) = k := by
  refine M.alikeN_of (by rw [M.digs_length, bl_length]; omega) (by rw [M.digs_length, bl_length]; omega) (fun j hj => ?_) ?_
  · rw [M.digs_getD _ _ (by rw [bl_length]; omega), M.digs_getD _ _ (by rw [bl_length]; omega)]; exact h j hj
  · rw [M.digs_length, M.digs_length, bl_length, bl_length]; omega

set_option maxHeartbeats 400000 in
theorem alike_any (a b : ByteArray) (w : World) (ha : a.size ≤ 100000) (hb : b.size ≤ 100000) :
    Calls Try.prog 30 #[.string a, .string b] w fun e w' => e = .returned (.int .i64 (M.alikeN (M.digs (bl a)) (M.digs (bl b)))) ∧ w = w' := by
  by_cases hab : b.size < a.size
  · have h0 : True := trivial
    clear h0
    go_enter Try.func30, Try.ntmps30
    go_wp2
    go_loopg [14] (2 * b.size) (fun g i wr => ∃ k : Nat, k ≤ 2 * b.size ∧ g = 2 * b.size - k ∧ i = .int .i64 k ∧ w = wr ∧ ∀ j, j < k → M.dig (bl a) j = M.dig (bl b) j)
    case atStart => exact ⟨0, Nat.zero_le _, rfl, rfl, rfl, fun j hj => absurd hj (Nat.not_lt_zero _)⟩
    case round =>
      obtain ⟨k, hk, rfl, rfl, rfl, hall⟩ := hrel
      have HA := Lib.hid hall
      clear hall
      by_cases hlt : k < 2 * b.size
      · have h1 : (k : Int) < 2 * b.size := by omega
        have hka : k < 2 * a.size := by omega
        have hkb : k < 2 * b.size := by omega
        by_cases he : M.dig (bl a) k = M.dig (bl b) k
        · have hne : (((M.dig (bl a) k).toNat : Int) != ((M.dig (bl b) k).toNat : Int)) = false := by rw [he]; simp
          have HE := Lib.hid he
          clear he
          go_wp2_with fail
          refine (digit_any _ _ _ ha hka).mono ?_
          rintro e w' ⟨rfl, rfl⟩
          go_wp2_with fail
          refine (digit_any _ _ _ hb hkb).mono ?_
          rintro e w' ⟨rfl, rfl⟩
          go_wp2
          go_roundg (2 * b.size - (k + 1))
          case rel =>
            refine ⟨k + 1, by omega, rfl, by go_num, rfl, fun j hj => ?_⟩
            by_cases e : j = k
            · subst e; exact HE.out
            · exact HA.out j (by omega)
          case measure => omega
        · have hne : (((M.dig (bl a) k).toNat : Int) != ((M.dig (bl b) k).toNat : Int)) = true := by
            simp only [bne_iff_ne, ne_eq, Int.natCast_inj]
            exact fun h => he (UInt8.toNat_inj.1 h)
          have hv := alike_ne hka hkb HA.out he
          have HV := Lib.hid hv
          clear he hv
          go_wp2_with fail
          refine (digit_any _ _ _ ha hka).mono ?_
          rintro e w' ⟨rfl, rfl⟩
          go_wp2_with fail
          refine (digit_any _ _ _ hb hkb).mono ?_
          rintro e w' ⟨rfl, rfl⟩
          go_wp2
          go_ret
          exact ⟨ret_int (by rw [HV.out]), rfl⟩
      · have h1 : ¬ (k : Int) < 2 * b.size := by omega
        have hv := alike_all (a := a) (b := b) (k := k) (by omega) (by omega) (by omega) HA.out
        have HV := Lib.hid hv
        clear hv
        obtain rfl : k = 2 * b.size := by omega
        go_wp2
        go_ret
        exact ⟨ret_int (by rw [HV.out]; omega), rfl⟩
  · have h0 : True := trivial
    clear h0
    go_enter Try.func30, Try.ntmps30
    go_wp2
    go_loopg [14] (2 * a.size) (fun g i wr => ∃ k : Nat, k ≤ 2 * a.size ∧ g = 2 * a.size - k ∧ i = .int .i64 k ∧ w = wr ∧ ∀ j, j < k → M.dig (bl a) j = M.dig (bl b) j)
    case atStart => exact ⟨0, Nat.zero_le _, rfl, rfl, rfl, fun j hj => absurd hj (Nat.not_lt_zero _)⟩
    case round =>
      obtain ⟨k, hk, rfl, rfl, rfl, hall⟩ := hrel
      have HA := Lib.hid hall
      clear hall
      by_cases hlt : k < 2 * a.size
      · have h1 : (k : Int) < 2 * a.size := by omega
        have hka : k < 2 * a.size := by omega
        have hkb : k < 2 * b.size := by omega
        by_cases he : M.dig (bl a) k = M.dig (bl b) k
        · have hne : (((M.dig (bl a) k).toNat : Int) != ((M.dig (bl b) k).toNat : Int)) = false := by rw [he]; simp
          have HE := Lib.hid he
          clear he
          go_wp2_with fail
          refine (digit_any _ _ _ ha hka).mono ?_
          rintro e w' ⟨rfl, rfl⟩
          go_wp2_with fail
          refine (digit_any _ _ _ hb hkb).mono ?_
          rintro e w' ⟨rfl, rfl⟩
          go_wp2
          go_roundg (2 * a.size - (k + 1))
          case rel =>
            refine ⟨k + 1, by omega, rfl, by go_num, rfl, fun j hj => ?_⟩
            by_cases e : j = k
            · subst e; exact HE.out
            · exact HA.out j (by omega)
          case measure => omega
        · have hne : (((M.dig (bl a) k).toNat : Int) != ((M.dig (bl b) k).toNat : Int)) = true := by
            simp only [bne_iff_ne, ne_eq, Int.natCast_inj]
            exact fun h => he (UInt8.toNat_inj.1 h)
          have hv := alike_ne hka hkb HA.out he
          have HV := Lib.hid hv
          clear he hv
          go_wp2_with fail
          refine (digit_any _ _ _ ha hka).mono ?_
          rintro e w' ⟨rfl, rfl⟩
          go_wp2_with fail
          refine (digit_any _ _ _ hb hkb).mono ?_
          rintro e w' ⟨rfl, rfl⟩
          go_wp2
          go_ret
          exact ⟨ret_int (by rw [HV.out]), rfl⟩
      · have h1 : ¬ (k : Int) < 2 * a.size := by omega
        have hv := alike_all (a := a) (b := b) (k := k) (by omega) (by omega) (by omega) HA.out
        have HV := Lib.hid hv
        clear hv
        obtain rfl : k = 2 * a.size := by omega
        go_wp2
        go_ret
        exact ⟨ret_int (by rw [HV.out]; omega), rfl⟩
end Go.Proofs.Ytmblabonnioomaa
