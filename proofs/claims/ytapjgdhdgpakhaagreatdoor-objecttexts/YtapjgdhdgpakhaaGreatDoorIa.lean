/-
  Layer 10 as Lean functions: words of kinds, decimal digits, an object's row; the document's Word, Kind, Decimal, Row.
-/
import Derived.Test.YtapjgdhdgpakhaaGreatDoorGc
import Derived.StillTailTactics
namespace Go.Proofs.YtapjgdhdgpakhaaGreatDoor.Idf

def word (k : Int) : ByteArray :=
  if k = 1 then ⟨#[98, 108, 111, 98]⟩ else if k = 2 then ⟨#[116, 114, 101, 101]⟩ else if k = 3 then ⟨#[99, 111, 109, 109, 105, 116]⟩ else if k = 4 then ⟨#[116, 97, 103]⟩ else ⟨#[]⟩
theorem word1 : word 1 = ⟨#[98, 108, 111, 98]⟩ := rfl
theorem word2 : word 2 = ⟨#[116, 114, 101, 101]⟩ := rfl
theorem word3 : word 3 = ⟨#[99, 111, 109, 109, 105, 116]⟩ := rfl
theorem word4 : word 4 = ⟨#[116, 97, 103]⟩ := rfl
theorem word_no {k : Int} (h : ¬ (1 ≤ k ∧ k ≤ 4)) : word k = ⟨#[]⟩ := by
  unfold word
  rw [if_neg (by omega), if_neg (by omega), if_neg (by omega), if_neg (by omega)]
theorem word_size (k : Int) : (word k).size ≤ 6 := by
  unfold word
  split
  · decide
  · split
    · decide
    · split
      · decide
      · split <;> decide
theorem kind_cases {k : Int} (h : 1 ≤ k ∧ k ≤ 4) : k = 1 ∨ k = 2 ∨ k = 3 ∨ k = 4 := by omega
theorem word_some {k : Int} (h : 1 ≤ k ∧ k ≤ 4) : 3 ≤ (word k).size := by
  rcases kind_cases h with rfl | rfl | rfl | rfl <;> decide
def kindF (s : ByteArray) : Int := if word 1 = s then 1 else if word 2 = s then 2 else if word 3 = s then 3 else if word 4 = s then 4 else 0

theorem kind_at {s : ByteArray} (k : Nat) (h1 : 1 ≤ k) (h5 : k < 5) (hj : ∀ j : Nat, 1 ≤ j → j < k → word j ≠ s) (he : word k = s) : kindF s = k := by
  unfold kindF
  match k, h1, h5, hj, he with
  | 1, _, _, _, he => exact if_pos he
  | 2, _, _, hj, he => exact (if_neg (hj 1 (by omega) (by omega))).trans (if_pos he)
  | 3, _, _, hj, he => exact (if_neg (hj 1 (by omega) (by omega))).trans ((if_neg (hj 2 (by omega) (by omega))).trans (if_pos he))
  | 4, _, _, hj, he => exact (if_neg (hj 1 (by omega) (by omega))).trans ((if_neg (hj 2 (by omega) (by omega))).trans ((if_neg (hj 3 (by omega) (by omega))).trans (if_pos he)))
theorem kind_none {s : ByteArray} (hj : ∀ j : Nat, 1 ≤ j → j < 5 → word j ≠ s) : kindF s = 0 :=
  (if_neg (hj 1 (by omega) (by omega))).trans ((if_neg (hj 2 (by omega) (by omega))).trans ((if_neg (hj 3 (by omega) (by omega))).trans (if_neg (hj 4 (by omega) (by omega)))))

def dec (n : Nat) : List UInt8 := if n < 10 then [UInt8.ofNat (48 + n)] else dec (n / 10) ++ [UInt8.ofNat (48 + n % 10)]
termination_by n
decreasing_by omega
theorem dec_small {n : Nat} (h : n < 10) : dec n = [UInt8.ofNat (48 + n)] := by rw [dec, if_pos h]
theorem dec_big {n : Nat} (h : ¬ n < 10) : dec n = dec (n / 10) ++ [UInt8.ofNat (48 + n % 10)] := by rw [dec, if_neg h]
theorem dec_len (n : Nat) (k : Nat) (h : n < 10 ^ (k + 1)) : (dec n).length ≤ k + 1 := by
  induction k generalizing n with
  | zero => rw [dec_small (by omega)]; simp
  | succ k ih =>
    by_cases h1 : n < 10
    · rw [dec_small h1]; simp
    · rw [dec_big h1, List.length_append]
      have := ih (n / 10) (by rw [Nat.pow_succ] at h; omega)
      simp only [List.length_cons, List.length_nil]
      omega
/-- an object's row -/
def row (k : Int) (c : ByteArray) : ByteArray := if 1 ≤ k ∧ k ≤ 4 then word k ++ ⟨#[32]⟩ ++ str (dec c.size) ++ ⟨#[0]⟩ ++ c else ⟨#[]⟩
end Go.Proofs.YtapjgdhdgpakhaaGreatDoor.Idf
namespace Go.Proofs.YtapjgdhdgpakhaaGreatDoor.Hi
open Go.RowKit Hg
set_option linter.unusedVariables false

set_option maxHeartbeats 2000000 in
set_option maxRecDepth 100000 in
theorem rword_any (k : Int) (w : World) : Calls Tryz.prog 58 #[.int .i64 k] w fun e w' => e = .returned (.string (Idf.word k)) ∧ w' = w := by
  by_cases h : 1 ≤ k ∧ k ≤ 4
  · rcases Idf.kind_cases h with rfl | rfl | rfl | rfl
    all_goals
      go_enter Tryz.func58, Tryz.ntmps58
      go_wp2
      go_ret
      exact ⟨rfl, rfl⟩
  · have HN := Lib.hid (Idf.word_no h)
    have h1 : (k == 1) = false := beq_eq_false_iff_ne.2 (by omega)
    have h2 : (k == 2) = false := beq_eq_false_iff_ne.2 (by omega)
    have h3 : (k == 3) = false := beq_eq_false_iff_ne.2 (by omega)
    have h4 : (k == 4) = false := beq_eq_false_iff_ne.2 (by omega)
    clear h
    go_enter Tryz.func58, Tryz.ntmps58
    go_wp2
    go_ret
    exact ⟨by rw [HN.out]; rfl, rfl⟩

set_option maxHeartbeats 2000000 in
set_option maxRecDepth 100000 in
theorem rkind_any (s : ByteArray) (w : World) : Calls Tryz.prog 72 #[.string s] w fun e w' => e = .returned (.int .i64 (Idf.kindF s)) ∧ w' = w := by
  have HW := Lib.hid (fun k w' => rword_any k w')
  go_enter Tryz.func72, Tryz.ntmps72
  go_wp2_with fail
  go_loopg [3] 4 (fun gk v wr => ∃ k : Nat, 1 ≤ k ∧ k ≤ 5 ∧ gk = 5 - k ∧ v = .int .i64 k ∧ (∀ j : Nat, 1 ≤ j → j < k → Idf.word j ≠ s) ∧ wr = w)
  case atStart => exact ⟨1, by omega, by omega, rfl, rfl, fun j h1 h2 => by omega, rfl⟩
  case round =>
    obtain ⟨k, hk1, hk5, rfl, rfl, hj, rfl⟩ := hrel
    have HJ := Lib.hid hj
    clear hj
    by_cases h5 : k < 5
    · have h5i : (k : Int) < 5 := by omega
      have hk4 : (k : Int) ≤ 4 := by omega
      by_cases he : Idf.word k = s
      · have hq := str_beq he
        have HE := Lib.hid (Idf.kind_at k hk1 h5 HJ.out he)
        have HWk := Lib.hid (HW.out (k : Int))
        clear he HW
        generalize Idf.word k = x at *
        go_wp2_with (go_at_call 58; refine (HWk.out _).mono ?_; rintro r w2 ⟨rfl, rfl⟩)
        go_ret
        exact ⟨by rw [HE.out]; rfl, rfl⟩
      · have hq := str_bne he
        have HE := Lib.hid (show ∀ j : Nat, 1 ≤ j → j < k + 1 → Idf.word j ≠ s from fun j h1 h2 => by
          by_cases h : j = k
          · subst h; exact he
          · exact HJ.out j h1 (by omega))
        have HWk := Lib.hid (HW.out (k : Int))
        clear he HW
        generalize Idf.word k = x at *
        go_wp2_with (go_at_call 58; refine (HWk.out _).mono ?_; rintro r w2 ⟨rfl, rfl⟩)
        go_roundg (5 - (k + 1))
        case rel => exact ⟨k + 1, by omega, by omega, rfl, by go_num, HE.out, rfl⟩
        case measure => omega
    · have h5i : ¬ (k : Int) < 5 := by omega
      have HE := Lib.hid (Idf.kind_none (s := s) (fun j h1 h2 => HJ.out j h1 (by omega)))
      go_wp2
      go_ret
      exact ⟨by rw [HE.out]; rfl, rfl⟩

set_option maxHeartbeats 2000000 in
set_option maxRecDepth 100000 in
theorem rdec_any (n : Nat) (w : World) (hn : n ≤ 100000) : Calls Tryz.prog 57 #[.int .i64 n] w fun e w' => e = .returned (.string (str (Idf.dec n))) ∧ Below w.heap.size w w' := by
  obtain ⟨D, hD⟩ : ∃ D, Idf.dec n = D := ⟨_, rfl⟩
  have HD := Lib.hid hD
  rw [hD]
  clear hD
  go_enter Tryz.func57, Tryz.ntmps57
  go_wp2_with fail
  go_loopg [0, 3] (0 + n) (fun gk u v wr => ∃ (k : Nat) (s : ByteArray), gk = 0 + k ∧ k ≤ 100000 ∧ u = .int .i64 k ∧ v = .string s ∧ s.size + 10 * k ≤ 2000000 ∧ D = Idf.dec k ++ bl s ∧ Below w.heap.size w wr)
  case atStart => exact ⟨n, ByteArray.empty, rfl, hn, rfl, rfl, by simp; omega, by rw [HD.out]; simp [bl], Below.refl _ _⟩
  case round =>
    obtain ⟨k, s, rfl, hk, rfl, rfl, hs, hd, hbl⟩ := hrel
    have HB := Lib.hid (And.intro hd hbl)
    have hw : w.heap.size ≤ wr.heap.size := hbl.size
    clear hd hbl
    by_cases h9 : k < 10
    · have h9i : ¬ (9 : Int) < k := by omega
      have hc : (UInt8.ofNat (48 + k)).toNat = 48 + k := Sq.u8 (by omega)
      have d1 : 48 + (k : Int) = ((UInt8.ofNat (48 + k)).toNat : Int) := by rw [hc]; omega
      have HE := Lib.hid (Idf.dec_small h9)
      have hcv : (convert 65 9 (.slice (some ⟨wr.heap.size, 0, none⟩) 1 1)).run Tryz.prog (wr.alloc (.cells #[.int .u8 (UInt8.ofNat (48 + k)).toNat] 5)) = .ok (.string (str [UInt8.ofNat (48 + k)])) (wr.alloc (.cells #[.int .u8 (UInt8.ofNat (48 + k)).toNat] 5)) := (own_laid wr [UInt8.ofNat (48 + k)] (by simp) (by simp)).str
      have hx : (str [UInt8.ofNat (48 + k)]).size = 1 := by rw [str_size]; rfl
      have hbx := bl_str [UInt8.ofNat (48 + k)]
      have HX := Lib.hid (show D = bl (str [UInt8.ofNat (48 + k)] ++ s) by rw [HB.out.1, HE.out, bl_append, hbx])
      generalize str [UInt8.ofNat (48 + k)] = X at *
      have hcat : ¬ 9223372036854775807 < X.size + s.size := by omega
      have b1 : 48 + (k : Int) < 256 := by omega
      clear hbx hc HE
      generalize UInt8.ofNat (48 + k) = c at *
      go_wp2
      go_ret
      exact ⟨by rw [HX.out, str_bl]; rfl, HB.out.2.alloc hw _⟩
    · have h9i : (9 : Int) < k := by omega
      have hc : (UInt8.ofNat (48 + k % 10)).toNat = 48 + k % 10 := Sq.u8 (by omega)
      have d1 : 48 + (k : Int) % 10 = ((UInt8.ofNat (48 + k % 10)).toNat : Int) := by rw [hc]; omega
      have t1 : (k : Int).tmod 10 = (k : Int) % 10 := Int.tmod_eq_emod_of_nonneg (by omega)
      have q1 : (k : Int).tdiv 10 = ((k / 10 : Nat) : Int) := by rw [Int.tdiv_eq_ediv_of_nonneg (by omega)]; omega
      have HE := Lib.hid (Idf.dec_big h9)
      have hcv : (convert 65 9 (.slice (some ⟨wr.heap.size, 0, none⟩) 1 1)).run Tryz.prog (wr.alloc (.cells #[.int .u8 (UInt8.ofNat (48 + k % 10)).toNat] 5)) = .ok (.string (str [UInt8.ofNat (48 + k % 10)])) (wr.alloc (.cells #[.int .u8 (UInt8.ofNat (48 + k % 10)).toNat] 5)) := (own_laid wr [UInt8.ofNat (48 + k % 10)] (by simp) (by simp)).str
      have hx : (str [UInt8.ofNat (48 + k % 10)]).size = 1 := by rw [str_size]; rfl
      have hbx := bl_str [UInt8.ofNat (48 + k % 10)]
      have HX := Lib.hid (show D = Idf.dec (k / 10) ++ bl (str [UInt8.ofNat (48 + k % 10)] ++ s) by rw [HB.out.1, HE.out, bl_append, hbx, List.append_assoc])
      have HZ := Lib.hid (show (str [UInt8.ofNat (48 + k % 10)] ++ s).size = 1 + s.size by rw [ByteArray.size_append, hx])
      generalize str [UInt8.ofNat (48 + k % 10)] = X at *
      have hcat : ¬ 9223372036854775807 < X.size + s.size := by omega
      have b1 : 48 + (k : Int) % 10 < 256 := by omega
      clear hbx hc HE
      generalize UInt8.ofNat (48 + k % 10) = c at *
      go_wp2
      go_roundg (0 + k / 10)
      case rel => exact ⟨k / 10, X ++ s, rfl, by omega, by go_num, rfl, by rw [HZ.out]; omega, HX.out, HB.out.2.alloc hw _⟩
      case measure => omega

theorem row_size (k : Int) (c : ByteArray) (hc : c.size ≤ 99999) : (Idf.row k c).size ≤ c.size + 13 := by
  have h := Idf.dec_len c.size 4 (by omega)
  have h2 := Idf.word_size k
  unfold Idf.row
  split
  · simp only [ByteArray.size_append, str_size]
    have e1 : (⟨#[32]⟩ : ByteArray).size = 1 := rfl
    have e2 : (⟨#[0]⟩ : ByteArray).size = 1 := rfl
    omega
  · exact Nat.zero_le _

end Go.Proofs.YtapjgdhdgpakhaaGreatDoor.Hi
