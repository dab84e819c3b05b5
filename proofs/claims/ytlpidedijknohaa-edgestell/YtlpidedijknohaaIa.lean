/-
  Layer 10 as Lean functions: words of kinds, decimal digits, an object's row; the document's Word, Kind, Decimal, Row.
-/
import Derived.Test.YtlpidedijknohaaGc
import Derived.StillTailTactics
namespace Go.Proofs.Ytlpidedijknohaa.Idf

def word (k : Int) : ByteArray :=
  if k = 1 then ⟨#[98, 108, 111, 98]⟩ else if k = 2 then ⟨#[116, 114, 101, 101]⟩ else if k = 3 then ⟨#[99, 111, 109, 109, 105, 116]⟩ else if k = 4 then ⟨#[116, 97, 103]⟩ else ⟨#[]⟩
theorem word1 : word 1 = ⟨#[98, 108, 111, 98]⟩ := rfl
theorem word2 : word 2 = ⟨#[116, 114, 101, 101]⟩ := rfl
theorem word3 : word 3 = ⟨#[99, 111, 109, 109, 105, 116]⟩ := rfl
theorem word4 : word 4 = ⟨#[116, 97, 103]⟩ := rfl
theorem word_no {k : Int} (h : ¬ (1 ≤ k ∧ k ≤ 4)) : word k = ⟨#[]⟩ := by
  unfold word
  rw [if_neg (by omega), if_neg (by omega), if_neg (by omega), if_neg (by omega)]
theorem word_size (k : Int) : (word k).size ≤ 6 := by
  unfold word
  split
  · decide
  · split
    · decide
    · split
      · decide
      · split <;> decide
theorem kind_cases {k : Int} (h : 1 ≤ k ∧ k ≤ 4) : k = 1 ∨ k = 2 ∨ k = 3 ∨ k = 4 := by omega
theorem word_some {k : Int} (h : 1 ≤ k ∧ k ≤ 4) : 3 ≤ (word k).size := by
  rcases kind_cases h with rfl | rfl | rfl | rfl <;> decide
def kindF (s : ByteArray) : Int := if word 1 = s then 1 else if word 2 = s then 2 else if word 3 = s then 3 else if word 4 = s then 4 else 0

theorem kind_at {s : ByteArray} (k : Nat) (h1 : 1 ≤ k) (h5 : k < 5) (hj : ∀ j : Nat, 1 ≤ j → j < k → word j ≠ s) (he : word k = s) : kindF s = k := by
  unfold kindF
  match k, h1, h5, hj, he with
  | 1, _, _, _, he => exact if_pos he
  | 2, _, _, hj, he => exact (if_neg (hj 1 (by omega) (by omega))).trans (if_pos he)
  | 3, _, _, hj, he => exact (if_neg (hj 1 (by omega) (by omega))).trans ((if_neg (hj 2 (by omega) (by omega))).trans (if_pos he))
  | 4, _, _, hj, he => exact (if_neg (hj 1 (by omega) (by omega))).trans ((if_neg (hj 2 (by omega) (by omega))).trans ((if_neg (hj 3 (by omega) (by omega))).trans (if_pos he)))
theorem kind_none {s : ByteArray} (hj : ∀ j : Nat, 1 ≤ j → j < 5 → word j ≠ s) : kindF s = 0 :=
  (if_neg (hj 1 (by omega) (by omega))).trans ((if_neg (hj 2 (by omega) (by omega))).trans ((if_neg (hj 3 (by omega) (by omega))).trans (if_neg (hj 4 (by omega) (by omega)))))

def dec (n : Nat) : List UInt8 := if n < 10 then [UInt8.ofNat (48 + n)] else dec (n / 10) ++ [UInt8.ofNat (48 + n % 10)]
termination_by n
decreasing_by omega
theorem dec_small {n : Nat} (h : n < 10) : dec n = [UInt8.ofNat (48 + n)] := by rw [dec, if_pos h]
theorem dec_big {n : Nat} (h : ¬ n < 10) : dec n = dec (n / 10) ++ [UInt8.ofNat (48 + n % 10)] := by rw [dec, if_neg h]
theorem dec_len (n : Nat) (k : Nat) (h : n < 10 ^ (k + 1)) : (dec n).length ≤ k + 1 := by
  induction k generalizing n with
  | zero => rw [dec_small (by omega)]; simp
  | succ k ih =>
    by_cases h1 : n < 10
    · rw [dec_small h1]; simp
    · rw [dec_big h1, List.length_append]
      have := ih (n / 10) (by rw [Nat.pow_succ] at h; omega)
      simp only [List.length_cons, List.length_nil]
      omega
/-- an object's row -/
def row (k : Int) (c : ByteArray) : ByteArray := if 1 ≤ k ∧ k ≤ 4 then word k ++ ⟨#[32]⟩ ++ str (dec c.size) ++ ⟨#[0]⟩ ++ c else ⟨#[]⟩
end Go.Proofs.Ytlpidedijknohaa.Idf
namespace Go.Proofs.Ytlpidedijknohaa.Hi
open Go.RowKit Hg
set_option linter.unusedVariables false

theorem row_size (k : Int) (c : ByteArray) (hc : c.size ≤ 99999) : (Idf.row k c).size ≤ c.size + 13 := by
  have h := Idf.dec_len c.size 4 (by omega)
  have h2 := Idf.word_size k
  unfold Idf.row
  split
  · simp only [ByteArray.size_append, str_size]
    have e1 : (⟨#[32]⟩ : ByteArray).size = 1 := rfl
    have e2 : (⟨#[0]⟩ : ByteArray).size = 1 := rfl
    omega
  · exact Nat.zero_le _

end Go.Proofs.Ytlpidedijknohaa.Hi
