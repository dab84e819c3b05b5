/-
  Layer 11, the document's side: bytes in texts, names of persons, entries and tags, modes.
-/
import Derived.Test.YtlpidedijknohaaOd
namespace Go.Proofs.Ytlpidedijknohaa.Hj
open Go.RowKit Ob
set_option linter.unusedVariables false

theorem has_yes {s : ByteArray} {c : UInt8} {k : Nat} (hk : k < s.size) (h : s[k] = c) : (bl s).contains c = true := by
  rw [List.contains_eq_mem, decide_eq_true_eq, ← h, ← bl_getD s k hk, List.getD_eq_getElem?_getD, List.getElem?_eq_getElem (by rw [bl_length]; exact hk)]
  exact List.getElem_mem _
theorem has_no {s : ByteArray} {c : UInt8} (h : ∀ j, j < s.size → (bl s).getD j 0 ≠ c) : (bl s).contains c = false := by
  rw [List.contains_eq_mem, decide_eq_false_iff_not]
  intro hm
  obtain ⟨j, hj, he⟩ := List.getElem_of_mem hm
  refine h j (by rwa [bl_length] at hj) ?_
  rw [List.getD_eq_getElem?_getD, List.getElem?_eq_getElem hj]
  exact he
/-- is a byte in a text -/
def hasB (l : List UInt8) (c : UInt8) : Bool := l.contains c
theorem byte_eq {a b : UInt8} (h : a = b) : ((a.toNat : Int) == (b.toNat : Int)) = true := by rw [h]; simp
theorem byte_ne {a b : UInt8} (h : ¬ a = b) : ((a.toNat : Int) == (b.toNat : Int)) = false := beq_eq_false_iff_ne.2 fun e => h (UInt8.toNat_inj.1 (by omega))
theorem ret_bool {a b : Bool} (h : a = b) : Ending.returned (.bool a) = .returned (.bool b) := by rw [h]

theorem bl_is {s : ByteArray} {l : List UInt8} : decide (bl s ≠ l) = !(s.toList == l) := by
  rw [toList_bl, Bool.eq_iff_iff]
  simp

theorem tag_cases (n : Nat) : n ≤ 44 ∨ n = 45 ∨ n = 46 ∨ n = 47 ∨ (48 ≤ n ∧ n ≤ 57) ∨ (58 ≤ n ∧ n ≤ 64) ∨ (65 ≤ n ∧ n ≤ 90) ∨ (91 ≤ n ∧ n ≤ 94) ∨ n = 95 ∨ n = 96 ∨ (97 ≤ n ∧ n ≤ 122) ∨ 123 ≤ n := by omega
theorem tag_yes {l : List UInt8} {n : Nat} (hl : l.length = n) (h : ∀ j, j < n → tagChar (l.getD j 0) = true) : l.all tagChar = true := by
  rw [List.all_eq_true]
  intro c hc
  obtain ⟨j, hj, rfl⟩ := List.getElem_of_mem hc
  have := h j (by omega)
  rwa [List.getD_eq_getElem?_getD, List.getElem?_eq_getElem hj] at this
theorem tag_no {l : List UInt8} {k : Nat} (hk : k < l.length) (h : tagChar (l.getD k 0) = false) : l.all tagChar = false := by
  rw [List.all_eq_false]
  rw [List.getD_eq_getElem?_getD, List.getElem?_eq_getElem hk] at h
  exact ⟨_, List.getElem_mem hk, by simp only [Option.getD_some] at h; simp [h]⟩

theorem mode_word (m : Int) : bl (str (modeW m)) = modeW m := bl_str _
end Go.Proofs.Ytlpidedijknohaa.Hj
