/-
  Layer 11, the program's side, plain facts: bytes of a text that aren't ASCII; names byte by byte.
-/
import Derived.Test.YtapjgdhdgpakhaaGreatDoorOd
import Derived.Lib.IndexAny
import Derived.Lib.DecodeN
import Derived.Lib.RuneCount
import Derived.Laws.RangeString
import Derived.Shelf.GgClosure.StringsIndexFunc
namespace Go.Proofs.YtapjgdhdgpakhaaGreatDoor.Ob
open Go.Proofs.YtapjgdhdgpakhaaGreatDoor
set_option linter.unusedVariables false

theorem get_bl (s : ByteArray) (k : Nat) (h : k < s.size) : s.get! k = s[k] := by
  rw [ByteArray.get!, getElem!_pos s.data k h]; rfl
theorem data_getD (s : ByteArray) (k : Nat) (h : k < s.size) : (bl s)[k]? = some s[k] := by
  rw [bl, Array.getElem?_toList, Array.getElem?_eq_getElem h]; rfl

/-- a byte that isn't ASCII: the rune, and how far it goes -/
theorem decode_far (s : ByteArray) (i : Nat) (h : i < s.size) (hb : 128 ≤ s[i].toNat) :
    128 ≤ (Utf8.decode s i).1 ∧ (Utf8.decode s i).1 ≤ 1114111 ∧ 1 ≤ (Utf8.decode s i).2 ∧ ∀ j, i ≤ j → j < i + (Utf8.decode s i).2 → j < s.size ∧ 128 ≤ (s.get! j).toNat := by
  rw [Lib.decode_at]
  have h0 : 128 ≤ (s.get! i).toNat := by rw [get_bl s i h]; exact hb
  have l0 := (s.get! i).toNat_lt
  have l1 := (s.get! (i + 1)).toNat_lt
  have l2 := (s.get! (i + 2)).toNat_lt
  have l3 := (s.get! (i + 3)).toNat_lt
  have key : ∀ k, (∀ m, m < k → m < s.size - i ∧ 128 ≤ (s.get! (i + m)).toNat) → ∀ j, i ≤ j → j < i + k → j < s.size ∧ 128 ≤ (s.get! j).toNat := fun k hk j h1 h2 => by
    obtain ⟨h3, h4⟩ := hk (j - i) (by omega)
    rw [show i + (j - i) = j by omega] at h4
    exact ⟨by omega, h4⟩
  have k1 := key 1 fun m hm => by obtain rfl : m = 0 := by omega
                                  exact ⟨by omega, h0⟩
  have k2 := fun (a : 1 < s.size - i) (b : 128 ≤ (s.get! (i + 1)).toNat) => key 2 fun m hm => by
    rcases (by omega : m = 0 ∨ m = 1) with rfl | rfl
    · exact ⟨by omega, h0⟩
    · exact ⟨by omega, b⟩
  have k3 := fun (a : 2 < s.size - i) (b : 128 ≤ (s.get! (i + 1)).toNat) (c : 128 ≤ (s.get! (i + 2)).toNat) => key 3 fun m hm => by
    rcases (by omega : m = 0 ∨ m = 1 ∨ m = 2) with rfl | rfl | rfl
    · exact ⟨by omega, h0⟩
    · exact ⟨by omega, b⟩
    · exact ⟨by omega, c⟩
  have k4 := fun (a : 3 < s.size - i) (b : 128 ≤ (s.get! (i + 1)).toNat) (c : 128 ≤ (s.get! (i + 2)).toNat) (d : 128 ≤ (s.get! (i + 3)).toNat) => key 4 fun m hm => by
    rcases (by omega : m = 0 ∨ m = 1 ∨ m = 2 ∨ m = 3) with rfl | rfl | rfl | rfl
    · exact ⟨by omega, h0⟩
    · exact ⟨by omega, b⟩
    · exact ⟨by omega, c⟩
    · exact ⟨by omega, d⟩
  generalize (s.get! i).toNat = b0 at *
  generalize (s.get! (i + 1)).toNat = b1 at *
  generalize (s.get! (i + 2)).toNat = b2 at *
  generalize (s.get! (i + 3)).toNat = b3 at *
  unfold Lib.decodeN
  rw [if_neg (by omega)]
  split
  · rename_i h1
    split
    · exact ⟨by omega, by simp only; omega, by simp only; omega, k2 (by omega) (by omega)⟩
    · exact ⟨by simp only; omega, by simp only; omega, Nat.le_refl _, k1⟩
  · split
    · rename_i h1
      split
      · exact ⟨by omega, by simp only; omega, by simp only; omega, k3 (by omega) (by omega) (by omega)⟩
      · exact ⟨by simp only; omega, by simp only; omega, Nat.le_refl _, k1⟩
    · split
      · rename_i h1
        split
        · exact ⟨by omega, by simp only; omega, by simp only; omega, k4 (by omega) (by omega) (by omega) (by omega)⟩
        · exact ⟨by simp only; omega, by simp only; omega, Nat.le_refl _, k1⟩
      · exact ⟨by simp only; omega, by simp only; omega, Nat.le_refl _, k1⟩

/-- none of the first bytes is among these -/
theorem noAny_far {s : ByteArray} {chars : List UInt8} {i : Nat} (ha : ∀ c ∈ chars, c.toNat < 128) (h : Lib.NoAny (bl s) chars i) (hi : i < s.size) (hb : 128 ≤ s[i].toNat) : Lib.NoAny (bl s) chars (i + (Utf8.decode s i).2) := by
  intro j b hj hx
  by_cases hji : j < i
  · exact h j b hji hx
  · obtain ⟨h1, h2⟩ := (decode_far s i hi hb).2.2.2 j (by omega) hj
    rw [data_getD s j h1] at hx
    rw [get_bl s j h1] at h2
    cases hx
    rw [List.contains_eq_mem, decide_eq_false_iff_not]
    intro hm
    have := ha _ hm
    omega
theorem indexAny_iff (s chars : List UInt8) : decide (0 ≤ Lib.indexAny s chars) = s.any fun b => chars.contains b := by
  induction s with
  | nil => rfl
  | cons b l ih =>
    have hg := Lib.indexAny_ge chars l
    rw [Lib.indexAny, List.any_cons]
    by_cases hc : chars.contains b = true
    · rw [if_pos hc, hc]; rfl
    · rw [if_neg hc, Bool.not_eq_true _ |>.mp hc, Bool.false_or, ← ih]
      by_cases hn : Lib.indexAny l chars = -1
      · rw [if_pos (by rw [hn]; rfl), hn]
      · rw [if_neg (by simpa using hn)]
        rw [Bool.eq_iff_iff, decide_eq_true_eq, decide_eq_true_eq]
        omega
theorem any_two (s : List UInt8) (a b : UInt8) : (s.any fun x => [a, b].contains x) = (s.contains a || s.contains b) := by
  induction s with
  | nil => rfl
  | cons c l ih =>
    rw [List.any_cons, ih, Bool.eq_iff_iff]
    simp only [List.contains_eq_mem, Bool.or_eq_true, decide_eq_true_eq, List.mem_cons, List.not_mem_nil, or_false]
    constructor
    · rintro ((rfl | rfl) | h | h) <;> simp_all
    · rintro ((rfl | h) | (rfl | h)) <;> simp_all
theorem person_short (s : List UInt8) : person s = ((decide (0 < s.length) && decide (s.length ≤ 64)) && !decide (0 ≤ Lib.indexAny s [0, 10])) := by
  rw [indexAny_iff, any_two, person, Bool.not_or, Bool.and_assoc _ (!_) (!_)]
  rfl
theorem entry_short (s : List UInt8) : entryName s = ((decide (0 < s.length) && decide (s.length ≤ 64)) && !decide (0 ≤ Lib.indexAny s [0, 47]) && !(s == [46]) && !(s == [46, 46])) := by
  rw [indexAny_iff, any_two, entryName, Bool.not_or, ← Bool.and_assoc]
  have e1 : ∀ r : List UInt8, decide (s ≠ r) = !(s == r) := fun r => by rw [Bool.eq_iff_iff]; simp
  rw [e1, e1]
  rfl

/-- a tag's name, rune by rune -/
def tagRune (n : Nat) : Bool := decide (97 ≤ n ∧ n ≤ 122 ∨ 65 ≤ n ∧ n ≤ 90 ∨ 48 ≤ n ∧ n ≤ 57 ∨ n = 46 ∨ n = 95 ∨ n = 45 ∨ n = 47)
theorem tagRune_char (c : UInt8) : tagChar c = tagRune c.toNat := rfl
theorem tagRune_far {n : Nat} (h : 128 ≤ n) : tagRune n = false := by rw [tagRune, decide_eq_false_iff_not]; omega
theorem tag_from (s : ByteArray) : ∀ f pos, pos + f = s.size → decide (0 ≤ Lib.idxFuncFrom (fun n => !tagRune n) true s f pos) = !((bl s).drop pos).all tagChar
  | 0, pos, h => by
    rw [List.drop_of_length_le (by rw [bl_length]; omega)]; rfl
  | f + 1, pos, h => by
    have hp : pos < s.size := by omega
    have hd : (bl s).drop pos = s[pos] :: (bl s).drop (pos + 1) := by
      rw [List.drop_eq_getElem_cons (by rw [bl_length]; exact hp)]; rfl
    rw [Lib.idxFuncFrom, if_pos hp, hd, List.all_cons]
    by_cases hb : s[pos].toNat < 128
    · rw [Go.decode_ascii s pos hp hb]
      simp only
      rw [tagRune_char]
      cases tagRune s[pos].toNat with
      | true => rw [if_neg (by decide), Bool.true_and]; exact tag_from s f (pos + 1) (by omega)
      | false => rw [if_pos (by decide), Bool.false_and, decide_eq_true (by omega)]; rfl
    · have h1 := (decode_far s pos hp (by omega)).1
      rw [tagRune_far h1, if_pos (by decide), tagRune_char, tagRune_far (by omega), Bool.false_and, decide_eq_true (by omega)]; rfl
theorem tag_short (s : ByteArray) : tagName (bl s) = ((decide (0 < (bl s).length) && decide ((bl s).length ≤ 64)) && !decide (0 ≤ Lib.idxFunc (fun n => !tagRune n) true s)) := by
  rw [Lib.idxFunc, tag_from s s.size 0 (by omega), List.drop_zero, Bool.not_not, tagName, Bool.and_assoc, Bool.and_comm]
  rfl
end Go.Proofs.YtapjgdhdgpakhaaGreatDoor.Ob
