/-
  Plain facts on beginnings, on what is found by one, and on the least one: no part of the program is named here.
-/
import Derived.Test.YtlpidedijknohaaM
namespace Go.Proofs.Ytlpidedijknohaa.M

/-- do the digits of b begin with s? -/
def begB (b s : List UInt8) : Bool := s.isPrefixOf (digs b)
theorem begB_iff (b s : List UInt8) : begB b s = true ↔ s.length ≤ 2 * b.length ∧ ∀ k, k < s.length → dig b k = s.getD k 0 := by
  unfold begB
  rw [List.isPrefixOf_iff_prefix, List.prefix_iff_eq_take]
  constructor
  · intro h
    have hl : s.length ≤ 2 * b.length := by
      have := congrArg List.length h
      rw [List.length_take, digs_length] at this
      omega
    refine ⟨hl, fun k hk => ?_⟩
    have h1 : s[k]? = (digs b)[k]? := by
      conv => lhs; rw [h]
      rw [List.getElem?_take_of_lt hk]
    rw [digs_get b k (by omega)] at h1
    simp [List.getD, h1]
  · rintro ⟨hl, h⟩
    apply List.ext_getElem?
    intro k
    by_cases hk : k < s.length
    · rw [List.getElem?_take_of_lt hk, digs_get b k (by omega), h k hk, List.getD_eq_getElem?_getD, List.getElem?_eq_getElem hk]
      rfl
    · rw [List.getElem?_eq_none (by omega), List.getElem?_eq_none (by rw [List.length_take, digs_length]; omega)]
theorem begB_long {b s : List UInt8} (h : 2 * b.length < s.length) : begB b s = false := by
  rw [Bool.eq_false_iff]
  intro h'
  have := ((begB_iff b s).1 h').1
  omega
theorem begB_ne {b s : List UInt8} {k : Nat} (hk : k < s.length) (h : dig b k ≠ s.getD k 0) : begB b s = false := by
  rw [Bool.eq_false_iff]
  intro h'
  exact h (((begB_iff b s).1 h').2 k hk)
theorem begB_take {b s : List UInt8} (n : Nat) (h : begB b s = true) : begB b (s.take n) = true := by
  unfold begB at h ⊢
  rw [List.isPrefixOf_iff_prefix] at h ⊢
  exact (List.take_prefix n s).trans h

/-- is it a beginning? -/
def shortC (s : List UInt8) : Int := if s.length < 4 ∨ 64 < s.length then 1 else if s.all worthB then 0 else 3
theorem shortC_range {s : List UInt8} (h : s.length < 4 ∨ 64 < s.length) : shortC s = 1 := by simp [shortC, h]
theorem shortC_bad {s : List UInt8} (h : ¬ (s.length < 4 ∨ 64 < s.length)) {k : Nat} (hk : k < s.length) (hb : worthB (s.getD k 0) = false) : shortC s = 3 := by
  unfold shortC
  rw [if_neg h, if_neg]
  rw [List.all_eq_true]
  intro ha
  have := ha s[k] (List.getElem_mem hk)
  rw [List.getD_eq_getElem?_getD, List.getElem?_eq_getElem hk, Option.getD_some, this] at hb
  cases hb
theorem shortC_ok {s : List UInt8} (h : ¬ (s.length < 4 ∨ 64 < s.length)) (hb : ∀ k, k < s.length → worthB (s.getD k 0) = true) : shortC s = 0 := by
  unfold shortC
  rw [if_neg h, if_pos]
  rw [List.all_eq_true]
  intro x hx
  obtain ⟨k, hk, rfl⟩ := List.getElem_of_mem hx
  have := hb k hk
  rwa [List.getD_eq_getElem?_getD, List.getElem?_eq_getElem hk, Option.getD_some] at this

/-- with how many digits two begin that are the same -/
def alikeN : List UInt8 → List UInt8 → Nat
  | x :: a, y :: b => if x = y then alikeN a b + 1 else 0
  | _, _ => 0
theorem alikeN_of {a b : List UInt8} : ∀ {k : Nat}, k ≤ a.length → k ≤ b.length → (∀ j, j < k → a.getD j 0 = b.getD j 0) → (k = a.length ∨ k = b.length ∨ a.getD k 0 ≠ b.getD k 0) → alikeN a b = k := by
  induction a generalizing b with
  | nil => intro k ha _ _ _; simp at ha; simp [alikeN, ha]
  | cons x a ih =>
    intro k ha hb h1 h2
    cases b with
    | nil => simp at hb; simp [alikeN, hb]
    | cons y b =>
      match k with
      | 0 =>
        simp at h2
        simp [alikeN, h2]
      | k + 1 =>
        have h0 := h1 0 (by omega)
        simp at h0
        simp only [alikeN, if_pos h0]
        congr 1
        refine ih (by simpa using ha) (by simpa using hb) (fun j hj => ?_) ?_
        · have := h1 (j + 1) (by omega)
          simpa using this
        · simpa using h2

/-- what is found by a beginning -/
def findR (l : List (List UInt8)) (s : List UInt8) : List UInt8 × Int :=
  if shortC s ≠ 0 then ([], shortC s) else
  match l.filter (begB · s) with
  | [] => ([], 5)
  | x :: r => if r.all (· == x) then (x, 0) else ([], 11)
theorem findR_short {l : List (List UInt8)} {s : List UInt8} (h : shortC s ≠ 0) : findR l s = ([], shortC s) := by simp [findR, h]
theorem findR_none {l : List (List UInt8)} {s : List UInt8} (h : shortC s = 0) (hn : ∀ x ∈ l, begB x s = false) : findR l s = ([], 5) := by
  have : l.filter (begB · s) = [] := by
    rw [List.filter_eq_nil_iff]
    intro x hx; simp [hn x hx]
  simp [findR, h, this]
theorem findR_one {l : List (List UInt8)} {s x : List UInt8} (h : shortC s = 0) (hx : x ∈ l) (hb : begB x s = true) (ha : ∀ y ∈ l, begB y s = true → y = x) : findR l s = (x, 0) := by
  have hm : x ∈ l.filter (begB · s) := List.mem_filter.2 ⟨hx, hb⟩
  have hall : ∀ y ∈ l.filter (begB · s), y = x := fun y hy => ha y (List.mem_filter.1 hy).1 (List.mem_filter.1 hy).2
  cases hf : l.filter (begB · s) with
  | nil => rw [hf] at hm; cases hm
  | cons y r =>
    rw [hf] at hall
    have hy := hall y (by simp)
    subst hy
    have : r.all (· == y) = true := by
      rw [List.all_eq_true]
      intro z hz
      simp [hall z (by simp [hz])]
    simp only [findR, h, ne_eq, not_true_eq_false, if_false, hf, this, if_true]
theorem findR_many {l : List (List UInt8)} {s x y : List UInt8} (h : shortC s = 0) (hx : x ∈ l) (hbx : begB x s = true) (hy : y ∈ l) (hby : begB y s = true) (hne : x ≠ y) : findR l s = ([], 11) := by
  have hmx : x ∈ l.filter (begB · s) := List.mem_filter.2 ⟨hx, hbx⟩
  have hmy : y ∈ l.filter (begB · s) := List.mem_filter.2 ⟨hy, hby⟩
  cases hf : l.filter (begB · s) with
  | nil => rw [hf] at hmx; cases hmx
  | cons z r =>
    rw [hf] at hmx hmy
    have : r.all (· == z) = false := by
      rw [Bool.eq_false_iff]
      intro hall
      rw [List.all_eq_true] at hall
      have hz : ∀ u ∈ z :: r, u = z := by
        intro u hu
        rcases List.mem_cons.1 hu with rfl | hu
        · rfl
        · simpa using hall u hu
      exact hne ((hz x hmx).trans (hz y hmy).symm)
    simp only [findR, h, ne_eq, not_true_eq_false, if_false, hf, this]
    simp

/-- the least number of digits, by the program's way -/
def leastN (l : List (List UInt8)) (b : List UInt8) : Nat → Nat
  | 0 => 4
  | k + 1 => if l.getD k [] = b then leastN l b k else max (leastN l b k) (alikeN (digs (l.getD k [])) (digs b) + 1)
def least (l : List (List UInt8)) (b : List UInt8) : Nat := max 4 (min (leastN l b l.length) (2 * b.length))
theorem alikeN_le (a b : List UInt8) : alikeN a b ≤ b.length := by
  induction a generalizing b with
  | nil => simp [alikeN]
  | cons x a ih =>
    cases b with
    | nil => simp [alikeN]
    | cons y b =>
      simp only [alikeN, List.length_cons]
      have := ih b
      split <;> omega
theorem leastN_le (l : List (List UInt8)) (b : List UInt8) (k : Nat) : leastN l b k ≤ max 4 (2 * b.length + 1) := by
  induction k with
  | zero => simp [leastN]; omega
  | succ k ih =>
    have := alikeN_le (digs (l.getD k [])) (digs b)
    rw [digs_length] at this
    simp only [leastN]
    split <;> omega
end Go.Proofs.Ytlpidedijknohaa.M
