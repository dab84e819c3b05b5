/-
  Plain facts: among names of one length each is found by its least beginning and by all longer ones, and by a shorter one others are, too.
-/
import Derived.Test.YtmblabonnioomaaN
namespace Go.Proofs.Ytmblabonnioomaa.M

theorem digs_inj {a b : List UInt8} (h : digs a = digs b) : a = b := by
  have := undig_digs a
  rw [h, undig_digs b] at this
  exact (Option.some.inj this).symm
theorem digs_worth (l : List UInt8) : ∀ c ∈ digs l, worthB c = true := by
  induction l with
  | nil => simp [digs]
  | cons x r ih =>
    have hx : x.toNat < 256 := x.toNat_lt
    intro c hc
    simp only [digs, List.mem_cons] at hc
    rcases hc with rfl | rfl | hc
    · exact worthB_hexc (by omega)
    · exact worthB_hexc (by omega)
    · exact ih c hc
theorem shortC_take {b : List UInt8} {k : Nat} (h4 : 4 ≤ k) (hk : k ≤ 2 * b.length) (h64 : k ≤ 64) : shortC ((digs b).take k) = 0 := by
  have hl : ((digs b).take k).length = k := by rw [List.length_take, digs_length]; omega
  unfold shortC
  rw [if_neg (by omega), if_pos]
  rw [List.all_eq_true]
  intro c hc
  exact digs_worth b c (List.mem_of_mem_take hc)

theorem take_alike : ∀ (b a : List UInt8) (k : Nat), k ≤ b.length → ((b.take k).isPrefixOf a = true ↔ k ≤ alikeN a b)
  | b, a, 0, _ => by simp
  | [], a, k + 1, h => by simp at h
  | y :: b, [], k + 1, _ => by simp [alikeN]
  | y :: b, x :: a, k + 1, h => by
    have ih := take_alike b a k (by simpa using h)
    simp only [List.take_succ_cons, List.isPrefixOf, Bool.and_eq_true, beq_iff_eq, ih, alikeN]
    by_cases e : x = y
    · subst e; simp
    · rw [if_neg e]
      constructor
      · rintro ⟨rfl, _⟩; exact absurd rfl e
      · intro h'; omega
theorem begB_take_iff (y b : List UInt8) (k : Nat) (hk : k ≤ 2 * b.length) : begB y ((digs b).take k) = true ↔ k ≤ alikeN (digs y) (digs b) :=
  take_alike (digs b) (digs y) k (by rw [digs_length]; exact hk)
theorem begB_self (b : List UInt8) (k : Nat) : begB b ((digs b).take k) = true := by
  unfold begB
  rw [List.isPrefixOf_iff_prefix]
  exact List.take_prefix _ _
theorem alike_lt {y b : List UInt8} (hl : y.length = b.length) (hne : y ≠ b) : alikeN (digs y) (digs b) < 2 * b.length := by
  rcases Nat.lt_or_ge (alikeN (digs y) (digs b)) (2 * b.length) with h | h
  · exact h
  · have h1 := (begB_take_iff y b (2 * b.length) (Nat.le_refl _)).2 h
    rw [List.take_of_length_le (by rw [digs_length]; omega)] at h1
    unfold begB at h1
    rw [List.isPrefixOf_iff_prefix] at h1
    exact absurd (digs_inj (h1.eq_of_length (by rw [digs_length, digs_length, hl])).symm) hne

theorem leastN_ge (l : List (List UInt8)) (b : List UInt8) : ∀ (k j : Nat), j < k → l.getD j [] ≠ b → alikeN (digs (l.getD j [])) (digs b) + 1 ≤ leastN l b k
  | 0, j, h, _ => by omega
  | k + 1, j, h, hne => by
    simp only [leastN]
    by_cases e : j = k
    · subst e
      rw [if_neg hne]
      omega
    · have ih := leastN_ge l b k j (by omega) hne
      split <;> omega
theorem leastN_ex (l : List (List UInt8)) (b : List UInt8) : ∀ k : Nat, leastN l b k = 4 ∨ ∃ j, j < k ∧ l.getD j [] ≠ b ∧ leastN l b k = alikeN (digs (l.getD j [])) (digs b) + 1
  | 0 => .inl rfl
  | k + 1 => by
    simp only [leastN]
    have ih : leastN l b k = 4 ∨ ∃ j, j < k + 1 ∧ l.getD j [] ≠ b ∧ leastN l b k = alikeN (digs (l.getD j [])) (digs b) + 1 := by
      rcases leastN_ex l b k with h | ⟨j, hj, h1, h2⟩
      · exact .inl h
      · exact .inr ⟨j, by omega, h1, h2⟩
    split
    · exact ih
    · rename_i hne
      rcases Nat.le_total (leastN l b k) (alikeN (digs (l.getD k [])) (digs b) + 1) with h | h
      · exact .inr ⟨k, by omega, hne, by omega⟩
      · rw [Nat.max_eq_left h]; exact ih
theorem getD_mem {l : List (List UInt8)} {j : Nat} (h : j < l.length) : l.getD j [] ∈ l := by
  rw [List.getD_eq_getElem?_getD, List.getElem?_eq_getElem h]
  exact List.getElem_mem h

section
variable {l : List (List UInt8)} {b : List UInt8} {L k : Nat}
theorem least_ge : 4 ≤ least l b := by unfold least; omega
theorem least_le (h2 : 2 ≤ b.length) : least l b ≤ 2 * b.length := by unfold least; omega
theorem find_long (hL : ∀ y ∈ l, y.length = b.length) (hb : b ∈ l) (h32 : b.length ≤ 32) (hk : least l b ≤ k) (hk2 : k ≤ 2 * b.length) : findR l ((digs b).take k) = (b, 0) := by
  have h4 := least_ge (l := l) (b := b)
  refine findR_one (shortC_take (by omega) hk2 (by omega)) hb (begB_self b k) (fun y hy hyb => ?_)
  rcases Classical.em (y = b) with e | e
  · exact e
  · exfalso
    obtain ⟨j, hj, rfl⟩ := List.getElem_of_mem hy
    have hg : l.getD j [] = l[j] := by rw [List.getD_eq_getElem?_getD, List.getElem?_eq_getElem hj]; rfl
    have h1 := leastN_ge l b l.length j hj (by rw [hg]; exact e)
    rw [hg] at h1
    have h2 := alike_lt (hL _ hy) e
    have h3 := (begB_take_iff _ b k hk2).1 hyb
    unfold least at hk
    omega
theorem find_short (hb : b ∈ l) (h32 : b.length ≤ 32) (h4 : 4 ≤ k) (hk : k < least l b) (h2 : 2 ≤ b.length) : findR l ((digs b).take k) = ([], 11) := by
  have hle := least_le (l := l) (b := b) h2
  have hk2 : k ≤ 2 * b.length := by omega
  rcases leastN_ex l b l.length with h | ⟨j, hj, hne, h⟩
  · unfold least at hk; omega
  · refine findR_many (shortC_take h4 hk2 (by omega)) (getD_mem hj) ((begB_take_iff _ b k hk2).2 ?_) hb (begB_self b k) hne
    unfold least at hk
    omega
end

/-- what is found hangs on those that begin so, not on their order, nor on others -/
theorem findR_same {l l' : List (List UInt8)} {s : List UInt8} (h : ∀ x, begB x s = true → (x ∈ l ↔ x ∈ l')) : findR l s = findR l' s := by
  by_cases hs : shortC s = 0
  · by_cases h0 : ∃ x ∈ l, begB x s = true
    · obtain ⟨x, hx, hb⟩ := h0
      have hx' := (h x hb).1 hx
      by_cases h1 : ∀ y ∈ l, begB y s = true → y = x
      · rw [findR_one hs hx hb h1, findR_one hs hx' hb (fun y hy hyb => h1 y ((h y hyb).2 hy) hyb)]
      · have h2 : ∃ y, y ∈ l ∧ begB y s = true ∧ y ≠ x := by
          rcases Classical.em (∃ y, y ∈ l ∧ begB y s = true ∧ y ≠ x) with h2 | h2
          · exact h2
          · exact absurd (fun y hy hyb => by
              rcases Classical.em (y = x) with e | e
              · exact e
              · exact absurd ⟨y, hy, hyb, e⟩ h2) h1
        obtain ⟨y, hy, hyb, hne⟩ := h2
        rw [findR_many hs hy hyb hx hb hne, findR_many hs ((h y hyb).1 hy) hyb hx' hb hne]
    · have n1 : ∀ x ∈ l, begB x s = false := fun x hx => by
        cases hb : begB x s
        · rfl
        · exact absurd ⟨x, hx, hb⟩ h0
      have n2 : ∀ x ∈ l', begB x s = false := fun x hx => by
        cases hb : begB x s
        · rfl
        · exact absurd ⟨x, (h x hb).2 hx, hb⟩ h0
      rw [findR_none hs n1, findR_none hs n2]
  · rw [findR_short hs, findR_short hs]
end Go.Proofs.Ytmblabonnioomaa.M
