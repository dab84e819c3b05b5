/-
  Layer 9 as Lean functions: numbers, steps, what a delta makes (goF, applyF, sizeF). No part of the program is named here.
-/
import GoSem.Claim
namespace Go.Proofs.Ytcgaofndckiddaa.Df

/-- the number that bytes begin with -/
def num (l : List UInt8) : Nat := (((l.getD 0 0).toNat * 256 + (l.getD 1 0).toNat) * 256 + (l.getD 2 0).toNat) * 256 + (l.getD 3 0).toNat
theorem num_lt (l : List UInt8) : num l < 4294967296 := by
  have h0 := (l.getD 0 0).toNat_lt
  have h1 := (l.getD 1 0).toNat_lt
  have h2 := (l.getD 2 0).toNat_lt
  have h3 := (l.getD 3 0).toNat_lt
  unfold num
  omega
/-- what is wrong with the first step, of k bytes made; 0: nothing -/
def code (b : List UInt8) (M k : Nat) (l : List UInt8) : Int :=
  if (l.getD 0 0).toNat = 1 then
    (if l.length < 9 then 2 else if num (l.drop 5) = 0 ∨ b.length < num (l.drop 1) + num (l.drop 5) ∨ M < k + num (l.drop 5) then 3 else 0)
  else if (l.getD 0 0).toNat = 2 then
    (if l.length < 5 ∨ l.length < 5 + num (l.drop 1) then 2 else if num (l.drop 1) = 0 ∨ M < k + num (l.drop 1) then 3 else 0)
  else 3
def says (b l : List UInt8) : List UInt8 := if (l.getD 0 0).toNat = 1 then (b.drop (num (l.drop 1))).take (num (l.drop 5)) else (l.drop 5).take (num (l.drop 1))
def size (l : List UInt8) : Nat := if (l.getD 0 0).toNat = 1 then 9 else 5 + num (l.drop 1)
theorem size_pos (l : List UInt8) : 5 ≤ size l := by unfold size; split <;> omega

/-- the text that steps make, behind what was made -/
def goF (b : List UInt8) (M : Nat) (t l : List UInt8) : List UInt8 × Int :=
  match l with
  | [] => if t.length < M then ([], 3) else (t, 0)
  | c :: r => if code b M t.length (c :: r) = 0 then goF b M (t ++ says b (c :: r)) ((c :: r).drop (size (c :: r))) else ([], code b M t.length (c :: r))
termination_by l.length
decreasing_by
  have := size_pos (c :: r)
  simp only [List.length_drop, List.length_cons]
  omega
theorem go_short {b : List UInt8} {M : Nat} {t : List UInt8} (h : t.length < M) : goF b M t [] = ([], 3) := by rw [goF, if_pos h]
theorem go_end {b : List UInt8} {M : Nat} {t : List UInt8} (h : ¬ t.length < M) : goF b M t [] = (t, 0) := by rw [goF, if_neg h]
theorem go_bad {b : List UInt8} {M : Nat} {t l : List UInt8} {c : Int} (h : l ≠ []) (hc : code b M t.length l = c) (h0 : c ≠ 0) : goF b M t l = ([], c) := by
  subst hc
  cases l with
  | nil => exact absurd rfl h
  | cons a r => rw [goF, if_neg h0]
theorem go_good {b : List UInt8} {M : Nat} {t l : List UInt8} (h : l ≠ []) (hc : code b M t.length l = 0) : goF b M t l = goF b M (t ++ says b l) (l.drop (size l)) := by
  cases l with
  | nil => exact absurd rfl h
  | cons a r => rw [goF, if_pos hc]

section
variable {b : List UInt8} {M k : Nat} {l : List UInt8}
theorem no_kind (h1 : (l.getD 0 0).toNat ≠ 1) (h2 : (l.getD 0 0).toNat ≠ 2) : code b M k l = 3 := by unfold code; rw [if_neg h1, if_neg h2]
theorem one_short (h : (l.getD 0 0).toNat = 1) (hl : l.length < 9) : code b M k l = 2 := by unfold code; rw [if_pos h, if_pos hl]
theorem one_form (h : (l.getD 0 0).toNat = 1) (hl : ¬ l.length < 9) (hf : num (l.drop 5) = 0 ∨ b.length < num (l.drop 1) + num (l.drop 5) ∨ M < k + num (l.drop 5)) : code b M k l = 3 := by unfold code; rw [if_pos h, if_neg hl, if_pos hf]
theorem one_good (h : (l.getD 0 0).toNat = 1) (hl : ¬ l.length < 9) (hf : ¬ (num (l.drop 5) = 0 ∨ b.length < num (l.drop 1) + num (l.drop 5) ∨ M < k + num (l.drop 5))) : code b M k l = 0 := by unfold code; rw [if_pos h, if_neg hl, if_neg hf]
theorem two_short (h : (l.getD 0 0).toNat = 2) (hl : l.length < 5 ∨ l.length < 5 + num (l.drop 1)) : code b M k l = 2 := by unfold code; rw [if_neg (by omega), if_pos h, if_pos hl]
theorem two_form (h : (l.getD 0 0).toNat = 2) (hl : ¬ (l.length < 5 ∨ l.length < 5 + num (l.drop 1))) (hf : num (l.drop 1) = 0 ∨ M < k + num (l.drop 1)) : code b M k l = 3 := by unfold code; rw [if_neg (by omega), if_pos h, if_neg hl, if_pos hf]
theorem two_good (h : (l.getD 0 0).toNat = 2) (hl : ¬ (l.length < 5 ∨ l.length < 5 + num (l.drop 1))) (hf : ¬ (num (l.drop 1) = 0 ∨ M < k + num (l.drop 1))) : code b M k l = 0 := by unfold code; rw [if_neg (by omega), if_pos h, if_neg hl, if_neg hf]
theorem one_says (h : (l.getD 0 0).toNat = 1) : says b l = (b.drop (num (l.drop 1))).take (num (l.drop 5)) := by unfold says; rw [if_pos h]
theorem two_says (h : (l.getD 0 0).toNat = 2) : says b l = (l.drop 5).take (num (l.drop 1)) := by unfold says; rw [if_neg (by omega)]
theorem one_size (h : (l.getD 0 0).toNat = 1) : size l = 9 := by unfold size; rw [if_pos h]
theorem two_size (h : (l.getD 0 0).toNat = 2) : size l = 5 + num (l.drop 1) := by unfold size; rw [if_neg (by omega)]
/-- what a step that is good makes is no longer than the room -/
theorem says_len (hc : code b M k l = 0) : k + (says b l).length ≤ M := by
  unfold code at hc
  unfold says
  by_cases h : (l.getD 0 0).toNat = 1
  · rw [if_pos h] at hc ⊢
    by_cases h1 : l.length < 9
    · rw [if_pos h1] at hc; exact absurd hc (by decide)
    · rw [if_neg h1] at hc
      by_cases h2 : num (l.drop 5) = 0 ∨ b.length < num (l.drop 1) + num (l.drop 5) ∨ M < k + num (l.drop 5)
      · rw [if_pos h2] at hc; exact absurd hc (by decide)
      · rw [List.length_take]; omega
  · rw [if_neg h] at hc ⊢
    by_cases h3 : (l.getD 0 0).toNat = 2
    · rw [if_pos h3] at hc
      by_cases h1 : l.length < 5 ∨ l.length < 5 + num (l.drop 1)
      · rw [if_pos h1] at hc; exact absurd hc (by decide)
      · rw [if_neg h1] at hc
        by_cases h2 : num (l.drop 1) = 0 ∨ M < k + num (l.drop 1)
        · rw [if_pos h2] at hc; exact absurd hc (by decide)
        · rw [List.length_take]; omega
    · rw [if_neg h3] at hc; exact absurd hc (by decide)
end

def applyF (b d : List UInt8) (M : Nat) : List UInt8 × Int :=
  if d.length < 8 then ([], 2) else if num d ≠ b.length then ([], 13) else if M < num (d.drop 4) then ([], 9) else goF b (num (d.drop 4)) [] (d.drop 8)
def sizeF (d : List UInt8) : Int × Int := if d.length < 8 then (0, 2) else (num (d.drop 4), 0)

/-! ### what is told -/
def num4 (n : Nat) : List UInt8 := [UInt8.ofNat (n / 16777216), UInt8.ofNat (n / 65536 % 256), UInt8.ofNat (n / 256 % 256), UInt8.ofNat (n % 256)]
def takeF (a n : Nat) : List UInt8 := if n = 0 then [] else 1 :: (num4 a ++ num4 n)
def tellF (t : List UInt8) : List UInt8 := if t = [] then [] else 2 :: (num4 t.length ++ t)
/-- with how many bytes both begin -/
def ahead : List UInt8 → List UInt8 → Nat
  | a :: x, b :: y => if a = b then ahead x y + 1 else 0
  | _, _ => 0
def behind (x y : List UInt8) : Nat := ahead x.reverse y.reverse
theorem ahead_le (x y : List UInt8) : ahead x y ≤ x.length ∧ ahead x y ≤ y.length := by
  induction x generalizing y with
  | nil => exact ⟨Nat.zero_le _, Nat.zero_le _⟩
  | cons a x ih =>
    cases y with
    | nil => exact ⟨Nat.zero_le _, Nat.zero_le _⟩
    | cons b y =>
      unfold ahead
      by_cases h : a = b
      · rw [if_pos h]
        have := ih y
        exact ⟨Nat.succ_le_succ this.1, Nat.succ_le_succ this.2⟩
      · rw [if_neg h]
        exact ⟨Nat.zero_le _, Nat.zero_le _⟩
def headF (b t : List UInt8) : List UInt8 := num4 b.length ++ num4 t.length
def whollyF (b t : List UInt8) : List UInt8 := headF b t ++ tellF t
def endsF (b t : List UInt8) : List UInt8 :=
  let h := ahead b t
  let e := behind (b.drop h) (t.drop h)
  headF b t ++ takeF 0 h ++ tellF ((t.take (t.length - e)).drop h) ++ takeF (b.length - e) e
end Go.Proofs.Ytcgaofndckiddaa.Df
