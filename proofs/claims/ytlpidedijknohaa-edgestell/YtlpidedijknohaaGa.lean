/-
  Layer 8 as Lean functions: what tokens tell (goF, openF), and what a row of tokens says of a text (Says). No part of the program is named here.
-/
import GoSem.Claim
namespace Go.Proofs.Ytlpidedijknohaa.Sq

/-- n bytes more, each the one that stands d bytes ahead of the end -/
def agn : Nat → Nat → List UInt8 → List UInt8
  | 0, _, t => t
  | n + 1, d, t => agn n d (t ++ [t.getD (t.length - d) 0])
theorem agn_length (n d : Nat) (t : List UInt8) : (agn n d t).length = t.length + n := by
  induction n generalizing t with
  | zero => rfl
  | succ n ih => rw [agn, ih]; simp; omega
/-- one more, at the end -/
theorem agn_snoc (n d : Nat) (t : List UInt8) : agn (n + 1) d t = agn n d t ++ [(agn n d t).getD ((agn n d t).length - d) 0] := by
  induction n generalizing t with
  | zero => rfl
  | succ n ih => rw [agn, ih, ← agn]

/-- the first token's size; 0: the first token is wrong -/
def dist (s : List UInt8) : Nat := (s.getD 1 0).toNat * 256 + (s.getD 2 0).toNat
def code (most : Nat) (told s : List UInt8) : Int :=
  let c := (s.getD 0 0).toNat
  if c < 128 then (if s.length < c + 2 then 2 else if most < told.length + (c + 1) then 9 else 0)
  else (if s.length < 3 then 2 else if dist s = 0 ∨ told.length < dist s then 3 else if most < told.length + (c - 124) then 9 else 0)
def size (s : List UInt8) : Nat := if (s.getD 0 0).toNat < 128 then (s.getD 0 0).toNat + 2 else 3
def tells (told s : List UInt8) : List UInt8 :=
  if (s.getD 0 0).toNat < 128 then told ++ (s.drop 1).take ((s.getD 0 0).toNat + 1) else agn ((s.getD 0 0).toNat - 124) (dist s) told
theorem size_pos (s : List UInt8) : 2 ≤ size s := by unfold size; split <;> omega

/-- the text that tokens tell, behind what was told -/
def goF (most : Nat) (told s : List UInt8) : List UInt8 × Int :=
  match s with
  | [] => (told, 0)
  | c :: r => if code most told (c :: r) = 0 then goF most (tells told (c :: r)) ((c :: r).drop (size (c :: r))) else ([], code most told (c :: r))
termination_by s.length
decreasing_by
  have := size_pos (c :: r)
  simp only [List.length_drop, List.length_cons]
  omega
theorem go_nil (most : Nat) (told : List UInt8) : goF most told [] = (told, 0) := by rw [goF]
theorem go_bad {most : Nat} {told s : List UInt8} (h : s ≠ []) (hc : code most told s ≠ 0) : goF most told s = ([], code most told s) := by
  cases s with
  | nil => exact absurd rfl h
  | cons c r => rw [goF, if_neg hc]
theorem go_good {most : Nat} {told s : List UInt8} (h : s ≠ []) (hc : code most told s = 0) : goF most told s = goF most (tells told s) (s.drop (size s)) := by
  cases s with
  | nil => exact absurd rfl h
  | cons c r => rw [goF, if_pos hc]

def openF (s : List UInt8) (most : Nat) : List UInt8 × Int :=
  match s with
  | [] => ([], 2)
  | c :: r => if c.toNat = 0 then (if most < r.length then ([], 9) else (r, 0)) else if c.toNat = 1 then goF most [] r else ([], 3)

/-- what a token that is good leaves is no longer than the room -/
theorem tells_length {most : Nat} {told s : List UInt8} (hc : code most told s = 0) : (tells told s).length ≤ most := by
  unfold code at hc
  unfold tells
  by_cases h : (s.getD 0 0).toNat < 128
  · simp only [if_pos h] at hc ⊢
    by_cases h1 : s.length < (s.getD 0 0).toNat + 2
    · rw [if_pos h1] at hc; exact absurd hc (by decide)
    · rw [if_neg h1] at hc
      by_cases h2 : most < told.length + ((s.getD 0 0).toNat + 1)
      · rw [if_pos h2] at hc; exact absurd hc (by decide)
      · rw [List.length_append, List.length_take, List.length_drop]; omega
  · simp only [if_neg h] at hc ⊢
    by_cases h1 : s.length < 3
    · rw [if_pos h1] at hc; exact absurd hc (by decide)
    · rw [if_neg h1] at hc
      by_cases h2 : dist s = 0 ∨ told.length < dist s
      · rw [if_pos h2] at hc; exact absurd hc (by decide)
      · rw [if_neg h2] at hc
        by_cases h3 : most < told.length + ((s.getD 0 0).toNat - 124)
        · rw [if_pos h3] at hc; exact absurd hc (by decide)
        · rw [agn_length]; omega

/-- what tokens say, from the first to the last -/
inductive Says : List UInt8 → List UInt8 → Prop
  | none : Says [] []
  | lit (c t b : List UInt8) (h : Says c t) (h1 : 1 ≤ b.length) (h2 : b.length ≤ 128) : Says (c ++ UInt8.ofNat (b.length - 1) :: b) (t ++ b)
  | back (c t : List UInt8) (n d : Nat) (h : Says c t) (h1 : 4 ≤ n) (h2 : n ≤ 131) (h3 : 1 ≤ d) (h4 : d ≤ 65535) (h5 : d ≤ t.length) :
      Says (c ++ [UInt8.ofNat (n + 124), UInt8.ofNat (d / 256), UInt8.ofNat (d % 256)]) (agn n d t)

theorem u8 {n : Nat} (h : n < 256) : (UInt8.ofNat n).toNat = n := by rw [UInt8.toNat_ofNat']; exact Nat.mod_eq_of_lt h

theorem lit_code (most : Nat) (t b rest : List UInt8) (h1 : 1 ≤ b.length) (h2 : b.length ≤ 128) : code most t (UInt8.ofNat (b.length - 1) :: b ++ rest) = if most < t.length + b.length then 9 else 0 := by
  have hc : (UInt8.ofNat (b.length - 1)).toNat = b.length - 1 := u8 (by omega)
  unfold code
  simp only [List.cons_append, List.getD_cons_zero, hc]
  rw [if_pos (by omega), if_neg (by simp; omega), show b.length - 1 + 1 = b.length by omega]
theorem lit_tells (t b rest : List UInt8) (h1 : 1 ≤ b.length) (h2 : b.length ≤ 128) : tells t (UInt8.ofNat (b.length - 1) :: b ++ rest) = t ++ b := by
  have hc : (UInt8.ofNat (b.length - 1)).toNat = b.length - 1 := u8 (by omega)
  unfold tells
  simp only [List.cons_append, List.getD_cons_zero, hc]
  rw [if_pos (by omega), show b.length - 1 + 1 = b.length by omega]
  simp
theorem lit_size (b rest : List UInt8) (h1 : 1 ≤ b.length) (h2 : b.length ≤ 128) : (UInt8.ofNat (b.length - 1) :: b ++ rest).drop (size (UInt8.ofNat (b.length - 1) :: b ++ rest)) = rest := by
  have hc : (UInt8.ofNat (b.length - 1)).toNat = b.length - 1 := u8 (by omega)
  unfold size
  simp only [List.cons_append, List.getD_cons_zero, hc]
  rw [if_pos (by omega), show b.length - 1 + 2 = b.length + 1 by omega]
  simp
theorem back_dist (n d : Nat) (rest : List UInt8) (h4 : d ≤ 65535) : dist ([UInt8.ofNat (n + 124), UInt8.ofNat (d / 256), UInt8.ofNat (d % 256)] ++ rest) = d := by
  have e1 : (UInt8.ofNat (d / 256)).toNat = d / 256 := u8 (by omega)
  have e2 : (UInt8.ofNat (d % 256)).toNat = d % 256 := u8 (by omega)
  unfold dist
  simp only [List.cons_append, List.getD_cons_zero, List.getD_cons_succ, e1, e2]
  omega
theorem back_code (most : Nat) (t rest : List UInt8) (n d : Nat) (h1 : 4 ≤ n) (h2 : n ≤ 131) (h3 : 1 ≤ d) (h4 : d ≤ 65535) (h5 : d ≤ t.length) :
    code most t ([UInt8.ofNat (n + 124), UInt8.ofNat (d / 256), UInt8.ofNat (d % 256)] ++ rest) = if most < t.length + n then 9 else 0 := by
  have hc : (UInt8.ofNat (n + 124)).toNat = n + 124 := u8 (by omega)
  have hd := back_dist n d rest h4
  unfold code
  rw [hd]
  simp only [List.cons_append, List.getD_cons_zero, hc]
  rw [if_neg (by omega), if_neg (by simp), if_neg (by omega), show n + 124 - 124 = n by omega]
theorem back_tells (t rest : List UInt8) (n d : Nat) (h1 : 4 ≤ n) (h2 : n ≤ 131) (h4 : d ≤ 65535) :
    tells t ([UInt8.ofNat (n + 124), UInt8.ofNat (d / 256), UInt8.ofNat (d % 256)] ++ rest) = agn n d t := by
  have hc : (UInt8.ofNat (n + 124)).toNat = n + 124 := u8 (by omega)
  have hd := back_dist n d rest h4
  unfold tells
  rw [hd]
  simp only [List.cons_append, List.getD_cons_zero, hc]
  rw [if_neg (by omega), show n + 124 - 124 = n by omega]
theorem back_size (n d : Nat) (rest : List UInt8) (h1 : 4 ≤ n) (h2 : n ≤ 131) :
    ([UInt8.ofNat (n + 124), UInt8.ofNat (d / 256), UInt8.ofNat (d % 256)] ++ rest).drop (size ([UInt8.ofNat (n + 124), UInt8.ofNat (d / 256), UInt8.ofNat (d % 256)] ++ rest)) = rest := by
  have hc : (UInt8.ofNat (n + 124)).toNat = n + 124 := u8 (by omega)
  unfold size
  simp only [List.cons_append, List.getD_cons_zero, hc]
  rw [if_neg (by omega)]
  simp

theorem says_go {c t : List UInt8} (h : Says c t) (most : Nat) : (t.length ≤ most → ∀ rest, goF most [] (c ++ rest) = goF most t rest) ∧ (most < t.length → ∀ rest, goF most [] (c ++ rest) = ([], 9)) := by
  induction h with
  | none => exact ⟨fun _ rest => by simp, fun h => by simp at h⟩
  | lit c t b h h1 h2 ih =>
    refine ⟨fun hm rest => ?_, fun hm rest => ?_⟩
    · simp only [List.length_append] at hm
      have hc := lit_code most t b rest h1 h2
      rw [if_neg (by omega)] at hc
      rw [List.append_assoc, ih.1 (by omega), go_good (by simp) hc, lit_tells t b rest h1 h2, lit_size b rest h1 h2]
    · simp only [List.length_append] at hm
      by_cases ht : t.length ≤ most
      · have hc := lit_code most t b rest h1 h2
        rw [if_pos (by omega)] at hc
        rw [List.append_assoc, ih.1 ht, go_bad (by simp) (by rw [hc]; decide), hc]
      · rw [List.append_assoc]
        exact ih.2 (by omega) _
  | back c t n d h h1 h2 h3 h4 h5 ih =>
    refine ⟨fun hm rest => ?_, fun hm rest => ?_⟩
    · rw [agn_length] at hm
      have hc := back_code most t rest n d h1 h2 h3 h4 h5
      rw [if_neg (by omega)] at hc
      rw [List.append_assoc, ih.1 (by omega), go_good (by simp) hc, back_tells t rest n d h1 h2 h4, back_size n d rest h1 h2]
    · rw [agn_length] at hm
      by_cases ht : t.length ≤ most
      · have hc := back_code most t rest n d h1 h2 h3 h4 h5
        rw [if_pos (by omega)] at hc
        rw [List.append_assoc, ih.1 ht, go_bad (by simp) (by rw [hc]; decide), hc]
      · rw [List.append_assoc]
        exact ih.2 (by omega) _

theorem open_says {c t : List UInt8} (h : Says c t) (most : Nat) : openF (1 :: c) most = if t.length ≤ most then (t, 0) else ([], 9) := by
  have hg := says_go h most
  show (if (1 : UInt8).toNat = 0 then (if most < c.length then ([], 9) else (c, 0)) else if (1 : UInt8).toNat = 1 then goF most [] c else ([], 3)) = _
  rw [if_neg (by decide), if_pos (by decide)]
  split
  · rename_i hm
    have := hg.1 hm []
    rw [List.append_nil] at this
    rw [this, go_nil]
  · rename_i hm
    have := hg.2 (by omega) []
    rw [List.append_nil] at this
    exact this
theorem open_plain (t : List UInt8) (most : Nat) : openF (0 :: t) most = if t.length ≤ most then (t, 0) else ([], 9) := by
  show (if (0 : UInt8).toNat = 0 then (if most < t.length then ([], 9) else (t, 0)) else if (0 : UInt8).toNat = 1 then goF most [] t else ([], 3)) = _
  rw [if_pos (by decide)]
  split
  · rename_i h; rw [if_neg (by omega)]
  · rename_i h; rw [if_pos (by omega)]

/-- bytes of a text that stood ahead, told again -/
theorem agn_take (s : List UInt8) (at_ fr n : Nat) (hf : fr < at_) (hn : at_ + n ≤ s.length) (h : ∀ i, i < n → s.getD (fr + i) 0 = s.getD (at_ + i) 0) : agn n (at_ - fr) (s.take at_) = s.take (at_ + n) := by
  induction n with
  | zero => rfl
  | succ n ih =>
    have e := ih (by omega) (fun i hi => h i (by omega))
    rw [agn_snoc, e]
    have hl : (s.take (at_ + n)).length = at_ + n := by simp; omega
    rw [hl, show at_ + n - (at_ - fr) = fr + n by omega]
    have hg : (s.take (at_ + n)).getD (fr + n) 0 = s.getD (at_ + n) 0 := by
      rw [← h n (by omega)]
      simp [List.getD, show fr + n < at_ + n by omega]
    rw [hg, show at_ + (n + 1) = at_ + n + 1 by omega, List.take_add_one]
    congr 1
    simp [List.getD, List.getElem?_eq_getElem (show at_ + n < s.length by omega)]

section
variable {M n : Nat} {t s : List UInt8}
theorem litShort (hc : (s.getD 0 0).toNat = n) (h : n < 128) (h1 : s.length < n + 2) : code M t s = 2 := by unfold code; simp only [hc]; rw [if_pos h, if_pos h1]
theorem litLimit (hc : (s.getD 0 0).toNat = n) (h : n < 128) (h1 : n + 2 ≤ s.length) (h2 : M < t.length + (n + 1)) : code M t s = 9 := by unfold code; simp only [hc]; rw [if_pos h, if_neg (by omega), if_pos h2]
theorem litGood (hc : (s.getD 0 0).toNat = n) (h : n < 128) (h1 : n + 2 ≤ s.length) (h2 : t.length + (n + 1) ≤ M) : code M t s = 0 := by unfold code; simp only [hc]; rw [if_pos h, if_neg (by omega), if_neg (by omega)]
theorem litSize (hc : (s.getD 0 0).toNat = n) (h : n < 128) : size s = n + 2 := by unfold size; rw [hc, if_pos h]
theorem litTells (hc : (s.getD 0 0).toNat = n) (h : n < 128) : tells t s = t ++ (s.drop 1).take (n + 1) := by unfold tells; rw [hc, if_pos h]
theorem agShort (hc : (s.getD 0 0).toNat = n) (h : 128 ≤ n) (h1 : s.length < 3) : code M t s = 2 := by unfold code; simp only [hc]; rw [if_neg (by omega), if_pos h1]
theorem agForm (hc : (s.getD 0 0).toNat = n) (h : 128 ≤ n) (h1 : 3 ≤ s.length) (h2 : dist s = 0 ∨ t.length < dist s) : code M t s = 3 := by unfold code; simp only [hc]; rw [if_neg (by omega), if_neg (by omega), if_pos h2]
theorem agLimit (hc : (s.getD 0 0).toNat = n) (h : 128 ≤ n) (h1 : 3 ≤ s.length) (h2 : ¬ (dist s = 0 ∨ t.length < dist s)) (h3 : M < t.length + (n - 124)) : code M t s = 9 := by unfold code; simp only [hc]; rw [if_neg (by omega), if_neg (by omega), if_neg h2, if_pos h3]
theorem agGood (hc : (s.getD 0 0).toNat = n) (h : 128 ≤ n) (h1 : 3 ≤ s.length) (h2 : ¬ (dist s = 0 ∨ t.length < dist s)) (h3 : t.length + (n - 124) ≤ M) : code M t s = 0 := by unfold code; simp only [hc]; rw [if_neg (by omega), if_neg (by omega), if_neg h2, if_neg (by omega)]
theorem agSize (hc : (s.getD 0 0).toNat = n) (h : 128 ≤ n) : size s = 3 := by unfold size; rw [hc, if_neg (by omega)]
theorem agTells (hc : (s.getD 0 0).toNat = n) (h : 128 ≤ n) : tells t s = agn (n - 124) (dist s) t := by unfold tells; rw [hc, if_neg (by omega)]
theorem go_code {c : Int} (h : s ≠ []) (hc : code M t s = c) (h0 : c ≠ 0) : goF M t s = ([], c) := by rw [go_bad h (by rw [hc]; exact h0), hc]
end
theorem drop_cons_ne {s : List UInt8} {k : Nat} (h : k < s.length) : s.drop k ≠ [] := by simp; omega
theorem drop_getD (s : List UInt8) (k j : Nat) : (s.drop k).getD j 0 = s.getD (k + j) 0 := by simp [List.getD]
end Go.Proofs.Ytlpidedijknohaa.Sq
