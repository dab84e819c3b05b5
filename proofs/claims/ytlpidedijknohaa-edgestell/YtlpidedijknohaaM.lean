/-
  Plain facts on digits, bytes and their lists: no part of the program is named here.
-/
import GoSem.Claim
namespace Go.Proofs.Ytlpidedijknohaa.M

def hexc (n : Nat) : UInt8 := UInt8.ofNat (if n < 10 then 48 + n else 87 + n)
theorem hexc_toNat {n : Nat} (h : n < 16) : (hexc n).toNat = if n < 10 then 48 + n else 87 + n := by
  unfold hexc
  rw [UInt8.toNat_ofNat']
  apply Nat.mod_eq_of_lt
  split <;> omega

def worthB (c : UInt8) : Bool := decide (48 ≤ c.toNat ∧ c.toNat ≤ 57 ∨ 97 ≤ c.toNat ∧ c.toNat ≤ 102)
def worthV (c : UInt8) : Nat := if 48 ≤ c.toNat ∧ c.toNat ≤ 57 then c.toNat - 48 else if 97 ≤ c.toNat ∧ c.toNat ≤ 102 then c.toNat - 87 else 0
theorem worthV_lt (c : UInt8) : worthV c < 16 := by
  unfold worthV
  repeat' split
  all_goals omega
theorem worthB_hexc {n : Nat} (h : n < 16) : worthB (hexc n) = true := by
  unfold worthB
  rw [hexc_toNat h]
  simp only [decide_eq_true_eq]
  split <;> omega
theorem worthV_hexc {n : Nat} (h : n < 16) : worthV (hexc n) = n := by
  unfold worthV
  rw [hexc_toNat h]
  repeat' split
  all_goals omega
theorem hexc_worthV {c : UInt8} (h : worthB c = true) : hexc (worthV c) = c := by
  apply UInt8.toNat_inj.1
  rw [hexc_toNat (worthV_lt c)]
  unfold worthB at h
  simp only [decide_eq_true_eq] at h
  unfold worthV
  repeat' split
  all_goals omega
theorem hexc_lt_iff {m n : Nat} (hm : m < 16) (hn : n < 16) : hexc m < hexc n ↔ m < n := by
  rw [UInt8.lt_iff_toNat_lt, hexc_toNat hm, hexc_toNat hn]
  repeat' split
  all_goals omega
theorem hexc_inj {m n : Nat} (hm : m < 16) (hn : n < 16) (h : hexc m = hexc n) : m = n := by
  rw [← worthV_hexc hm, ← worthV_hexc hn, h]

/-- the digits of bytes -/
def digs : List UInt8 → List UInt8
  | [] => []
  | c :: r => hexc (c.toNat / 16) :: hexc (c.toNat % 16) :: digs r
theorem digs_length (l : List UInt8) : (digs l).length = 2 * l.length := by
  induction l with
  | nil => rfl
  | cons c r ih => simp [digs, ih]; omega
theorem digs_append (a b : List UInt8) : digs (a ++ b) = digs a ++ digs b := by
  induction a with
  | nil => rfl
  | cons c r ih => simp [digs, ih]

/-- the digit at a place -/
def dig (l : List UInt8) (k : Nat) : UInt8 := hexc (if k % 2 = 0 then (l.getD (k / 2) 0).toNat / 16 else (l.getD (k / 2) 0).toNat % 16)
theorem digs_get (l : List UInt8) (k : Nat) (h : k < 2 * l.length) : (digs l)[k]? = some (dig l k) := by
  induction l generalizing k with
  | nil => simp at h
  | cons c r ih =>
    match k with
    | 0 => simp [digs, dig]
    | 1 => simp [digs, dig]
    | k + 2 =>
      have h2 : k < 2 * r.length := by simp at h; omega
      have e1 : (k + 2) % 2 = k % 2 := by omega
      have e2 : (k + 2) / 2 = k / 2 + 1 := by omega
      simp only [digs, List.getElem?_cons_succ, ih k h2, dig, e1, e2, List.getD_cons_succ]
theorem digs_getD (l : List UInt8) (k : Nat) (h : k < 2 * l.length) : (digs l).getD k 0 = dig l k := by
  simp [List.getD, digs_get l k h]
theorem digs_eq_map (l : List UInt8) : digs l = (List.range (2 * l.length)).map (dig l) := by
  apply List.ext_getElem?
  intro k
  by_cases h : k < 2 * l.length
  · rw [digs_get l k h]; simp [h]
  · rw [List.getElem?_eq_none (by rw [digs_length]; omega), List.getElem?_eq_none (by simp; omega)]

/-- the bytes of digits -/
def good (s : List UInt8) (i : Nat) : Bool := worthB (s.getD (2 * i) 0) && worthB (s.getD (2 * i + 1) 0)
def byteAt (s : List UInt8) (i : Nat) : UInt8 := UInt8.ofNat (16 * worthV (s.getD (2 * i) 0) + worthV (s.getD (2 * i + 1) 0))
def undig : List UInt8 → Option (List UInt8)
  | [] => some []
  | [_] => none
  | a :: b :: r => if worthB a && worthB b then (undig r).map (UInt8.ofNat (16 * worthV a + worthV b) :: ·) else none

theorem undig_digs (l : List UInt8) : undig (digs l) = some l := by
  induction l with
  | nil => rfl
  | cons c r ih =>
    have hc : c.toNat < 256 := c.toNat_lt
    have h1 : c.toNat / 16 < 16 := by omega
    have h2 : c.toNat % 16 < 16 := by omega
    have e : 16 * (c.toNat / 16) + c.toNat % 16 = c.toNat := by omega
    simp [digs, undig, worthB_hexc h1, worthB_hexc h2, worthV_hexc h1, worthV_hexc h2, ih, e]
theorem digs_undig : ∀ (s l : List UInt8), undig s = some l → digs l = s
  | [], l, h => by simp [undig] at h; subst h; rfl
  | [_], l, h => by simp [undig] at h
  | a :: b :: r, l, h => by
    simp only [undig] at h
    split at h
    · rename_i hab
      simp only [Bool.and_eq_true] at hab
      obtain ⟨l', h', rfl⟩ := Option.map_eq_some_iff.1 h
      have ih := digs_undig r l' h'
      have ha := worthV_lt a
      have hb := worthV_lt b
      have e : (UInt8.ofNat (16 * worthV a + worthV b)).toNat = 16 * worthV a + worthV b := by
        rw [UInt8.toNat_ofNat']; apply Nat.mod_eq_of_lt; omega
      simp only [digs, e, ih]
      rw [show (16 * worthV a + worthV b) / 16 = worthV a by omega, show (16 * worthV a + worthV b) % 16 = worthV b by omega, hexc_worthV hab.1, hexc_worthV hab.2]
    · simp at h
theorem undig_odd : ∀ (s : List UInt8), s.length % 2 = 1 → undig s = none
  | [], h => by simp at h
  | [_], _ => rfl
  | a :: b :: r, h => by
    have := undig_odd r (by simp at h; omega)
    simp [undig, this]
theorem undig_bad : ∀ (s : List UInt8) (i : Nat), i < s.length / 2 → good s i = false → undig s = none
  | [], i, h, _ => by simp at h
  | [_], _, _, _ => rfl
  | a :: b :: r, 0, _, hg => by
    simp [good] at hg
    simp only [undig]
    rw [if_neg]
    simp; exact hg
  | a :: b :: r, i + 1, h, hg => by
    have := undig_bad r i (by simp at h; omega) (by
      rw [← hg]
      simp [good, show 2 * (i + 1) = 2 * i + 1 + 1 by omega])
    simp [undig, this]
theorem undig_ok : ∀ (s : List UInt8), s.length % 2 = 0 → (∀ i, i < s.length / 2 → good s i = true) → undig s = some ((List.range (s.length / 2)).map (byteAt s))
  | [], _, _ => rfl
  | [_], h, _ => by simp at h
  | a :: b :: r, h, hg => by
    have ih := undig_ok r (by simp at h; omega) (fun i hi => by
      have := hg (i + 1) (by simp; omega)
      rw [← this]
      simp [good, show 2 * (i + 1) = 2 * i + 1 + 1 by omega])
    have h0 := hg 0 (by simp)
    simp [good] at h0
    have hl : (a :: b :: r).length / 2 = r.length / 2 + 1 := by simp; omega
    rw [hl, List.range_succ_eq_map]
    simp only [undig, h0.1, h0.2, ih, List.map_cons, List.map_map]
    simp [byteAt, Function.comp_def, show ∀ i, 2 * (i + 1) = 2 * i + 1 + 1 from fun i => by omega]
def unb (s : List UInt8) : List UInt8 := (undig s).getD []
def unc (s : List UInt8) : Int := if (undig s).isSome then 0 else 3

/-- the order of texts is that of their digits -/
theorem digs_lt : ∀ (a b : List UInt8), digs a < digs b ↔ a < b
  | [], [] => by simp [digs]
  | [], c :: r => by simp [digs]
  | c :: r, [] => by simp [digs]
  | c :: r, d :: t => by
    have ih := digs_lt r t
    have hc : c.toNat < 256 := c.toNat_lt
    have hd : d.toNat < 256 := d.toNat_lt
    simp only [digs, List.cons_lt_cons_iff, ih, hexc_lt_iff (show c.toNat / 16 < 16 by omega) (show d.toNat / 16 < 16 by omega), hexc_lt_iff (show c.toNat % 16 < 16 by omega) (show d.toNat % 16 < 16 by omega), UInt8.lt_iff_toNat_lt]
    constructor
    · rintro (h | ⟨h1, h | ⟨h2, h⟩⟩)
      · left; omega
      · have := hexc_inj (by omega) (by omega) h1; left; omega
      · have e1 := hexc_inj (by omega) (by omega) h1
        have e2 := hexc_inj (by omega) (by omega) h2
        right
        exact ⟨UInt8.toNat_inj.1 (by omega), h⟩
    · rintro (h | ⟨rfl, h⟩)
      · by_cases e : c.toNat / 16 < d.toNat / 16
        · left; exact e
        · have e1 : c.toNat / 16 = d.toNat / 16 := by omega
          right
          refine ⟨by rw [e1], .inl (by omega)⟩
      · right; exact ⟨rfl, .inr ⟨rfl, h⟩⟩

end Go.Proofs.Ytlpidedijknohaa.M
