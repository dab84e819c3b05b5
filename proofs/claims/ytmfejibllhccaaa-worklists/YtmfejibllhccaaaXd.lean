/-
  The walk by a list of what is to be done is the walk by recursion (layer 6): plain facts.
-/
import Derived.Test.YtmfejibllhccaaaWf
namespace Go.Proofs.Ytmfejibllhccaaa.Hx
open Hw

section
variable {U : List Int} {most : Int} {es : List (Int × Int)} {bs : List Int}
theorem allL_congr {n : Nat} {c c' : List Int → Int → List Int × Bool} (hk : ∀ o x, x ∈ U → Keeps U o (c o x).1) (h : ∀ o x, x ∈ U → miss U o ≤ n → c o x = c' o x) :
    ∀ (l out : List Int), (∀ x, x ∈ l → x ∈ U) → miss U out ≤ n → allL c out l = allL c' out l
  | [], _, _, _ => rfl
  | x :: l, out, hl, hm => by
    have hx := hl x (by simp)
    unfold allL
    rw [← h out x hx hm]
    rw [allL_congr hk h l (c out x).1 (fun y hy => hl y (by simp [hy])) (Nat.le_trans (miss_mono (hk out x hx).1) hm)]
theorem come_fuel (hU : ∀ k x, x ∈ nexts es k → x ∈ U) : ∀ (n : Nat) (out : List Int) (k : Int), k ∈ U → miss U out ≤ n → ∀ m, n ≤ m → comeF most es bs (m + 1) out k = comeF most es bs (n + 1) out k := by
  intro n
  induction n with
  | zero =>
    intro out k hk hm m _
    have hin : k ∈ out := Classical.byContradiction fun hn => by have := miss_pos hk hn; omega
    rw [comeF, if_pos hin, comeF, if_pos hin]
  | succ n ih =>
    intro out k hk hm m hnm
    obtain ⟨m', rfl⟩ : ∃ m', m = m' + 1 := ⟨m - 1, by omega⟩
    rw [comeF, comeF]
    by_cases hin : k ∈ out
    · rw [if_pos hin, if_pos hin]
    · rw [if_neg hin, if_neg hin]
      by_cases hf : most ≤ out.length
      · rw [if_pos hf, if_pos hf]
      · rw [if_neg hf, if_neg hf]
        by_cases hb : k ∈ bs
        · rw [if_pos hb, if_pos hb]
        · rw [if_neg hb, if_neg hb]
          have hlt := miss_lt hk hin
          exact allL_congr (n := n) (fun o x hx => keeps_come hU _ o x hx) (fun o x hx ho => ih o x hx ho m' (by omega)) _ _ (hU k) (by omega)
theorem allL_append (c : List Int → Int → List Int × Bool) : ∀ (l r out : List Int), allL c out (l ++ r) = if (allL c out l).2 = true then allL c (allL c out l).1 r else allL c out l
  | [], r, out => by simp [allL]
  | x :: l, r, out => by
    rw [List.cons_append]
    by_cases hb : (c out x).2 = true
    · have h1 : allL c out (x :: l) = allL c (c out x).1 l := by rw [allL, if_pos hb]
      have h2 : allL c out (x :: (l ++ r)) = allL c (c out x).1 (l ++ r) := by rw [allL, if_pos hb]
      rw [h1, h2]; exact allL_append c l r _
    · have h1 : allL c out (x :: l) = ((c out x).1, false) := by rw [allL, if_neg hb]
      have h2 : allL c out (x :: (l ++ r)) = ((c out x).1, false) := by rw [allL, if_neg hb]
      rw [h1, h2, if_neg (by simp)]
theorem allL_filter {c : List Int → Int → List Int × Bool} (hin : ∀ o x, x ∈ o → c o x = (o, true)) (hk : ∀ o x y, y ∈ o → y ∈ (c o x).1) (ks : List Int) :
    ∀ (l out : List Int), (∀ x, x ∈ ks → x ∈ out) → allL c out (l.filter fun x => decide (x ∉ ks)) = allL c out l
  | [], _, _ => rfl
  | x :: l, out, h => by
    rw [List.filter_cons]
    by_cases hx : x ∈ ks
    · rw [if_neg (by simpa using hx), allL_filter hin hk ks l out h]
      conv => rhs; unfold allL
      rw [hin out x (h x hx), if_pos rfl]
    · rw [if_pos (by simpa using hx)]
      unfold allL
      rw [allL_filter hin hk ks l (c out x).1 (fun y hy => hk out x y (h y hy))]

/-- the walk of the program: what is left to be done, the first one ahead -/
def goesF (U : List Int) (most : Int) (es : List (Int × Int)) (bs out st : List Int) : List Int × Bool := allL (comeF most es bs (miss U [] + 1)) out st
theorem miss_le (out : List Int) : miss U out ≤ miss U [] := miss_mono (fun x hx => by cases hx)
theorem come_sub : ∀ (f : Nat) (o : List Int) (x y : Int), y ∈ o → y ∈ (comeF most es bs f o x).1 := fun f o x y hy => by
  obtain ⟨⟨t, ht⟩, _⟩ := told_come (most := most) (es := es) (bs := bs) f o x
  rw [ht]; simp [hy]
theorem goes_nil (out : List Int) : goesF U most es bs out [] = (out, true) := rfl
theorem goes_seen {out st : List Int} {k : Int} (h : k ∈ out) : goesF U most es bs out (k :: st) = goesF U most es bs out st := by
  unfold goesF
  conv => lhs; unfold allL
  rw [comeF, if_pos h, if_pos rfl]
theorem goes_full {out st : List Int} {k : Int} (h : k ∉ out) (hf : most ≤ out.length) : goesF U most es bs out (k :: st) = (out, false) := by
  unfold goesF allL
  rw [comeF, if_neg h, if_pos hf]
  rfl
theorem goes_bad {out st : List Int} {k : Int} (h : k ∉ out) (hf : ¬ most ≤ out.length) (hb : k ∈ bs) : goesF U most es bs out (k :: st) = (out ++ [k], false) := by
  unfold goesF allL
  rw [comeF, if_neg h, if_neg hf, if_pos hb]
  rfl
theorem goes_on (hU : ∀ k x, x ∈ nexts es k → x ∈ U) {out st : List Int} {k : Int} (hkU : k ∈ U) (h : k ∉ out) (hf : ¬ most ≤ out.length) (hb : k ∉ bs) :
    goesF U most es bs out (k :: st) = goesF U most es bs (out ++ [k]) ((nexts es k).filter (fun x => decide (x ∉ out ++ [k])) ++ st) := by
  have hlt := miss_lt hkU h
  have hle := miss_le (U := U) out
  obtain ⟨M, hM⟩ : ∃ M, miss U [] = M + 1 := ⟨miss U [] - 1, by omega⟩
  have hc : comeF most es bs (miss U [] + 1) out k = allL (comeF most es bs (miss U [] + 1)) (out ++ [k]) (nexts es k) := by
    rw [comeF, if_neg h, if_neg hf, if_neg hb, hM]
    exact (allL_congr (n := M) (fun o x hx => keeps_come hU _ o x hx) (fun o x hx ho => come_fuel hU M o x hx ho (M + 1) (by omega)) _ _ (hU k) (by omega)).symm
  unfold goesF
  rw [allL_append, allL_filter (fun o x hx => by rw [comeF, if_pos hx]) (fun o x y hy => come_sub _ o x y hy) (out ++ [k]) (nexts es k) (out ++ [k]) (fun x hx => hx), ← hc]
  rw [allL]
  by_cases hb2 : (comeF most es bs (miss U [] + 1) out k).2 = true
  · rw [if_pos hb2, if_pos hb2]
  · rw [if_neg hb2, if_neg hb2]
    exact Prod.ext rfl (by simpa using (Bool.eq_false_iff.2 hb2).symm)
end
end Go.Proofs.Ytmfejibllhccaaa.Hx
