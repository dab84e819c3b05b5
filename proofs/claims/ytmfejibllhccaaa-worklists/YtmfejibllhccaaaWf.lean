/-
  What holds of the document's walk (layer 6), as a Lean function: it is closed, each is told and comes once; with room for just as many it is the same.
-/
import Derived.Test.YtmfejibllhccaaaWd
namespace Go.Proofs.Ytmfejibllhccaaa.Hw

section
variable {U : List Int} {most : Int} {es : List (Int × Int)} {bs : List Int}

/-! ### closed -/
/-- k is there, and what each that came tells -/
def Cl (es : List (Int × Int)) (out r : List Int) : Prop := ∀ y, y ∈ r → y ∉ out → ∀ z, z ∈ nexts es y → z ∈ r
theorem closed_all {n : Nat} {c : List Int → Int → List Int × Bool} (hk : ∀ o x, x ∈ U → Keeps U o (c o x).1) (hc : ∀ o x, x ∈ U → miss U o ≤ n → (c o x).2 = true → x ∈ (c o x).1 ∧ Cl es o (c o x).1) :
    ∀ (l out : List Int), (∀ x, x ∈ l → x ∈ U) → miss U out ≤ n → (allL c out l).2 = true → (∀ x, x ∈ l → x ∈ (allL c out l).1) ∧ Cl es out (allL c out l).1
  | [], out, _, _, _ => ⟨fun x hx => (by cases hx), fun y hy hn => absurd hy hn⟩
  | x :: l, out, hl, hm, ht => by
    have hxU := hl x (by simp)
    have hlU : ∀ y, y ∈ l → y ∈ U := fun y hy => hl y (by simp [hy])
    unfold allL at ht ⊢
    by_cases hb : (c out x).2 = true
    · rw [if_pos hb] at ht ⊢
      obtain ⟨h1, h2⟩ := hc out x hxU hm hb
      have k1 := hk out x hxU
      have k2 := keeps_all hk l (c out x).1 hlU
      obtain ⟨i1, i2⟩ := closed_all hk hc l (c out x).1 hlU (Nat.le_trans (miss_mono k1.1) hm) ht
      refine ⟨fun y hy => ?_, fun y hy hn z hz => ?_⟩
      · cases hy with
        | head => exact k2.1 _ h1
        | tail _ hy => exact i1 y hy
      · by_cases hy1 : y ∈ (c out x).1
        · exact k2.1 _ (h2 y hy1 hn z hz)
        · exact i2 y hy hy1 z hz
    · rw [if_neg hb] at ht; cases ht
theorem closed_come (hU : ∀ k x, x ∈ nexts es k → x ∈ U) : ∀ (n : Nat) (out : List Int) (k : Int), k ∈ U → miss U out ≤ n → (comeF most es bs (n + 1) out k).2 = true → k ∈ (comeF most es bs (n + 1) out k).1 ∧ Cl es out (comeF most es bs (n + 1) out k).1 := by
  intro n
  induction n with
  | zero =>
    intro out k hk hm ht
    have hin : k ∈ out := Classical.byContradiction fun hn => by have := miss_pos hk hn; omega
    have hr : comeF most es bs (0 + 1) out k = (out, true) := by rw [comeF, if_pos hin]
    rw [hr]
    exact ⟨hin, fun y hy hn => absurd hy hn⟩
  | succ n ih =>
    intro out k hk hm ht
    by_cases hin : k ∈ out
    · have hr : comeF most es bs (n + 1 + 1) out k = (out, true) := by rw [comeF, if_pos hin]
      rw [hr]
      exact ⟨hin, fun y hy hn => absurd hy hn⟩
    · rw [comeF, if_neg hin] at ht ⊢
      by_cases hf : most ≤ out.length
      · rw [if_pos hf] at ht; cases ht
      · rw [if_neg hf] at ht ⊢
        by_cases hb : k ∈ bs
        · rw [if_pos hb] at ht; cases ht
        · rw [if_neg hb] at ht ⊢
          have hlt := miss_lt hk hin
          have kp := keeps_all (fun o x hx => keeps_come (most := most) (bs := bs) hU (n + 1) o x hx) (nexts es k) (out ++ [k]) (hU k)
          obtain ⟨i1, i2⟩ := closed_all (fun o x hx => keeps_come hU (n + 1) o x hx) ih (nexts es k) (out ++ [k]) (hU k) (by omega) ht
          refine ⟨kp.1 k (by simp), fun y hy hn z hz => ?_⟩
          by_cases e : y = k
          · subst e; exact i1 z hz
          · exact i2 y hy (by simp [hn, e]) z hz

/-! ### once -/
theorem nodup_all {c : List Int → Int → List Int × Bool} (hc : ∀ o x, o.Nodup → (c o x).1.Nodup) : ∀ (l out : List Int), out.Nodup → (allL c out l).1.Nodup
  | [], out, h => h
  | x :: l, out, h => by
    unfold allL
    by_cases hb : (c out x).2 = true
    · rw [if_pos hb]; exact nodup_all hc l _ (hc out x h)
    · rw [if_neg hb]; exact hc out x h
theorem nodup_snoc {out : List Int} {k : Int} (h : out.Nodup) (hn : k ∉ out) : (out ++ [k]).Nodup := by
  rw [List.nodup_append]
  exact ⟨h, by simp, fun a ha b hb e => by simp at hb; subst hb; subst e; exact hn ha⟩
theorem nodup_come : ∀ (f : Nat) (out : List Int) (k : Int), out.Nodup → (comeF most es bs f out k).1.Nodup
  | 0, out, k, h => h
  | f + 1, out, k, h => by
    unfold comeF
    by_cases h1 : k ∈ out
    · rw [if_pos h1]; exact h
    · rw [if_neg h1]
      by_cases h2 : most ≤ out.length
      · rw [if_pos h2]; exact h
      · rw [if_neg h2]
        by_cases h3 : k ∈ bs
        · rw [if_pos h3]; exact nodup_snoc h h1
        · rw [if_neg h3]; exact nodup_all (fun o x ho => nodup_come f o x ho) _ _ (nodup_snoc h h1)

/-! ### told -/
/-- behind out, each is a source's, or told by one ahead of it -/
def Told (es : List (Int × Int)) (src : Int → Prop) (out r : List Int) : Prop := (∃ t, r = out ++ t) ∧ ∀ i, out.length ≤ i → i < r.length → src (r.getD i 0) ∨ ∃ j, j < i ∧ r.getD i 0 ∈ nexts es (r.getD j 0)
theorem Told.refl (es : List (Int × Int)) (src : Int → Prop) (out : List Int) : Told es src out out := ⟨⟨[], by simp⟩, fun i h1 h2 => by omega⟩
theorem getD_pre (a t : List Int) (i : Nat) (h : i < a.length) : (a ++ t).getD i 0 = a.getD i 0 := by simp [List.getD, List.getElem?_append_left h]
theorem Told.trans {src : Int → Prop} {a b c : List Int} (h : Told es src a b) (k : Told es src b c) : Told es src a c := by
  obtain ⟨⟨t, rfl⟩, h2⟩ := h
  obtain ⟨⟨s, rfl⟩, k2⟩ := k
  refine ⟨⟨t ++ s, by simp⟩, fun i hi hlt => ?_⟩
  by_cases hb : i < (a ++ t).length
  · rw [getD_pre _ s i hb]
    rcases h2 i hi hb with h | ⟨j, hj, h⟩
    · exact .inl h
    · exact .inr ⟨j, hj, by rw [getD_pre _ s j (by omega)]; exact h⟩
  · exact k2 i (by omega) hlt
theorem Told.weaken {src src' : Int → Prop} {a b : List Int} (h : Told es src a b) (hs : ∀ x, src x → src' x) : Told es src' a b :=
  ⟨h.1, fun i h1 h2 => (h.2 i h1 h2).imp (hs _) id⟩
theorem told_all {c : List Int → Int → List Int × Bool} (hc : ∀ o x, Told es (· = x) o (c o x).1) : ∀ (l out : List Int), Told es (· ∈ l) out (allL c out l).1
  | [], out => Told.refl _ _ _
  | x :: l, out => by
    unfold allL
    have h1 : Told es (· ∈ x :: l) out (c out x).1 := (hc out x).weaken fun y e => by simp [e]
    by_cases hb : (c out x).2 = true
    · rw [if_pos hb]; exact h1.trans ((told_all hc l _).weaken fun y hy => by simp [hy])
    · rw [if_neg hb]; exact h1
theorem told_snoc (out : List Int) (k : Int) : Told es (· = k) out (out ++ [k]) := ⟨⟨[k], rfl⟩, fun i h1 h2 => .inl (by
  have : i = out.length := by simp at h2; omega
  subst this
  simp [List.getD])⟩
theorem told_come : ∀ (f : Nat) (out : List Int) (k : Int), Told es (· = k) out (comeF most es bs f out k).1
  | 0, out, k => Told.refl _ _ _
  | f + 1, out, k => by
    unfold comeF
    by_cases h1 : k ∈ out
    · rw [if_pos h1]; exact Told.refl _ _ _
    · rw [if_neg h1]
      by_cases h2 : most ≤ out.length
      · rw [if_pos h2]; exact Told.refl _ _ _
      · rw [if_neg h2]
        by_cases h3 : k ∈ bs
        · rw [if_pos h3]; exact told_snoc out k
        · rw [if_neg h3]
          have ha := told_all (fun o x => told_come f o x) (nexts es k) (out ++ [k])
          obtain ⟨⟨t, ht⟩, h4⟩ := ha
          refine (told_snoc out k).trans ⟨⟨t, ht⟩, fun i hi hlt => ?_⟩
          rcases h4 i hi hlt with h | h
          · refine .inr ⟨out.length, by simp at hi; omega, ?_⟩
            have hk : (allL (comeF most es bs f) (out ++ [k]) (nexts es k)).1.getD out.length 0 = k := by rw [ht, getD_pre _ t _ (by simp)]; simp [List.getD]
            rw [hk]
            exact h
          · exact .inr h

/-! ### room -/
theorem true_all {N : Nat} {c : List Int → Int → List Int × Bool} (hk : ∀ o x, x ∈ U → Keeps U o (c o x).1) (hc : ∀ o x, x ∈ U → o.length + miss U o ≤ N → (c o x).2 = true) : ∀ (l out : List Int), (∀ x, x ∈ l → x ∈ U) → out.length + miss U out ≤ N → (allL c out l).2 = true
  | [], out, _, _ => rfl
  | x :: l, out, hl, hb => by
    have hxU := hl x (by simp)
    unfold allL
    rw [if_pos (hc out x hxU hb)]
    exact true_all hk hc l _ (fun y hy => hl y (by simp [hy])) (Nat.le_trans (hk out x hxU).2 hb)
theorem true_come {N : Nat} (hU : ∀ k x, x ∈ nexts es k → x ∈ U) (hmost : (N : Int) ≤ most) : ∀ (f : Nat) (out : List Int) (k : Int), k ∈ U → out.length + miss U out ≤ N → (comeF most es [] f out k).2 = true
  | 0, out, k, _, _ => rfl
  | f + 1, out, k, hk, hb => by
    unfold comeF
    by_cases h1 : k ∈ out
    · rw [if_pos h1]
    · have := miss_pos hk h1
      rw [if_neg h1, if_neg (by omega), if_neg (by simp)]
      exact true_all (fun o x hx => keeps_come hU f o x hx) (fun o x hx hb => true_come hU hmost f o x hx hb) _ _ (hU k) (Nat.le_trans (Keeps.snoc hk h1).2 hb)
theorem pre_le {src : Int → Prop} {a b : List Int} (h : Told es src a b) : a.length ≤ b.length := by
  obtain ⟨⟨t, rfl⟩, _⟩ := h
  simp
theorem room_all {m' : Int} {c c' : List Int → Int → List Int × Bool} (ht : ∀ o x, Told es (· = x) o (c o x).1) (hc : ∀ o x, (c o x).2 = true → ((c o x).1.length : Int) ≤ m' → c' o x = c o x) :
    ∀ (l out : List Int), (allL c out l).2 = true → ((allL c out l).1.length : Int) ≤ m' → allL c' out l = allL c out l
  | [], out, _, _ => rfl
  | x :: l, out, h, hle => by
    unfold allL at h hle ⊢
    by_cases hb : (c out x).2 = true
    · rw [if_pos hb] at h hle
      have hp := pre_le (told_all (es := es) ht l (c out x).1)
      have he := hc out x hb (by omega)
      rw [he, if_pos hb, if_pos hb]
      exact room_all ht hc l _ h hle
    · rw [if_neg hb] at h; cases h
theorem room_come {m' : Int} : ∀ (f : Nat) (out : List Int) (k : Int), (comeF most es bs f out k).2 = true → ((comeF most es bs f out k).1.length : Int) ≤ m' → comeF m' es bs f out k = comeF most es bs f out k
  | 0, out, k, _, _ => rfl
  | f + 1, out, k, h, hle => by
    unfold comeF at h hle ⊢
    by_cases h1 : k ∈ out
    · rw [if_pos h1, if_pos h1]
    · rw [if_neg h1] at h hle
      rw [if_neg h1, if_neg h1]
      by_cases h2 : most ≤ out.length
      · rw [if_pos h2] at h; cases h
      · rw [if_neg h2] at h hle
        rw [if_neg h2]
        by_cases h3 : k ∈ bs
        · rw [if_pos h3] at h; cases h
        · rw [if_neg h3] at h hle
          have hp := pre_le (told_all (es := es) (fun o x => told_come (most := most) (bs := bs) f o x) (nexts es k) (out ++ [k]))
          simp only [List.length_append, List.length_singleton] at hp
          rw [if_neg h3, if_neg (by omega), if_neg h3]
          exact room_all (es := es) (fun o x => told_come f o x) (fun o x ho hl => room_come f o x ho hl) _ _ h hle
end
end Go.Proofs.Ytmfejibllhccaaa.Hw
