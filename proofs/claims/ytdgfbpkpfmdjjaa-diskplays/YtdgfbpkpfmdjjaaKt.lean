/-
  Plain facts on files that are as they were (layer 7).
-/
import Derived.Test.YtdgfbpkpfmdjjaaKs
namespace Go.Proofs.Ytdgfbpkpfmdjjaa.Hk
open Go.RowKit Hr Hw Ht
set_option linter.unusedVariables false

theorem has_str (l : List Fl) (k : Lit) : (∃ p, k = pk p) ∨ Maps.has (toD l) k = false := by
  cases k with
  | string bs => exact .inl ⟨⟨bs.toArray⟩, by simp [pk]⟩
  | _ =>
    refine .inr ?_
    show (ents l).any _ = false
    rw [List.any_eq_false]
    intro q hq
    obtain ⟨x, _, rfl⟩ := List.mem_map.1 hq
    simp [pk, Lit.sameKey]
theorem ents_inj : ∀ {l₁ l₂ : List Fl}, ents l₁ = ents l₂ → l₁ = l₂
  | [], [], _ => rfl
  | [], b :: s, h => by cases h
  | a :: r, [], h => by cases h
  | a :: r, b :: s, h => by
    simp only [ents, List.map_cons, List.cons.injEq, Prod.mk.injEq] at h
    obtain ⟨⟨h1, h2⟩, h3⟩ := h
    rw [ents_inj (l₁ := r) (l₂ := s) h3, Prod.ext (pk_inj h1) (el_inj h2)]
/-- two rising lists in which the same is found are one -/
theorem eq_of_find {l₁ l₂ : List Fl} (h1 : Rise l₁) (h2 : Rise l₂) (h : ∀ p, findF l₁ p = findF l₂ p) : l₁ = l₂ := by
  have e : toD l₁ = toD l₂ := Maps.ext (canon_toD h1) (canon_toD h2) (fun k => by
    rcases has_str l₁ k with ⟨p, rfl⟩ | h3
    · rw [has_toD, has_toD, h]
    · rcases has_str l₂ k with ⟨p, rfl⟩ | h4
      · rw [has_toD, has_toD, h]
      · rw [h3, h4]) (fun k z hk => by
    rcases has_str l₁ k with ⟨p, rfl⟩ | h3
    · rw [at_toD, at_toD, h]
    · rw [h3] at hk; cases hk)
  unfold toD at e
  injection e with e
  exact ents_inj e
/-- a rename there and back -/
theorem there_back {l : List Fl} (hr : Rise l) {a b u : ByteArray} (ha : findF l a = some u) (hb : findF l b = none) : doneF (doneF l (2, a, b)) (2, b, a) = l ∧ findF (doneF l (2, a, b)) b = some u := by
  have e1 : doneF l (2, a, b) = withF (withoutF l a) (b, u) := by simp [doneF, ha]
  have hf : findF (withF (withoutF l a) (b, u)) b = some u := by rw [find_with]; simp
  have e2 : doneF (withF (withoutF l a) (b, u)) (2, b, a) = withF (withoutF (withF (withoutF l a) (b, u)) b) (a, u) := by simp [doneF, hf]
  rw [e1, e2]
  refine ⟨eq_of_find (rise_with (rise_without (rise_with (rise_without hr _) _) _) _) hr (fun p => ?_), hf⟩
  simp only [find_with, find_without]
  by_cases h1 : p = a
  · subst h1; simp [ha]
  · by_cases h2 : p = b
    · subst h2; simp [h1, hb]
    · simp [h1, h2]
/-- a write that is removed again -/
theorem put_back {l : List Fl} (hr : Rise l) {a t x : ByteArray} (ha : findF l a = none) : doneF (doneF l (1, a, t)) (3, a, x) = l ∧ findF (doneF l (1, a, t)) a = some t ∧ takenF (doneF l (1, a, t)) = takenF l + a.size + t.size := by
  have e1 : doneF l (1, a, t) = withF l (a, t) := rfl
  have e2 : doneF (withF l (a, t)) (3, a, x) = withoutF (withF l (a, t)) a := rfl
  have h0 : takes l a = 0 := by simp [takes, ha]
  have h1 := taken_without hr a
  rw [e1, e2]
  refine ⟨eq_of_find (rise_without (rise_with hr _) _) hr (fun p => ?_), by rw [find_with]; simp, by rw [taken_with]; simp only; omega⟩
  simp only [find_with, find_without]
  by_cases h1 : p = a
  · subst h1; simp [ha]
  · simp [h1]
theorem calm_len {room : Int} {n m : Nat} {d : Dsk} (h : Calm room n m d) : (sn d).length ≤ n := by
  have := seenF_len d.rows d.lies
  have := h.len
  unfold sn
  omega
/-- it is answered well, if there is room -/
theorem calm_go {room : Int} {n m : Nat} {d : Dsk} (h : Calm room n m d) (e : Ef) (hb : badB e = false) (hl : lackB (sn d) e = false) (hn : n ≤ 4000) (ht : (takenF (doneF (sn d) e) : Int) ≤ room) : doF d e = ({ d with rows := d.rows ++ [e] }, 0) := by
  rcases calm_do h e with ⟨e1, h1⟩ | ⟨e1, h1, h2⟩ | ⟨e1, h1, h2, h3⟩ | ⟨e1, h1, h2, h3⟩
  · rw [h1] at hb; cases hb
  · rw [h2] at hl; cases hl
  · unfold fullB at h3
    simp only [Bool.and_eq_true, Bool.or_eq_true, decide_eq_true_eq] at h3
    have h4 := doneF_len (sn d) e
    have h5 := calm_len h
    rcases h3.2 with h6 | h6 <;> omega
  · exact e1
theorem h_swap {w1 w : World} {T U R : List Nat → World → Prop} (h : Holds w1 (Star T (Star U R)) w) : Holds w1 (Star U (Star T R)) w := h.imp imp_swap
/-- what a row of strings reads as -/
theorem rs_reads {w1 w : World} {A : Option Addr} {n c : Nat} {l : List ByteArray} {R : List Nat → World → Prop} (h : Holds w1 (Star (Rs (.slice A n c) l) R) w) : n = l.length ∧ Sts w w.heap.size A l := by
  obtain ⟨F, ⟨A', B', _, _, ⟨_, ho⟩, _⟩, _, _⟩ := h
  obtain ⟨A2, c2, e, _, hr⟩ := recs_own scells_len (by omega) ho
  injection e with e1 e2 e3
  rw [e1]
  exact ⟨e2, hr⟩
/-- the same texts -/
theorem h_same {w1 w : World} {A B : Option Addr} {c e : Nat} {l l' : List ByteArray} {R : List Nat → World → Prop} (h : Holds w1 (Star (Rs (.slice A l.length c) l) (Star (Rs (.slice B l'.length e) l') R)) w) (hR : Part R) (hl : l.length ≤ 10000) (hll : l = l') :
    Calls Try.prog 20 #[.slice A l.length c, .slice B l'.length e] w fun r w' => r = .returned (.bool true) ∧ Holds w1 (Star (Rs (.slice A l.length c) l) (Star (Rs (.slice B l'.length e) l') R)) w' := by
  subst hll
  refine (texts_any w w.heap.size A B c e l l (rs_reads h).2 (rs_reads (h_swap h)).2 (Nat.le_refl _) (by omega) (by omega)).mono ?_
  rintro r w' ⟨rfl, hb⟩
  exact ⟨by simp, h.below ((rs_part _ _).star ((rs_part _ _).star hR)) hb⟩
theorem str_self (a : ByteArray) : (a.toList == a.toList) = true := by simp
end Go.Proofs.Ytdgfbpkpfmdjjaa.Hk
