/-
  Plain facts on a disk that no cut is armed at (layer 7).
-/
import Derived.Test.YtdgfbpkpfmdjjaaKr
namespace Go.Proofs.Ytdgfbpkpfmdjjaa.Hk
open Go.RowKit Hr Hw Ht
set_option linter.unusedVariables false

/-- what is seen -/
def sn (d : Dsk) : List Fl := seenF d.lies d.rows
/-- up, no cut; each file has a path; so many acts, so many bytes -/
structure Calm (room : Int) (n m : Nat) (d : Dsk) : Prop where
  up : d.down = false
  left : d.left = 0
  room : d.room = room
  len : d.lies.length + d.rows.length ≤ n
  tak : takenF d.lies + wts d.rows ≤ m
  path : ∀ p, (findF (sn d) p).isSome = true → 1 ≤ p.size ∧ p.size ≤ 255
  rise : Rise d.lies
theorem Calm.fit {room : Int} {n m : Nat} {d : Dsk} (h : Calm room n m d) (hn : n ≤ 1900) (hm : m ≤ 500000000) : Fit d := ⟨by have := h.len; omega, by have := h.tak; omega, by rw [h.left]; omega, by rw [h.left]; omega⟩
theorem Calm.srise {room : Int} {n m : Nat} {d : Dsk} (h : Calm room n m d) : Rise (sn d) := rise_seen d.rows h.rise
theorem Calm.mono {room : Int} {n m n' m' : Nat} {d : Dsk} (h : Calm room n m d) (hn : n ≤ n') (hm : m ≤ m') : Calm room n' m' d := ⟨h.up, h.left, h.room, by have := h.len; omega, by have := h.tak; omega, h.path, h.rise⟩
theorem calm_new (room : Int) : Calm room 0 0 (newD room) := ⟨rfl, rfl, rfl, Nat.le_refl _, Nat.le_refl _, (fun p h => by cases h), List.Pairwise.nil⟩
/-- an effect on a calm disk is refused, or waits -/
theorem calm_do {room : Int} {n m : Nat} {d : Dsk} (h : Calm room n m d) (e : Ef) :
    (doF d e = (d, 12) ∧ badB e = true) ∨ (doF d e = (d, 5) ∧ badB e = false ∧ lackB (sn d) e = true) ∨ (doF d e = (d, 7) ∧ badB e = false ∧ lackB (sn d) e = false ∧ fullB (sn d) room e = true) ∨
    (doF d e = ({ d with rows := d.rows ++ [e] }, 0) ∧ badB e = false ∧ lackB (sn d) e = false ∧ fullB (sn d) room e = false) := by
  have hroom := h.room
  subst hroom
  unfold doF
  rw [if_neg (by rw [h.up]; decide)]
  by_cases hb : badB e = true
  · exact .inl ⟨by rw [if_pos hb], hb⟩
  · have hb' : badB e = false := by simpa using hb
    rw [if_neg hb]
    by_cases hl : lackB (seenF d.lies d.rows) e = true
    · exact .inr (.inl ⟨by rw [if_pos hl], hb', hl⟩)
    · have hl' : lackB (sn d) e = false := by simpa [sn] using hl
      rw [if_neg hl]
      by_cases hf : fullB (seenF d.lies d.rows) d.room e = true
      · exact .inr (.inr (.inl ⟨by rw [if_pos hf], hb', hl', hf⟩))
      · have hf' : fullB (sn d) d.room e = false := by simpa [sn] using hf
        rw [if_neg hf]
        have hc : callF { d with rows := d.rows ++ [e] } = ({ d with rows := d.rows ++ [e] }, false) := callF_nought (d := { d with rows := d.rows ++ [e] }) h.left
        rw [hc]
        exact .inr (.inr (.inr ⟨rfl, hb', hl', hf'⟩))
theorem sn_snoc (d : Dsk) (e : Ef) : sn { d with rows := d.rows ++ [e] } = doneF (sn d) e := seen_snoc _ _ _
theorem find_done (l : List Fl) (e : Ef) (q : ByteArray) (h : (findF (doneF l e) q).isSome = true) : (findF l q).isSome = true ∨ (e.1 = 1 ∧ q = e.2.1) ∨ (e.1 = 2 ∧ q = e.2.2) := by
  unfold doneF at h
  by_cases h1 : e.1 = 1
  · rw [if_pos h1, find_with] at h
    by_cases hq : q = e.2.1
    · exact .inr (.inl ⟨h1, hq⟩)
    · rw [if_neg hq] at h; exact .inl h
  · rw [if_neg h1] at h
    by_cases h2 : e.1 = 2
    · rw [if_pos h2] at h
      cases hf : findF l e.2.1 with
      | none => rw [hf] at h; exact .inl h
      | some t =>
        rw [hf] at h
        simp only [find_with, find_without] at h
        by_cases hq : q = e.2.2
        · exact .inr (.inr ⟨h2, hq⟩)
        · rw [if_neg hq] at h
          by_cases hp : q = e.2.1
          · rw [if_pos hp] at h; cases h
          · rw [if_neg hp] at h; exact .inl h
    · rw [if_neg h2, find_without] at h
      by_cases hp : q = e.2.1
      · rw [if_pos hp] at h; cases h
      · rw [if_neg hp] at h; exact .inl h
theorem calm_snoc {room : Int} {n m : Nat} {d : Dsk} (h : Calm room n m d) (e : Ef) (hb : badB e = false) : Calm room (n + 1) (m + wt e) { d with rows := d.rows ++ [e] } where
  up := h.up
  left := h.left
  room := h.room
  len := by have := h.len; simp only [List.length_append, List.length_singleton]; omega
  tak := by have := h.tak; simp only [wts_append, wts_one]; omega
  path := fun p hp => by
    rw [sn_snoc] at hp
    rcases find_done _ _ _ hp with h1 | ⟨h1, rfl⟩ | ⟨h1, rfl⟩
    · exact h.path p h1
    · simp [badB, h1, pathB] at hb; exact hb
    · simp [badB, h1, pathB] at hb; exact hb
  rise := h.rise
/-- an effect: what it answers, and what becomes of what is taken -/
theorem calm_eff {room : Int} {n m : Nat} {d : Dsk} (h : Calm room n m d) (e : Ef) :
    Calm room (n + 1) (m + wt e) (doF d e).1 ∧ ((doF d e).2 ≠ 0 → (doF d e).1 = d) ∧ ((doF d e).2 = 0 → (doF d e).1 = { d with rows := d.rows ++ [e] } ∧ badB e = false ∧ lackB (sn d) e = false ∧ fullB (sn d) room e = false) ∧ ((doF d e).2 = 7 → e.1 ≠ 3) := by
  rcases calm_do h e with ⟨e1, h1⟩ | ⟨e1, h1, h2⟩ | ⟨e1, h1, h2, h3⟩ | ⟨e1, h1, h2, h3⟩ <;> rw [e1]
  · exact ⟨h.mono (by omega) (by omega), fun _ => rfl, (fun h9 => by cases h9), (fun h9 => by cases h9)⟩
  · exact ⟨h.mono (by omega) (by omega), fun _ => rfl, (fun h9 => by cases h9), (fun h9 => by cases h9)⟩
  · exact ⟨h.mono (by omega) (by omega), fun _ => rfl, (fun h9 => by cases h9), (fun _ h9 => by simp [fullB, h9] at h3)⟩
  · exact ⟨calm_snoc h e h1, (fun h9 => absurd rfl h9), fun _ => ⟨rfl, h1, h2, h3⟩, (fun h9 => by cases h9)⟩
theorem calm_sync {room : Int} {n m : Nat} {d : Dsk} (h : Calm room n m d) : syncF d = ({ d with lies := sn d, rows := [] }, 0) := by
  unfold syncF
  rw [if_neg (by rw [h.up]; decide), callF_nought h.left, if_neg (show ¬ ((d, false) : Dsk × Bool).2 = true from Bool.false_ne_true)]
  rfl
theorem calm_synced {room : Int} {n m : Nat} {d : Dsk} (h : Calm room n m d) : Calm room n m (syncF d).1 ∧ sn (syncF d).1 = sn d := by
  rw [calm_sync h]
  have h1 := seenF_len d.rows d.lies
  have h2 := taken_seen d.rows h.rise
  have h3 : wts [] = 0 := rfl
  refine ⟨⟨h.up, h.left, h.room, ?_, ?_, h.path, rise_seen d.rows h.rise⟩, rfl⟩
  · have := h.len; simp only [List.length_nil, sn]; omega
  · have := h.tak; simp only [h3, sn]; omega
theorem wt_act (k : Int) (a : Ac) : wt (k, a.2.1, a.2.2.1) = a.2.1.size + a.2.2.1.size := rfl
theorem cost_small {a : Ac} (h : costF a ≤ 300) : a.2.1.size + a.2.2.1.size ≤ 15000 := by unfold costF at h; omega
theorem cost_mem {l : List Ac} {j : Nat} (hj : j < l.length) (h : sumF l ≤ 300) : costF (l.getD j default) ≤ 300 := by
  have h1 := sumF_succ hj
  have h2 := sumF_take l (j + 1)
  omega
theorem len_sum (l : List Ac) : l.length ≤ sumF l := by
  induction l with
  | nil => exact Nat.zero_le _
  | cons a l ih =>
    have h : sumF (a :: l) = costF a + sumF l := by simp [sumF]
    have h1 : 1 ≤ costF a := by unfold costF; omega
    simp only [List.length_cons]
    omega
theorem bnd_u64 {n : Int} (h : (Lit.int .u64 n).wf = true) : 0 ≤ n ∧ n ≤ 18446744073709551615 := by
  simp [Lit.wf, IntKind.min, IntKind.max, IntKind.signed, IntKind.bits] at h
  omega
theorem act_ok {l : List Ac} {j : Nat} (hj : j < l.length) (h : sumF l ≤ 300) (hz : ∀ a ∈ l, AcOk a) : ActOk (l.getD j default) ∧ (l.getD j default).2.1.size + (l.getD j default).2.2.1.size ≤ 15000 := by
  have hm : l.getD j default ∈ l := by rw [List.getD_eq_getElem?_getD, List.getElem?_eq_getElem hj]; simp
  have h1 := cost_small (cost_mem hj h)
  have h2 := (hz _ hm).keep
  have h3 := bnd_u64 h2
  exact ⟨⟨by omega, h3.1, by have := h3.2; omega⟩, h1⟩
/-- what is taken is no more than there is room -/
theorem room_eff {room : Int} {n m : Nat} {d : Dsk} (h : Calm room n m d) (ht : (takenF (sn d) : Int) ≤ room) (k : Int) (hk : k = 1 ∨ k = 2 ∨ k = 3) (p t : ByteArray) :
    (takenF (sn (doF d (k, p, t)).1) : Int) ≤ room ∧ (k = 3 → (doF d (k, p, t)).2 = 0 → takenF (sn (doF d (k, p, t)).1) < takenF (sn d)) := by
  have hc := calm_eff h (k, p, t)
  by_cases h0 : (doF d (k, p, t)).2 = 0
  · obtain ⟨e1, e2, e3, e4⟩ := hc.2.2.1 h0
    rw [e1, sn_snoc]
    by_cases h3 : k = 3
    · subst h3
      have e : doneF (sn d) (3, p, t) = withoutF (sn d) p := rfl
      have h5 := taken_without h.srise p
      rw [e]
      have h6 : 1 ≤ takes (sn d) p := by
        simp [lackB] at e3
        have h7 := h.path p e3
        cases hf : findF (sn d) p with
        | none => rw [hf] at e3; cases e3
        | some u => rw [takes_some hf]; omega
      exact ⟨by omega, fun _ _ => by omega⟩
    · refine ⟨?_, fun h9 => absurd h9 h3⟩
      simp only [fullB, ne_eq, h3, not_false_iff, decide_true, Bool.true_and, Bool.or_eq_false_iff, decide_eq_false_iff_not] at e4
      omega
  · rw [hc.2.1 h0]
    exact ⟨ht, fun _ h9 => absurd h9 h0⟩
theorem empty_taken {l : List Fl} (hp : ∀ p, (findF l p).isSome = true → 1 ≤ p.size) (h : takenF l = 0) : l = [] := by
  cases l with
  | nil => rfl
  | cons q l =>
    have h1 := hp q.1 (by simp [findF])
    have h2 : takenF (q :: l) = q.1.size + q.2.size + takenF l := by simp [takenF]
    omega
end Go.Proofs.Ytdgfbpkpfmdjjaa.Hk
