/-
  The program's disk against the document's (layer 7).
-/
import Derived.Test.YtdgfbpkpfmdjjaaKl
import Derived.Test.YtdgfbpkpfmdjjaaVh
namespace Go.Proofs.Ytdgfbpkpfmdjjaa.Hk
open Go.RowKit Hr Hw Ht
set_option linter.unusedVariables false

def rawOf (d : Dsk) (k : Int) : Raw := ⟨d.room, d.lies, seenF d.lies d.rows, takenF (seenF d.lies d.rows), d.rows.take 64, d.rows.length, d.left, k, d.down⟩
/-- in block b lies the program's disk that is as d says -/
def DiskAt (w : World) (b : Nat) (d : Dsk) (F : List Nat) : Prop := ∃ k, RawAt w b (rawOf d k) F ∧ (d.left ≠ 0 → k = d.keep) ∧ 0 ≤ k ∧ k < 18446744073709551616
/-- small enough -/
structure Fit (d : Dsk) : Prop where
  len : d.lies.length + d.rows.length ≤ 1900
  tak : takenF d.lies + wts d.rows ≤ 500000000
  l0 : 0 ≤ d.left
  l1 : d.left ≤ 9223372036854775807
section
variable {w w' : World} {b : Nat} {d : Dsk} {F : List Nat}
theorem DiskAt.lies (h : DiskAt w b d F) : Lies F w := by obtain ⟨k, h, _⟩ := h; exact h.lies
theorem DiskAt.same (h : DiskAt w b d F) (hs : Same F w w') : DiskAt w' b d F := by obtain ⟨k, h, r⟩ := h; exact ⟨k, h.same hs, r⟩
theorem DiskAt.below (h : DiskAt w b d F) (hb : Below w.heap.size w w') : DiskAt w' b d F := h.same (same_of_below hb h.lies)
theorem DiskAt.rise (h : DiskAt w b d F) : Rise d.lies := by
  obtain ⟨k, h, _⟩ := h
  obtain ⟨ml, ms, A, c, hi, _⟩ := h.is
  exact hi.2.1.rise
end
theorem disk_part (b : Nat) (d : Dsk) : Part (fun F w => DiskAt w b d F) := ⟨fun h => h.lies, fun h hs => h.same hs⟩

/-! ### plain facts -/
theorem wts_append (a b : List Ef) : wts (a ++ b) = wts a + wts b := by simp [wts]
theorem wts_one (e : Ef) : wts [e] = wt e := by simp [wts]
theorem wts_mem {rs : List Ef} {e : Ef} (h : e ∈ rs) : wt e ≤ wts rs := by
  induction rs with
  | nil => cases h
  | cons x rs ih =>
    have h1 : wts (x :: rs) = wt x + wts rs := by simp [wts]
    rcases List.mem_cons.1 h with rfl | h
    · omega
    · have := ih h; omega
theorem keepF_rise {l : List Fl} (h : Rise l) (rs : List Ef) (keep : Int) : ∀ n, Rise (keepF l rs keep n)
  | 0 => h
  | n + 1 => by
    unfold keepF
    split
    · exact rise_done (keepF_rise h rs keep n) _
    · exact keepF_rise h rs keep n
theorem keepF_taken {l : List Fl} (h : Rise l) (rs : List Ef) (keep : Int) : ∀ n, n ≤ rs.length → takenF (keepF l rs keep n) ≤ takenF l + wts (rs.take n)
  | 0, _ => by simp [keepF, wts]
  | n + 1, hn => by
    have ih := keepF_taken h rs keep n (by omega)
    have e : wts (rs.take (n + 1)) = wts (rs.take n) + wt (rs.getD n default) := by
      rw [List.take_add_one, List.getElem?_eq_getElem (by omega), wts_append]
      simp only [Option.toList_some, wts_one, List.getD, List.getElem?_eq_getElem (show n < rs.length by omega), Option.getD_some]
    unfold keepF
    split
    · have := taken_done (keepF_rise h rs keep n) (rs.getD n default); omega
    · omega
theorem keepF_take (l : List Fl) (rs : List Ef) (keep : Int) (m : Nat) : ∀ n, n ≤ m → keepF l (rs.take m) keep n = keepF l rs keep n
  | 0, _ => rfl
  | n + 1, hn => by
    have e : (rs.take m).getD n default = rs.getD n default := by
      simp only [List.getD, List.getElem?_take]
      rw [if_pos (by omega)]
    unfold keepF
    rw [e, keepF_take l rs keep m n (by omega)]
theorem wts_take (rs : List Ef) (n : Nat) : wts (rs.take n) ≤ wts rs := by
  have h := wts_append (rs.take n) (rs.drop n)
  rw [List.take_append_drop] at h
  omega
theorem seen_snoc (l : List Fl) (rs : List Ef) (e : Ef) : seenF l (rs ++ [e]) = doneF (seenF l rs) e := by simp [seenF]
theorem take_snoc (rs : List Ef) (e : Ef) : (if (rs.take 64).length < 64 then rs.take 64 ++ [e] else rs.take 64) = (rs ++ [e]).take 64 := by
  by_cases h : rs.length < 64
  · rw [if_pos (by rw [List.length_take]; omega), List.take_of_length_le (by omega), List.take_of_length_le (by simp; omega)]
  · rw [if_neg (by rw [List.length_take]; omega), List.take_append_of_le_length (by omega)]
theorem wait_raw (d : Dsk) (k : Int) (e : Ef) (tk : Int) (h : tk = takenF (doneF (seenF d.lies d.rows) e)) : waitS (rawOf d k) e tk = rawOf { d with rows := d.rows ++ [e] } k := by
  unfold waitS rawOf
  simp only [seen_snoc, take_snoc, h, Raw.mk.injEq, true_and, and_true]
  simp
theorem fitR_of {d : Dsk} {k : Int} (hr : Rise d.lies) (hl : d.lies.length + d.rows.length ≤ 2000) (ht : takenF d.lies + wts d.rows ≤ 1000000000) (h0 : 0 ≤ d.left) (h1 : d.left ≤ 9223372036854775807) (hk0 : 0 ≤ k) (hk1 : k < 18446744073709551616) : FitR (rawOf d k) where
  len := by simp only [rawOf, List.length_take]; omega
  few := by simp only [rawOf, List.length_take]; omega
  k0 := hk0
  k1 := hk1
  l0 := h0
  l1 := h1
  tak := by
    simp only [rawOf]
    have := keepF_taken hr (d.rows.take 64) k (d.rows.take 64).length (Nat.le_refl _)
    rw [List.take_length] at this
    have := wts_take d.rows 64
    omega
  eok := fun e he => by
    have h1 : e ∈ d.rows := List.mem_of_mem_take he
    have h2 := wts_mem h1
    unfold wt at h2
    constructor <;> (unfold maxLen; omega)
theorem cutR_one {s : Raw} (h : s.left = 1) : cutR s = (failR { s with left := 0 }, 8) := if_pos h
theorem cutR_more {s : Raw} (h : ¬ s.left = 1) : cutR s = ({ s with left := if s.left = 0 then 0 else s.left - 1 }, 0) := if_neg h
theorem callF_nought {d : Dsk} (h : d.left = 0) : callF d = (d, false) := if_pos h
theorem callF_more {d : Dsk} (h : 1 < d.left) : callF d = ({ d with left := d.left - 1 }, false) := by unfold callF; rw [if_neg (by omega), if_pos h]
theorem callF_one {d : Dsk} (h : d.left = 1) : callF d = ({ d with lies := keepF d.lies d.rows d.keep (min d.rows.length 64), rows := [], down := true, left := 0 }, true) := by unfold callF; rw [if_neg (by omega), if_neg (by omega)]
/-- the power fails, or not -/
theorem cut_rel {d : Dsk} {k : Int} (hk : d.left ≠ 0 → k = d.keep) (hk0 : 0 ≤ k) (hk1 : k < 18446744073709551616) (h0 : 0 ≤ d.left) :
    ∃ k', cutR (rawOf d k) = (rawOf (callF d).1 k', if (callF d).2 = true then 8 else 0) ∧ ((callF d).1.left ≠ 0 → k' = (callF d).1.keep) ∧ 0 ≤ k' ∧ k' < 18446744073709551616 := by
  by_cases h1 : d.left = 0
  · refine ⟨k, ?_, ?_, hk0, hk1⟩
    · rw [callF_nought h1, cutR_more (s := rawOf d k) (by show ¬ d.left = 1; omega)]
      have e9 : (if (rawOf d k).left = 0 then 0 else (rawOf d k).left - 1) = d.left := by rw [if_pos (show (rawOf d k).left = 0 from h1), h1]
      rw [e9]; rfl
    · rw [callF_nought h1]; exact hk
  · by_cases h2 : 1 < d.left
    · refine ⟨k, ?_, ?_, hk0, hk1⟩
      · rw [callF_more h2, cutR_more (s := rawOf d k) (by show ¬ d.left = 1; omega)]
        have e9 : (if (rawOf d k).left = 0 then 0 else (rawOf d k).left - 1) = d.left - 1 := if_neg h1
        rw [e9]; rfl
      · rw [callF_more h2]; exact fun _ => hk h1
    · have h3 : d.left = 1 := by omega
      refine ⟨0, ?_, ?_, by omega, by omega⟩
      · rw [callF_one h3, cutR_one (s := rawOf d k) h3]
        have e : (d.rows.take 64).length = min d.rows.length 64 := by rw [List.length_take]; omega
        have e10 : keepF d.lies (d.rows.take 64) k (d.rows.take 64).length = keepF d.lies d.rows d.keep (min d.rows.length 64) := by rw [e, keepF_take d.lies d.rows k 64 _ (Nat.min_le_right _ _), hk h1]
        show ((⟨d.room, keepF d.lies (d.rows.take 64) k (d.rows.take 64).length, keepF d.lies (d.rows.take 64) k (d.rows.take 64).length, takenF (keepF d.lies (d.rows.take 64) k (d.rows.take 64).length), [], 0, 0, 0, true⟩ : Raw), (8 : Int)) = _
        rw [e10]; rfl
      · rw [callF_one h3]; exact fun h => absurd rfl h
theorem lie_eq (l : List Fl) (rs : List Ef) : (if (rs.length : Int) = (rs.take 64).length then seenF l (rs.take 64) else seenF l rs) = seenF l rs := by
  by_cases hn : rs.length ≤ 64
  · rw [List.take_of_length_le hn]; simp
  · rw [if_neg]
    rw [List.length_take]
    omega
theorem sync_rel {d : Dsk} {k : Int} (hk : d.left ≠ 0 → k = d.keep) (hk0 : 0 ≤ k) (hk1 : k < 18446744073709551616) (h0 : 0 ≤ d.left) :
    ∃ k', syncR (rawOf d k) = (rawOf (syncF d).1 k', (syncF d).2) ∧ ((syncF d).1.left ≠ 0 → k' = (syncF d).1.keep) ∧ 0 ≤ k' ∧ k' < 18446744073709551616 := by
  unfold syncF
  by_cases hd : d.down = true
  · rw [if_pos hd]
    refine ⟨k, ?_, hk, hk0, hk1⟩
    unfold syncR
    rw [if_pos (show (rawOf d k).down = true from hd)]
  · rw [if_neg hd]
    obtain ⟨k', h1, h2, h3, h4⟩ := cut_rel hk hk0 hk1 h0
    by_cases hl : d.left = 1
    · have hc : (callF d).2 = true := by unfold callF; rw [if_neg (by omega), if_neg (by omega)]
      rw [if_pos hc]
      refine ⟨k', ?_, h2, h3, h4⟩
      rw [if_pos hc] at h1
      unfold syncR
      rw [if_neg (show ¬ (rawOf d k).down = true from hd), if_pos (show (rawOf d k).left = 1 from hl)]
      unfold cutR at h1
      rw [if_pos (show (rawOf d k).left = 1 from hl)] at h1
      exact h1
    · have hc : ¬ (callF d).2 = true := by
        unfold callF
        split
        · simp
        · split
          · simp
          · omega
      rw [if_neg hc]
      refine ⟨k', ?_, h2, h3, h4⟩
      rw [if_neg hc] at h1
      unfold syncR
      rw [if_neg (show ¬ (rawOf d k).down = true from hd), if_neg (show ¬ (rawOf d k).left = 1 from hl)]
      unfold cutR at h1
      rw [if_neg (show ¬ (rawOf d k).left = 1 from hl)] at h1
      have h9 := congrArg Prod.fst h1
      have e1 : d.room = (callF d).1.room := congrArg Raw.room h9
      have e7 : (if d.left = 0 then 0 else d.left - 1) = (callF d).1.left := congrArg Raw.left h9
      have e8 : k = k' := congrArg Raw.keep h9
      have e9 : d.down = (callF d).1.down := congrArg Raw.down h9
      have e10 := lie_eq d.lies d.rows
      show ((⟨d.room, if (d.rows.length : Int) = (d.rows.take 64).length then seenF d.lies (d.rows.take 64) else seenF d.lies d.rows, seenF d.lies d.rows, takenF (seenF d.lies d.rows), [], 0, if d.left = 0 then 0 else d.left - 1, k, d.down⟩ : Raw), (0 : Int)) = _
      rw [e10, e1, e7, e8, e9]
      rfl
theorem without_twice (l : List Fl) (p : ByteArray) : withoutF (withoutF l p) p = withoutF l p := without_none fun x hx => by simpa using (List.mem_filter.1 hx).2
theorem tk_write {l : List Fl} (h : Rise l) (p t : ByteArray) : (takenF l : Int) - takes l p + p.size + t.size = takenF (doneF l (1, p, t)) := by
  have h1 := taken_without h p
  have e : doneF l (1, p, t) = withF l (p, t) := rfl
  rw [e, taken_with]
  simp only
  omega
theorem tk_remove {l : List Fl} (h : Rise l) (p x : ByteArray) : (takenF l : Int) - takes l p = takenF (doneF l (3, p, x)) := by
  have h1 := taken_without h p
  have e : doneF l (3, p, x) = withoutF l p := rfl
  rw [e]
  omega
theorem tk_rename {l : List Fl} (h : Rise l) (p t u : ByteArray) (hf : findF l p = some u) : (takenF l : Int) + (if p = t then 0 else (t.size : Int) - p.size - takes l t) = takenF (doneF l (2, p, t)) := by
  have h1 := taken_without h p
  have e : doneF l (2, p, t) = withF (withoutF l p) (t, u) := by simp [doneF, hf]
  rw [e, taken_with]
  rw [takes_some hf] at h1
  simp only
  by_cases hp : p = t
  · subst hp
    rw [without_twice, if_pos rfl]
    omega
  · rw [if_neg hp]
    have h2 := taken_without (rise_without h p) t
    have h3 : takes (withoutF l p) t = takes l t := by unfold takes; rw [find_without, if_neg (fun e => hp e.symm)]
    omega
end Go.Proofs.Ytdgfbpkpfmdjjaa.Hk
