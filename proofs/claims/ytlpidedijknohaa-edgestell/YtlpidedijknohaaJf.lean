/-
  Layer 12, the program's side: rows of the call's own that are written to; Clone; the state of Map.
-/
import Derived.Test.YtlpidedijknohaaJe
namespace Go.Proofs.Ytlpidedijknohaa.Hq
open Go.RowKit Ob Hr Hj Eg
set_option linter.unusedVariables false

section
variable {α : Type} [Inhabited α]
/-- a row in a block of its own, between two marks -/
def RowIn (k : Nat) (f : α → List Value) (W : World) (lo hi : Nat) (A : Option Addr) (l : List α) : Prop :=
  l = [] ∨ ∃ (g : Nat) (cur : Array Value) (t : TypeId), A = some ⟨g, 0, none⟩ ∧ lo ≤ g ∧ g < hi ∧ W.heap[g]? = some (.cells cur t (0, 0)) ∧ ∀ i j, i < l.length → j < k → cur[i * k + j]? = (f (l.getD i default))[j]?
variable {k : Nat} {f : α → List Value} {W W' : World} {lo hi : Nat} {A : Option Addr} {l : List α}
theorem RowIn.recs (h : RowIn k f W lo hi A l) : Recs k f W hi A l := fun i hi => by
  rcases h with rfl | ⟨g, cur, t, rfl, h1, h2, h3, h4⟩
  · cases hi
  · refine ⟨_, rfl, h2, fun j hj => ?_⟩
    rw [add_add, Hg.add0, Hg.cell_of_cells h3, h4 i j hi hj]
theorem RowIn.keep (h : RowIn k f W lo hi A l) (hk : ∀ g, lo ≤ g → g < hi → W'.heap[g]? = W.heap[g]?) : RowIn k f W' lo hi A l := by
  rcases h with h | ⟨g, cur, t, e, h1, h2, h3, h4⟩
  · exact .inl h
  · exact .inr ⟨g, cur, t, e, h1, h2, (hk g h1 h2).trans h3, h4⟩
theorem RowIn.wider (h : RowIn k f W lo hi A l) {lo' hi' : Nat} (h1 : lo' ≤ lo) (h2 : hi ≤ hi') : RowIn k f W lo' hi' A l := by
  rcases h with h | ⟨g, cur, t, e, h3, h4, h5⟩
  · exact .inl h
  · exact .inr ⟨g, cur, t, e, by omega, by omega, h5⟩
theorem rowIn_own {e : TypeId} {B n : Nat} {v : Value} (hk : ∀ a, (f a).length = k) (hp : 0 < k) (h : W.ownsRow B e k v n (l.flatMap f)) : ∃ A c, v = .slice A l.length c ∧ RowIn k f W B W.heap.size A l := by
  obtain ⟨A, c, rfl, hn, hr⟩ := recs_own hk hp h
  subst hn
  refine ⟨A, c, rfl, ?_⟩
  rcases h.2 with ⟨_, h0⟩ | ⟨g, cap, cur, e1, hb, hg, hle, hm, hsz, htk⟩
  · exact .inl (List.length_eq_zero_iff.1 h0)
  · injection e1 with e1 _ _
    subst e1
    have hlt := (Array.getElem?_eq_some_iff.1 hg).1
    refine .inr ⟨g, cur, e, rfl, hb, hlt, hg, fun i j hi hj => ?_⟩
    obtain ⟨ad, e2, _, hc⟩ := hr i hi
    injection e2 with e2
    subst e2
    have := hc j hj
    rw [add_add, Hg.add0, Hg.cell_of_cells hg] at this
    exact this
/-- one cell of it written -/
theorem RowIn.put {up : Nat} (hk : ∀ a, (f a).length = k) (h : RowIn k f W lo up A l) (i m : Nat) (hi : i < l.length) (hm : m < k) (x : α) (u : Value) (hx : ∀ j, j < k → (f x)[j]? = if j = m then some u else (f (l.getD i default))[j]?) :
    ∃ g, A = some ⟨g, 0, none⟩ ∧ lo ≤ g ∧ g < up ∧ (W.cell? ⟨g, i * k + m, none⟩ = (f (l.getD i default))[m]?) ∧ W.frozen? ⟨g, i * k + m, none⟩ = false ∧ RowIn k f (W.setCell ⟨g, i * k + m, none⟩ u) lo up A (l.set i x) := by
  rcases h with rfl | ⟨g, cur, t, e, h1, h2, h3, h4⟩
  · cases hi
  · have hsz : i * k + m < cur.size := by
      have h9 := h4 i m hi hm
      rcases Nat.lt_or_ge (i * k + m) cur.size with h | h
      · exact h
      · rw [Array.getElem?_eq_none h] at h9
        have h8 := List.getElem?_eq_none_iff.1 h9.symm
        rw [hk] at h8
        omega
    refine ⟨g, e, h1, h2, by rw [Hg.cell_of_cells h3, h4 i m hi hm], Hg.unfrozen_of_cells h3 _, .inr ⟨g, _, t, e, h1, h2, Hg.heap_setCell_cells h3 _ _, fun i' j hi' hj => ?_⟩⟩
    rw [List.length_set] at hi'
    have h4' := h4 i' j hi' hj
    rw [Array.getElem?_setIfInBounds]
    by_cases hii : i' = i
    · subst hii
      rw [show (l.set i' x).getD i' default = x by simp [List.getD, hi], hx j hj]
      by_cases hjm : j = m
      · subst hjm; simp [hsz]
      · rw [if_neg (by omega), if_neg hjm]; exact h4'
    · rw [show (l.set i x).getD i' default = l.getD i' default by simp [List.getD, Ne.symm hii]]
      rw [if_neg (fun he => ?_)]
      · exact h4'
      · rcases Nat.lt_or_ge i' i with h | h
        · have := Nat.mul_le_mul_right k (show i' + 1 ≤ i from h)
          rw [Nat.succ_mul] at this; omega
        · have := Nat.mul_le_mul_right k (show i + 1 ≤ i' by omega)
          rw [Nat.succ_mul] at this; omega
end

/-! ### slices.Clone -/
theorem ent_len : ∀ a : Ent, (entV a).length = 3 := fun _ => rfl
theorem ent_one : ∀ (a : Ent) (u : Value), u ∈ entV a → u.oneCell' = true := by
  intro a u hu
  simp [entV] at hu
  rcases hu with rfl | rfl | rfl <;> rfl
theorem ent_elem : ∃ i0, ElemOf 22 46 3 i0 (.agg #[.int .i64 0, .string ByteArray.empty, .string ByteArray.empty]) 40 := mkElem Try.underlying22 (by kernel_rfl) rfl (by decide) (by decide)
theorem nilE_none (w : World) (n c : Nat) : (binOp .eql 22 (.slice none n c) (.slice none 0 0)).run Try.prog w = .ok (.bool true) w := by kernel_rfl
theorem nilE_some (w : World) (a : Addr) (n c : Nat) : (binOp .eql 22 (.slice (some a) n c) (.slice none 0 0)).run Try.prog w = .ok (.bool false) w := by kernel_rfl
theorem nilS_none (w : World) (n c : Nat) : (binOp .eql 23 (.slice none n c) (.slice none 0 0)).run Try.prog w = .ok (.bool true) w := by kernel_rfl
theorem nilS_some (w : World) (a : Addr) (n c : Nat) : (binOp .eql 23 (.slice (some a) n c) (.slice none 0 0)).run Try.prog w = .ok (.bool false) w := by kernel_rfl
theorem own_empty (w : World) (e : TypeId) (k : Nat) : (w.alloc (.cells #[] e)).ownsRow w.heap.size e k (.slice (some ⟨w.heap.size, 0, none⟩) 0 0) 0 [] := ⟨by simp, .inr ⟨w.heap.size, 0, #[], rfl, Nat.le_refl _, heap_alloc_new w _, Nat.le_refl _, Nat.zero_le _, by simp, by simp⟩⟩

set_option maxHeartbeats 2000000 in
set_option maxRecDepth 100000 in
theorem cloneE_any (w : World) (B : Nat) (A : Option Addr) (c : Nat) (l : List Ent) (h : Ents w B A l) (hB : B ≤ w.heap.size) (hl : l.length ≤ 10000) :
    Calls Try.prog 28 #[.slice A l.length c] w fun e w' => (∃ A' c', e = .returned (.slice A' l.length c') ∧ RowIn 3 entV w' w.heap.size w'.heap.size A' l) ∧ Below w.heap.size w w' := by
  cases A with
  | none =>
    have h0 : l = [] := by
      cases l with
      | nil => rfl
      | cons y r => obtain ⟨ad, e, _⟩ := h 0 (by simp); cases e
    subst h0
    have hq := fun W => nilE_none W 0 c
    clear h
    go_enter Try.func28, Try.ntmps28
    go_wp2
    go_ret
    exact ⟨⟨none, 0, rfl, .inl rfl⟩, Below.refl _ _⟩
  | some a =>
    obtain ⟨i0, E⟩ := ent_elem
    have hq := fun W => nilE_some W a l.length c
    have hb2 : Below w.heap.size w (w.alloc (.cells #[] 46)) := (Below.refl _ w).alloc (Nat.le_refl _) _
    obtain ⟨v6, y5, hrun, ho7, hg8, _⟩ := app_recs E ent_len ent_one (w.alloc (.cells #[] 46)) w.heap.size (.slice (some ⟨w.heap.size, 0, none⟩) 0 0) [] l (some a) c _ 22 (own_empty w _ _) ((h.below (hb2.mono hB)).mono (Nat.le_trans hB hb2.size)) (by simp) (by omega) hb2.size
    have hb9 : Below w.heap.size w y5 := hb2.grown hg8 hb2.size (fun i hi => ((own_empty w 46 3).lt i hi).1)
    rw [List.nil_append] at ho7
    obtain ⟨A', c', rfl, hr⟩ := rowIn_own ent_len (by omega) ho7
    have HRUN := Lib.hid hrun
    have HX := Lib.hid (And.intro hr hb9)
    clear h hrun ho7 hg8 hb9 hr hb2 E
    go_enter Try.func28, Try.ntmps28
    go_wp2_with (at_builtin; refine wpList_append_run rfl (.tmp 5) (.tmp 6) 22 22 rfl _ _ _ y5 rfl rfl HRUN.out ?_)
    go_ret
    exact ⟨⟨A', c', rfl, HX.out.1⟩, HX.out.2⟩

set_option maxHeartbeats 2000000 in
set_option maxRecDepth 100000 in
theorem cloneS_any (w : World) (B : Nat) (A : Option Addr) (c : Nat) (l : List ByteArray) (h : Strs w B A l) (hB : B ≤ w.heap.size) (hl : l.length ≤ 10000) :
    Calls Try.prog 29 #[.slice A l.length c] w fun e w' => (∃ A' c', e = .returned (.slice A' l.length c') ∧ RowIn 1 stV w' w.heap.size w'.heap.size A' l) ∧ Below w.heap.size w w' := by
  cases A with
  | none =>
    have h0 : l = [] := by
      cases l with
      | nil => rfl
      | cons y r => obtain ⟨ad, e, _⟩ := h 0 (by simp); cases e
    subst h0
    have hq := fun W => nilS_none W 0 c
    clear h
    go_enter Try.func29, Try.ntmps29
    go_wp2
    go_ret
    exact ⟨⟨none, 0, rfl, .inl rfl⟩, Below.refl _ _⟩
  | some a =>
    obtain ⟨i0, E⟩ := st_elem
    have hq := fun W => nilS_some W a l.length c
    have h := recs_of_strs h
    have hb2 : Below w.heap.size w (w.alloc (.cells #[] 9)) := (Below.refl _ w).alloc (Nat.le_refl _) _
    obtain ⟨v6, y5, hrun, ho7, hg8, _⟩ := app_recs E stV_len stV_one (w.alloc (.cells #[] 9)) w.heap.size (.slice (some ⟨w.heap.size, 0, none⟩) 0 0) [] l (some a) c _ 23 (own_empty w _ _) ((h.below (hb2.mono hB)).mono (Nat.le_trans hB hb2.size)) (by simp) (by omega) hb2.size
    have hb9 : Below w.heap.size w y5 := hb2.grown hg8 hb2.size (fun i hi => ((own_empty w 9 1).lt i hi).1)
    rw [List.nil_append] at ho7
    obtain ⟨A', c', rfl, hr⟩ := rowIn_own stV_len (by omega) ho7
    have HRUN := Lib.hid hrun
    have HX := Lib.hid (And.intro hr hb9)
    clear h hrun ho7 hg8 hb9 hr hb2 E
    go_enter Try.func29, Try.ntmps29
    go_wp2_with (at_builtin; refine wpList_append_run rfl (.tmp 5) (.tmp 6) 23 23 rfl _ _ _ y5 rfl rfl HRUN.out ?_)
    go_ret
    exact ⟨⟨A', c', rfl, HX.out.1⟩, HX.out.2⟩
end Go.Proofs.Ytlpidedijknohaa.Hq
