/-
  What holds of the document's walk as a whole (layer 6): for WorkReaches and WorkOnce.
-/
import Derived.Test.YtmfejibllhccaaaWf
namespace Go.Proofs.Ytmfejibllhccaaa.Hw
set_option linter.unusedVariables false

section
variable (es : List (Int × Int)) (first : List Int)
theorem uni {es : List (Int × Int)} {first : List Int} : ∀ k x, x ∈ nexts es k → x ∈ first ++ es.map (·.2) := fun k x hx => List.mem_append_right _ (nexts_mem hx)
theorem miss_le : miss (first ++ es.map (·.2)) [] ≤ first.length + es.length := by
  unfold miss
  refine Nat.le_trans (List.length_filter_le _ _) ?_
  simp
theorem wf_len (most : Int) (bs : List Int) : (walkF most es bs first).1.length ≤ first.length + es.length := by
  have h := (keeps_all (U := first ++ es.map (·.2)) (c := comeF most es bs (miss (first ++ es.map (·.2)) [] + 1)) (fun o x hx => keeps_come uni _ o x hx) first [] (fun x hx => List.mem_append_left _ hx)).2
  have hm := miss_le es first
  unfold walkF
  simp only [List.length_nil] at h
  omega
theorem wf_true {most : Int} (h : (first.length + es.length : Nat) ≤ most) : (walkF most es [] first).2 = true := by
  unfold walkF
  refine true_all (U := first ++ es.map (·.2)) (N := first.length + es.length) (fun o x hx => keeps_come uni _ o x hx) (fun o x hx hb => true_come uni h _ o x hx hb) first [] (fun x hx => List.mem_append_left _ hx) ?_
  have hm := miss_le es first
  simp only [List.length_nil]
  omega
theorem wf_all {most : Int} {bs : List Int} (h : (walkF most es bs first).2 = true) : (∀ x, x ∈ first → x ∈ (walkF most es bs first).1) ∧ Cl es [] (walkF most es bs first).1 :=
  closed_all (U := first ++ es.map (·.2)) (n := miss (first ++ es.map (·.2)) []) (fun o x hx => keeps_come uni _ o x hx) (fun o x hx hm ht => closed_come uni _ o x hx hm ht) first [] (fun x hx => List.mem_append_left _ hx) (Nat.le_refl _) h
theorem wf_nodup (most : Int) (bs : List Int) : (walkF most es bs first).1.Nodup := nodup_all (fun o x h => nodup_come _ o x h) first [] (by simp)
theorem wf_told (most : Int) (bs : List Int) : Told es (· ∈ first) [] (walkF most es bs first).1 := told_all (fun o x => told_come _ o x) first []
theorem wf_room {most m' : Int} {bs : List Int} (h : (walkF most es bs first).2 = true) (hl : ((walkF most es bs first).1.length : Int) ≤ m') : walkF m' es bs first = walkF most es bs first :=
  room_all (es := es) (fun o x => told_come _ o x) (fun o x h1 h2 => room_come _ o x h1 h2) first [] h hl
end
theorem mem_nexts {es : List (Int × Int)} {k x : Int} : x ∈ nexts es k ↔ (k, x) ∈ es := by
  unfold nexts
  constructor
  · intro h
    obtain ⟨⟨a, b⟩, hq, rfl⟩ := List.mem_map.1 h
    obtain ⟨h1, h2⟩ := List.mem_filter.1 hq
    have : a = k := by simpa using h2
    subst this
    exact h1
  · intro h
    exact List.mem_map.2 ⟨(k, x), List.mem_filter.2 ⟨h, by simp⟩, rfl⟩
theorem getD_mem {l : List Int} {i : Nat} (h : i < l.length) : l.getD i 0 ∈ l := by simp [List.getD, List.getElem?_eq_getElem h]
theorem getD_prs {l : List (Int × Int)} {i : Nat} (h : i < l.length) : l.getD i (0, 0) ∈ l := by simp [List.getD, List.getElem?_eq_getElem h]
theorem getD_take {l : List Int} {i j : Nat} (h : j < i) (hl : j < l.length) : l.getD j 0 ∈ l.take i := by
  rw [List.mem_take_iff_getElem]
  exact ⟨j, by omega, by simp [List.getD, List.getElem?_eq_getElem hl]⟩
theorem nodup_take {l : List Int} {i : Nat} (hn : l.Nodup) (h : i < l.length) : l.getD i 0 ∉ l.take i := fun hm => by
  obtain ⟨j, hj, e⟩ := List.mem_take_iff_getElem.1 hm
  have h2 : l[j] = l[i] := by rw [e]; simp [List.getD, List.getElem?_eq_getElem h]
  exact List.pairwise_iff_getElem.1 hn j i (by omega) h (by omega) h2
/-- what WorkReaches reckons of place i, with the first k edges -/
def toldB (first l : List Int) (es : List (Int × Int)) (i k : Nat) : Bool := decide (l.getD i 0 ∈ first) || (es.take k).any fun q => decide (q.2 = l.getD i 0) && decide (q.1 ∈ l.take i)
theorem toldB_zero (first l : List Int) (es : List (Int × Int)) (i : Nat) : toldB first l es i 0 = decide (l.getD i 0 ∈ first) := by simp [toldB]
theorem toldB_succ (first l : List Int) (es : List (Int × Int)) (i k : Nat) (hk : k < es.length) : toldB first l es i (k + 1) = (toldB first l es i k || (decide ((es.getD k (0, 0)).2 = l.getD i 0) && decide ((es.getD k (0, 0)).1 ∈ l.take i))) := by
  unfold toldB
  rw [List.take_add_one, List.getElem?_eq_getElem hk, List.any_append, Bool.or_assoc]
  simp only [Option.toList_some, List.any_cons, List.any_nil, Bool.or_false, List.getD, List.getElem?_eq_getElem hk, Option.getD_some]
  rfl
theorem toldB_all {first l : List Int} {es : List (Int × Int)} {i : Nat} (ht : Told es (· ∈ first) [] l) (hi : i < l.length) : toldB first l es i es.length = true := by
  unfold toldB
  rw [List.take_length]
  rcases ht.2 i (Nat.zero_le _) hi with h | ⟨j, hj, h⟩
  · rw [decide_eq_true h]; rfl
  · rw [Bool.or_eq_true]
    right
    rw [List.any_eq_true]
    refine ⟨_, mem_nexts.1 h, ?_⟩
    rw [Bool.and_eq_true]
    exact ⟨decide_eq_true rfl, decide_eq_true (getD_take hj (by omega : j < l.length))⟩
/-- walked again from what it came to -/
theorem again_sub {l m : List Int} {es : List (Int × Int)} (hc : Cl es [] l) (ht : Told es (· ∈ l) [] m) : ∀ i, i < m.length → m.getD i 0 ∈ l := by
  intro i
  induction i using Nat.strongRecOn with
  | _ i ih =>
    intro hi
    rcases ht.2 i (Nat.zero_le _) hi with h | ⟨j, hj, h⟩
    · exact h
    · exact hc _ (ih j hj (by omega)) (by simp) _ h
theorem sub_len : ∀ {a b : List Int}, a.Nodup → (∀ x, x ∈ a → x ∈ b) → a.length ≤ b.length
  | [], _, _, _ => Nat.zero_le _
  | x :: a, b, hn, h => by
    have hx : x ∈ b := h x (by simp)
    have hn' := List.nodup_cons.1 hn
    have h2 : a.length ≤ (b.erase x).length := sub_len hn'.2 (fun y hy => by
      have hne : y ≠ x := fun e => hn'.1 (e ▸ hy)
      exact (List.mem_erase_of_ne hne).2 (h y (by simp [hy])))
    rw [List.length_erase_of_mem hx] at h2
    have := List.length_pos_of_mem hx
    simp
    omega
theorem again_len {l m : List Int} (hl : l.Nodup) (hm : m.Nodup) (h1 : ∀ i, i < m.length → m.getD i 0 ∈ l) (h2 : ∀ x, x ∈ l → x ∈ m) : m.length = l.length := by
  refine Nat.le_antisymm (sub_len hm fun x hx => ?_) (sub_len hl h2)
  obtain ⟨i, hi, e⟩ := List.mem_iff_getElem.1 hx
  have := h1 i hi
  simpa [List.getD, List.getElem?_eq_getElem hi, e] using this
theorem take_nodup {m : List Int} {i : Nat} (hn : m.Nodup) (h : i < m.length) : m.take (i + 1) = m.take i ++ [m.getD i 0] := by
  rw [List.take_add_one, List.getElem?_eq_getElem h]
  simp [List.getD, List.getElem?_eq_getElem h]
end Go.Proofs.Ytmfejibllhccaaa.Hw
