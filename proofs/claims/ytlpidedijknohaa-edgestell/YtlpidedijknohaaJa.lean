/-
  Layer 12 as Lean functions: an object's edges, an object with other names, texts each once and rising.
-/
import Derived.Test.YtlpidedijknohaaOa
import Derived.Lib.SlicesCompact
namespace Go.Proofs.Ytlpidedijknohaa.Eg
open Go.Proofs.Ytlpidedijknohaa Ob
set_option linter.unusedVariables false

abbrev Edg := ByteArray × Int
def entKind (m : Int) : Int := if m = 3 then 2 else 1
def edgesF (o : Thing) : List Edg :=
  if o.kind = 2 then o.ents.map fun e => (e.id, entKind e.mode)
  else if o.kind = 3 then (o.tree, 2) :: o.parents.map fun p => (p, 3)
  else if o.kind = 4 then [(o.target, o.ofk)] else []
def idsF (o : Thing) : List ByteArray := (edgesF o).map (·.1)
def reId (e : Ent) (s : ByteArray) : Ent := ⟨e.mode, e.name, s⟩
def withF (o : Thing) (l : List ByteArray) : Thing :=
  if o.kind = 2 then { o with ents := List.zipWith reId o.ents l }
  else if o.kind = 3 then { o with tree := l.getD 0 ByteArray.empty, parents := l.drop 1 }
  else if o.kind = 4 then { o with target := l.getD 0 ByteArray.empty } else o
theorem withF_kind (o : Thing) (l : List ByteArray) : (withF o l).kind = o.kind := by
  unfold withF
  repeat' split
  all_goals rfl
theorem ids_len (o : Thing) : (idsF o).length = (edgesF o).length := by simp [idsF]
theorem zip_self : ∀ l : List Ent, List.zipWith reId l (l.map (·.id)) = l
  | [] => rfl
  | e :: l => by rw [List.map_cons, List.zipWith_cons_cons, zip_self l]; rfl
theorem ids_tree {o : Thing} (h : o.kind = 2) : idsF o = o.ents.map (·.id) := by
  unfold idsF edgesF
  rw [if_pos h, List.map_map]; rfl
theorem ids_commit {o : Thing} (h : o.kind = 3) : idsF o = o.tree :: o.parents := by
  unfold idsF edgesF
  rw [if_neg (by omega), if_pos h, List.map_cons, List.map_map]
  exact congrArg _ (List.map_id _)
theorem ids_tag {o : Thing} (h : o.kind = 4) : idsF o = [o.target] := by
  unfold idsF edgesF
  rw [if_neg (by omega), if_neg (by omega), if_pos h]; rfl
theorem ids_none {o : Thing} (h : o.kind ≠ 2 ∧ o.kind ≠ 3 ∧ o.kind ≠ 4) : idsF o = [] := by
  unfold idsF edgesF
  rw [if_neg h.1, if_neg h.2.1, if_neg h.2.2]; rfl
theorem with_tree {o : Thing} (h : o.kind = 2) (l : List ByteArray) : withF o l = { o with ents := List.zipWith reId o.ents l } := by unfold withF; rw [if_pos h]
theorem with_commit {o : Thing} (h : o.kind = 3) (l : List ByteArray) : withF o l = { o with tree := l.getD 0 ByteArray.empty, parents := l.drop 1 } := by unfold withF; rw [if_neg (by omega), if_pos h]
theorem with_tag {o : Thing} (h : o.kind = 4) (l : List ByteArray) : withF o l = { o with target := l.getD 0 ByteArray.empty } := by unfold withF; rw [if_neg (by omega), if_neg (by omega), if_pos h]
theorem with_none {o : Thing} (h : o.kind ≠ 2 ∧ o.kind ≠ 3 ∧ o.kind ≠ 4) (l : List ByteArray) : withF o l = o := by unfold withF; rw [if_neg h.1, if_neg h.2.1, if_neg h.2.2]
/-- the kinds, and what is of none -/
theorem kinds (o : Thing) : o.kind = 2 ∨ o.kind = 3 ∨ o.kind = 4 ∨ (o.kind ≠ 2 ∧ o.kind ≠ 3 ∧ o.kind ≠ 4) := by omega
theorem with_ids (o : Thing) : withF o (idsF o) = o := by
  rcases kinds o with h | h | h | h
  · rw [with_tree h, ids_tree h, zip_self]
  · rw [with_commit h, ids_commit h]; rfl
  · rw [with_tag h, ids_tag h]; rfl
  · rw [with_none h]
theorem zip_ids : ∀ (es : List Ent) (l : List ByteArray), l.length = es.length → (List.zipWith reId es l).map (·.id) = l
  | [], [], _ => rfl
  | e :: es, s :: l, h => by rw [List.zipWith_cons_cons, List.map_cons, zip_ids es l (by simpa using h)]; rfl
theorem zip_zip : ∀ (es : List Ent) (l m : List ByteArray), l.length = es.length → List.zipWith reId (List.zipWith reId es l) m = List.zipWith reId es m
  | [], [], _, _ => by simp
  | e :: es, s :: l, [], h => by simp
  | e :: es, s :: l, t :: m, h => by
    rw [List.zipWith_cons_cons, List.zipWith_cons_cons, List.zipWith_cons_cons, zip_zip es l m (by simpa using h)]; rfl
theorem ids_with {o : Thing} {l : List ByteArray} (hl : l.length = (edgesF o).length) : idsF (withF o l) = l := by
  rw [← ids_len] at hl
  have hk := withF_kind o l
  rcases kinds o with h | h | h | h
  · rw [ids_tree (hk.trans h), with_tree h]
    exact zip_ids _ _ (by rw [ids_tree h] at hl; simpa using hl)
  · rw [ids_commit (hk.trans h), with_commit h]
    rw [ids_commit h] at hl
    cases l with
    | nil => simp at hl
    | cons a l => rfl
  · rw [ids_tag (hk.trans h), with_tag h]
    rw [ids_tag h] at hl
    match l, hl with
    | [a], _ => rfl
  · rw [ids_none (by rw [hk]; exact h)]
    rw [ids_none h] at hl
    exact (List.length_eq_zero_iff.1 hl).symm
theorem with_with {o : Thing} {l : List ByteArray} (m : List ByteArray) (hl : l.length = (edgesF o).length) : withF (withF o l) m = withF o m := by
  rw [← ids_len] at hl
  have hk := withF_kind o l
  rcases kinds o with h | h | h | h
  · rw [with_tree (hk.trans h), with_tree h, with_tree h]
    simp only []
    rw [zip_zip _ _ _ (by rw [ids_tree h] at hl; simpa using hl)]
  · rw [with_commit (hk.trans h), with_commit h, with_commit h]
  · rw [with_tag (hk.trans h), with_tag h, with_tag h]
  · rw [with_none (by rw [hk]; exact h), with_none h, with_none h]
/-- there and back -/
theorem with_back {o : Thing} {l : List ByteArray} (hl : l.length = (edgesF o).length) : withF (withF o l) (idsF o) = o := by rw [with_with _ hl, with_ids]
theorem zip_kinds : ∀ (es : List Ent) (l : List ByteArray), l.length = es.length → (List.zipWith reId es l).map (fun e => entKind e.mode) = es.map fun e => entKind e.mode
  | [], [], _ => rfl
  | e :: es, s :: l, h => by rw [List.zipWith_cons_cons, List.map_cons, zip_kinds es l (by simpa using h)]; rfl
theorem edges_len_with {o : Thing} {l : List ByteArray} (hl : l.length = (edgesF o).length) : (edgesF (withF o l)).length = (edgesF o).length := by
  rw [← ids_len, ids_with hl, hl]

/-! ### rising -/
def Rises (l : List ByteArray) : Prop := l.Pairwise fun a b => bl a < bl b
theorem lt_irr (a : List UInt8) : ¬ a < a := List.lt_irrefl a
theorem rises_eq : ∀ {l m : List ByteArray}, Rises l → Rises m → (∀ x, x ∈ l ↔ x ∈ m) → l = m
  | [], [], _, _, _ => rfl
  | [], b :: m, _, _, h => absurd ((h b).2 (by simp)) (by simp)
  | a :: l, [], _, _, h => absurd ((h a).1 (by simp)) (by simp)
  | a :: l, b :: m, hl, hm, h => by
    obtain ⟨h1, h2⟩ := List.pairwise_cons.1 hl
    obtain ⟨k1, k2⟩ := List.pairwise_cons.1 hm
    have e : a = b := by
      rcases List.mem_cons.1 ((h a).1 (by simp)) with e | ha
      · exact e
      · rcases List.mem_cons.1 ((h b).2 (by simp)) with e | hb
        · exact e.symm
        · exact absurd (List.lt_trans (h1 b hb) (k1 a ha)) (lt_irr _)
    subst e
    refine congrArg _ (rises_eq h2 k2 fun x => ?_)
    constructor
    · intro hx
      rcases List.mem_cons.1 ((h x).1 (List.mem_cons_of_mem _ hx)) with e | hx'
      · subst e; exact absurd (h1 x hx) (lt_irr _)
      · exact hx'
    · intro hx
      rcases List.mem_cons.1 ((h x).2 (List.mem_cons_of_mem _ hx)) with e | hx'
      · subst e; exact absurd (k1 x hx) (lt_irr _)
      · exact hx'
/-- in its place, if it isn't there -/
def insF (x : ByteArray) : List ByteArray → List ByteArray
  | [] => [x]
  | y :: l => if bl y < bl x then y :: insF x l else if y = x then y :: l else x :: y :: l
def riseF (l : List ByteArray) : List ByteArray := l.foldl (fun m x => insF x m) []
def namesF (o : Thing) : List ByteArray := riseF (idsF o)
theorem mem_ins (x z : ByteArray) : ∀ l, z ∈ insF x l ↔ z = x ∨ z ∈ l
  | [] => by simp [insF]
  | y :: l => by
    unfold insF
    split
    · rw [List.mem_cons, mem_ins x z l, List.mem_cons]
      constructor
      · rintro (h | h | h)
        · exact .inr (.inl h)
        · exact .inl h
        · exact .inr (.inr h)
      · rintro (h | h | h)
        · exact .inr (.inl h)
        · exact .inl h
        · exact .inr (.inr h)
    · split
      · rename_i e; subst e
        rw [List.mem_cons]
        constructor
        · exact .inr
        · rintro (h | h)
          · exact .inl h
          · exact h
      · rw [List.mem_cons]
theorem bl_tri {a b : ByteArray} (h1 : ¬ bl a < bl b) (h2 : ¬ a = b) : bl b < bl a := by
  have h3 : bl b ≤ bl a := List.not_lt.1 h1
  exact (List.le_iff_lt_or_eq.1 h3).resolve_right fun e => h2 (bl_inj e).symm
theorem ins_rises (x : ByteArray) : ∀ {l}, Rises l → Rises (insF x l)
  | [], _ => List.pairwise_singleton _ _
  | y :: l, h => by
    obtain ⟨h1, h2⟩ := List.pairwise_cons.1 h
    unfold insF
    split
    · rename_i hlt
      refine List.pairwise_cons.2 ⟨fun z hz => ?_, ins_rises x h2⟩
      rcases (mem_ins x z l).1 hz with rfl | hz
      · exact hlt
      · exact h1 z hz
    · rename_i hlt
      split
      · exact h
      · rename_i hne
        have hxy := bl_tri hlt hne
        refine List.pairwise_cons.2 ⟨fun z hz => ?_, h⟩
        rcases List.mem_cons.1 hz with rfl | hz
        · exact hxy
        · exact List.lt_trans hxy (h1 z hz)
theorem fold_ins : ∀ (l m : List ByteArray), Rises m → Rises (l.foldl (fun m x => insF x m) m) ∧ ∀ z, z ∈ l.foldl (fun m x => insF x m) m ↔ z ∈ l ∨ z ∈ m
  | [], m, h => ⟨h, fun z => by simp⟩
  | x :: l, m, h => by
    obtain ⟨h1, h2⟩ := fold_ins l (insF x m) (ins_rises x h)
    refine ⟨h1, fun z => ?_⟩
    rw [List.foldl_cons, h2, mem_ins, List.mem_cons]
    constructor
    · rintro (h | h | h)
      · exact .inl (.inr h)
      · exact .inl (.inl h)
      · exact .inr h
    · rintro ((h | h) | h)
      · exact .inr (.inl h)
      · exact .inl h
      · exact .inr (.inr h)
theorem rise_rises (l : List ByteArray) : Rises (riseF l) := (fold_ins l [] List.Pairwise.nil).1
theorem mem_rise (l : List ByteArray) (z : ByteArray) : z ∈ riseF l ↔ z ∈ l := by
  have := (fold_ins l [] List.Pairwise.nil).2 z
  unfold riseF
  simpa using this
theorem rise_take_succ {l : List ByteArray} {k : Nat} (h : k < l.length) : riseF (l.take (k + 1)) = insF (l.getD k ByteArray.empty) (riseF (l.take k)) := by
  unfold riseF
  rw [List.take_add_one, List.getElem?_eq_getElem h, List.foldl_append]
  simp [List.getD, List.getElem?_eq_getElem h]
theorem ins_len (x : ByteArray) : ∀ l, (insF x l).length ≤ l.length + 1
  | [] => by simp [insF]
  | y :: l => by
    have := ins_len x l
    unfold insF
    repeat' split
    all_goals simp <;> omega
theorem fold_len : ∀ (l m : List ByteArray), (l.foldl (fun m x => insF x m) m).length ≤ m.length + l.length
  | [], m => by simp
  | x :: l, m => by
    have := fold_len l (insF x m)
    have := ins_len x m
    simp at *
    omega
theorem rise_len (l : List ByteArray) : (riseF l).length ≤ l.length := by unfold riseF; simpa using fold_len l []
/-- the place of a text, as a search comes to it -/
theorem ins_at (x : ByteArray) : ∀ (l : List ByteArray) (k : Nat), k ≤ l.length → (∀ j, j < k → bl (l.getD j ByteArray.empty) < bl x) → (k < l.length → ¬ bl (l.getD k ByteArray.empty) < bl x) → insF x l = if k < l.length ∧ l.getD k ByteArray.empty = x then l else l.take k ++ x :: l.drop k
  | [], k, hk, _, _ => by
    obtain rfl : k = 0 := by simpa using hk
    simp [insF]
  | y :: l, 0, _, _, h => by
    have h0 : ¬ bl y < bl x := h (by simp)
    unfold insF
    rw [if_neg h0]
    by_cases e : y = x
    · rw [if_pos e, if_pos ⟨by simp, e⟩]
    · rw [if_neg e, if_neg (fun h => e h.2)]; rfl
  | y :: l, k + 1, hk, hb, h => by
    have h0 : bl y < bl x := hb 0 (by omega)
    have hi := ins_at x l k (by simpa using hk) (fun j hj => hb (j + 1) (by omega)) (fun hlt => h (by simpa using hlt))
    unfold insF
    rw [if_pos h0, hi]
    by_cases e : k < l.length ∧ l.getD k ByteArray.empty = x
    · rw [if_pos e, if_pos ⟨by simpa using e.1, e.2⟩]
    · rw [if_neg e, if_neg (fun h => e ⟨by simpa using h.1, h.2⟩)]; rfl

/-! ### the library's way: sorted, then each once -/
theorem compact_rise {d : Array (List UInt8)} (hs : ∀ i j, i < j → j < d.size → d[i]! ≤ d[j]!) : ∀ m, m ≤ d.size → (Lib.compactUpTo d m).Pairwise (· < ·) ∧ (∀ x, x ∈ Lib.compactUpTo d m ↔ ∃ j, j < m ∧ d[j]! = x)
  | 0, _ => ⟨by simp [Lib.compactUpTo], fun x => by simp [Lib.compactUpTo]⟩
  | m + 1, hm => by
    obtain ⟨h1, h2⟩ := compact_rise hs m (by omega)
    rw [Lib.compactUpTo_succ]
    by_cases h0 : m = 0
    · subst h0
      rw [if_pos (Lib.keeps_lt_one d 0 (by omega))]
      have e : Lib.compactUpTo d 0 = [] := by simp [Lib.compactUpTo]
      rw [e]
      refine ⟨List.pairwise_singleton _ _, fun x => ?_⟩
      simp only [List.nil_append, List.mem_singleton]
      exact ⟨fun h => ⟨0, by omega, h.symm⟩, fun ⟨j, hj, h⟩ => by obtain rfl : j = 0 := by omega
                                                                  exact h.symm⟩
    · by_cases hne : d[m]! = d[m - 1]!
      · rw [if_neg (by rw [Lib.keeps_neg (by omega) hne]; decide), List.append_nil]
        refine ⟨h1, fun x => ?_⟩
        rw [h2]
        exact ⟨fun ⟨j, hj, h⟩ => ⟨j, by omega, h⟩, fun ⟨j, hj, h⟩ => by
          by_cases e : j = m
          · subst e; exact ⟨j - 1, by omega, by rw [← hne]; exact h⟩
          · exact ⟨j, by omega, h⟩⟩
      · rw [if_pos (Lib.keeps_pos hne)]
        refine ⟨List.pairwise_append.2 ⟨h1, List.pairwise_singleton _ _, fun a ha b hb => ?_⟩, fun x => ?_⟩
        · obtain rfl := List.mem_singleton.1 hb
          obtain ⟨j, hj, rfl⟩ := (h2 a).1 ha
          have hlt : d[m - 1]! < d[m]! := (List.le_iff_lt_or_eq.1 (hs (m - 1) m (by omega) (by omega))).resolve_right fun e => hne e.symm
          by_cases e : j = m - 1
          · rw [e]; exact hlt
          · exact List.lt_of_le_of_lt (hs j (m - 1) (by omega) (by omega)) hlt
        · rw [List.mem_append, h2, List.mem_singleton]
          constructor
          · rintro (⟨j, hj, h⟩ | h)
            · exact ⟨j, by omega, h⟩
            · exact ⟨m, by omega, h.symm⟩
          · rintro ⟨j, hj, h⟩
            by_cases e : j = m
            · subst e; exact .inr h.symm
            · exact .inl ⟨j, by omega, h⟩
theorem sorted_compact {xs : List (List UInt8)} (h : xs.Pairwise (· ≤ ·)) : (Lib.compact xs).Pairwise (· < ·) ∧ ∀ x, x ∈ Lib.compact xs ↔ x ∈ xs := by
  have hs : ∀ i j, i < j → j < xs.toArray.size → xs.toArray[i]! ≤ xs.toArray[j]! := fun i j hij hj => by
    have hj' : j < xs.length := by simpa using hj
    have := List.pairwise_iff_getElem.1 h i j (by omega) hj' hij
    simpa [getElem!_pos, hj', show i < xs.length by omega] using this
  obtain ⟨h1, h2⟩ := compact_rise hs xs.length (by simp)
  refine ⟨h1, fun x => ?_⟩
  rw [Lib.compact, h2]
  constructor
  · rintro ⟨j, hj, rfl⟩
    simp [getElem!_pos, hj]
  · intro hx
    obtain ⟨j, hj, rfl⟩ := List.getElem_of_mem hx
    exact ⟨j, hj, by simp [getElem!_pos, hj]⟩
theorem sorted_names (l : List ByteArray) : (Lib.compact ((l.map bl).mergeSort fun x y => decide (x ≤ y))) = (riseF l).map bl := by
  have h1 : ((l.map bl).mergeSort (fun x y => decide (x ≤ y))).Pairwise (fun a b => decide (a ≤ b) = true) := List.pairwise_mergeSort (fun a b c h1 h2 => by
      simp only [decide_eq_true_eq] at *
      exact List.le_trans h1 h2) (fun a b => by
      simp only [Bool.or_eq_true, decide_eq_true_eq]
      exact List.le_total a b) _
  obtain ⟨h2, h3⟩ := sorted_compact (h1.imp fun {a b} h => by simpa using h)
  generalize Lib.compact ((l.map bl).mergeSort fun x y => decide (x ≤ y)) = c at *
  have h4 : ∀ x, x ∈ c ↔ ∃ s, s ∈ l ∧ bl s = x := fun x => by
    rw [h3, List.mem_mergeSort, List.mem_map]
  have e : c = (c.map str).map bl := by
    rw [List.map_map]
    conv => lhs; rw [← List.map_id c]
    refine List.map_congr_left fun x hx => ?_
    obtain ⟨s, _, rfl⟩ := (h4 x).1 hx
    simp [str_bl]
  rw [e]
  refine congrArg _ (rises_eq ?_ (rise_rises l) fun z => ?_)
  · rw [e, List.pairwise_map] at h2
    exact h2
  · rw [mem_rise, List.mem_map]
    constructor
    · rintro ⟨x, hx, rfl⟩
      obtain ⟨s, hs, rfl⟩ := (h4 x).1 hx
      rwa [str_bl]
    · intro hz
      exact ⟨bl z, (h4 _).2 ⟨z, hz, rfl⟩, str_bl z⟩
/-- behind the same words, in the same order -/
theorem bl_add (a b : ByteArray) : bl (a ++ b) = bl a ++ bl b := by
  simp [bl]
theorem lt_add (p : List UInt8) {a b : List UInt8} (h : a < b) : p ++ a < p ++ b := by
  induction p with
  | nil => exact h
  | cons c p ih => exact List.cons_lt_cons_iff.2 (.inr ⟨rfl, ih⟩)
theorem rise_add (s : ByteArray) (l : List ByteArray) : riseF (l.map (s ++ ·)) = (riseF l).map (s ++ ·) := by
  refine rises_eq (rise_rises _) ?_ fun z => ?_
  · unfold Rises
    rw [List.pairwise_map]
    exact (rise_rises l).imp fun {a b} h => by rw [bl_add, bl_add]; exact lt_add _ h
  · rw [mem_rise, List.mem_map, List.mem_map]
    exact exists_congr fun x => and_congr_left fun _ => (mem_rise l x).symm
end Go.Proofs.Ytlpidedijknohaa.Eg
