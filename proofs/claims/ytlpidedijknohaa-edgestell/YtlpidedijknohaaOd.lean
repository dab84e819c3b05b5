/-
  Layer 11 as Lean functions: what the laws say of objects: spaces, texts, entries.
-/
import Derived.Test.YtlpidedijknohaaOc
namespace Go.Proofs.Ytlpidedijknohaa.Ob
open Go.Proofs.Ytlpidedijknohaa
set_option linter.unusedVariables false

theorem print_ok {o : Thing} {sp : Int} (h : right o sp = true) : printF o sp = (str (content o), 0) := by
  obtain ⟨h1, h2, h3⟩ := right_parts h
  unfold printF
  rw [if_neg (not_not_intro h1), if_neg (not_not_intro (shaped_kind h2)), if_neg (by rw [h2]; decide), if_neg (by omega)]
theorem print_not {o : Thing} {sp : Int} (h : right o sp = false) : (printF o sp).1 = ⟨#[]⟩ ∧ (printF o sp).2 ≠ 0 := by
  unfold printF
  split
  · exact ⟨rfl, by decide⟩
  · rename_i h1
    split
    · exact ⟨rfl, by decide⟩
    · rename_i h2
      split
      · exact ⟨rfl, by decide⟩
      · rename_i h3
        split
        · exact ⟨rfl, by decide⟩
        · rename_i h4
          have h1' := Decidable.not_not.1 h1
          simp [right, h1', h4, Bool.not_eq_false] at h h3
          rw [h3] at h
          simp at h
theorem print_zero {o : Thing} {sp : Int} (h : (printF o sp).2 = 0) : right o sp = true := by
  cases hr : right o sp with
  | true => rfl
  | false => exact absurd h (print_not hr).2
theorem print_err {o : Thing} {sp : Int} : (printF o sp).2 = 0 ∨ 0 < (printF o sp).2 ∧ (printF o sp).2 ≤ 9 := by
  unfold printF
  repeat' split
  all_goals simp
theorem print_size {o : Thing} {sp : Int} : (printF o sp).1.size ≤ 65536 := by
  unfold printF
  split
  · exact Nat.zero_le _
  · split
    · exact Nat.zero_le _
    · split
      · exact Nat.zero_le _
      · split
        · exact Nat.zero_le _
        · simp only [str_size]; omega

/-- right in one space at most -/
theorem right_both {o : Thing} (h1 : right o 1 = true) (h2 : right o 2 = true) : o.kind = 1 ∨ o.kind = 2 ∧ o.ents.length = 0 := by
  have a := (right_parts h1).2.1
  have b := (right_parts h2).2.1
  have ha : spSize 1 = 20 := rfl
  have hb : spSize 2 = 32 := rfl
  rw [ha] at a
  rw [hb] at b
  by_cases k1 : o.kind = 1
  · exact .inl k1
  · by_cases k2 : o.kind = 2
    · refine .inr ⟨k2, ?_⟩
      unfold shaped at a b
      rw [if_neg k1, if_pos k2] at a b
      simp only [Bool.and_eq_true] at a b
      cases he : o.ents with
      | nil => rfl
      | cons e l =>
        have x := (ent_facts (ents_facts a.2 e (by rw [he]; simp))).2.2
        have y := (ent_facts (ents_facts b.2 e (by rw [he]; simp))).2.2
        omega
    · exfalso
      unfold shaped at a b
      rw [if_neg k1, if_neg k2] at a b
      by_cases k3 : o.kind = 3
      · rw [if_pos k3] at a b
        simp only [Bool.and_eq_true, decide_eq_true_eq] at a b
        have := a.1.1.1.2
        have := b.1.1.1.2
        omega
      · rw [if_neg k3] at a b
        by_cases k4 : o.kind = 4
        · rw [if_pos k4] at a b
          simp only [Bool.and_eq_true, decide_eq_true_eq] at a b
          have := a.1.1.1.2
          have := b.1.1.1.2
          omega
        · rw [if_neg k4] at a; simp at a
theorem right_space {o : Thing} {sp : Int} (h : sp ≠ 1) (h2 : sp ≠ 2) : right o sp = false := by
  unfold right
  rw [decide_eq_false (by omega), Bool.false_and, Bool.false_and]

/-! ### texts -/
def textless (o : Thing) : Thing := { o with text := ⟨#[]⟩ }
def withText (o : Thing) (t : ByteArray) : Thing := { o with text := t }
theorem content_text (o : Thing) (t : ByteArray) (h : 1 ≤ o.kind ∧ o.kind ≤ 4) (h2 : o.kind ≠ 2) : content (withText o t) = content (textless o) ++ bl t := by
  have he : bl ⟨#[]⟩ = [] := rfl
  rcases (by omega : o.kind = 1 ∨ o.kind = 3 ∨ o.kind = 4) with k | k | k
  · simp [content, withText, textless, k, he]
  · simp [content, withText, textless, k, he, commitC]
  · simp [content, withText, textless, k, he, tagC]
theorem shaped_text {o : Thing} {size : Nat} (t : ByteArray) (h : shaped o size = true) (h2 : o.kind ≠ 2) : shaped (withText o t) size = true := by
  unfold shaped at h ⊢
  by_cases k1 : o.kind = 1
  · rw [if_pos k1] at h
    rw [if_pos (show (withText o t).kind = 1 from k1)]
    exact h
  · rw [if_neg k1, if_neg h2] at h
    rw [if_neg (show ¬ (withText o t).kind = 1 from k1), if_neg (show ¬ (withText o t).kind = 2 from h2)]
    by_cases k3 : o.kind = 3
    · rw [if_pos k3] at h
      rw [if_pos (show (withText o t).kind = 3 from k3)]
      exact h
    · rw [if_neg k3] at h
      rw [if_neg (show ¬ (withText o t).kind = 3 from k3)]
      by_cases k4 : o.kind = 4
      · rw [if_pos k4] at h
        rw [if_pos (show (withText o t).kind = 4 from k4)]
        simp only [Bool.and_eq_true, decide_eq_true_eq] at h ⊢
        exact ⟨⟨⟨⟨⟨h.1.1.1.1.1, trivial⟩, h.1.1.1.2⟩, h.1.1.2⟩, h.1.2⟩, h.2⟩
      · rw [if_neg k4] at h; simp at h
theorem line_length (w s : List UInt8) : (line w s).length = w.length + s.length + 2 := by simp [line]; omega
theorem sign_length {who : ByteArray} {t : Int} (hp : person (bl who) = true) (h1 : t ≤ 2147483647) : (signC who t).length ≤ 75 := by
  have h := Idf.dec_len t.toNat 9 (by omega)
  have h2 := who_plain hp
  have h3 := bl_length who
  simp [signC]; omega
theorem par_length {size : Nat} : ∀ {l : List ByteArray}, l.all (fun p => decide (p.size = size)) = true → (parC l).length = l.length * (8 + 2 * size)
  | [], _ => by simp [parC]
  | p :: l, h => by
    simp only [List.all_cons, Bool.and_eq_true, decide_eq_true_eq] at h
    have ih := par_length h.2
    have hb := bl_length p
    have e : parC (p :: l) = line wParent (M.digs (bl p)) ++ parC l := by simp [parC]
    have hm : (l.length + 1) * (8 + 2 * size) = l.length * (8 + 2 * size) + (8 + 2 * size) := Nat.succ_mul _ _
    rw [e, List.length_append, ih, line_length, M.digs_length, List.length_cons, hm, show wParent.length = 6 from rfl, hb, h.1]
    omega
theorem word_length (k : Int) : (bl (Idf.word k)).length ≤ 6 := by rw [bl_length]; exact Idf.word_size k
theorem head_length {o : Thing} {size : Nat} (h : shaped o size = true) (h2 : o.kind ≠ 2) (hs : size ≤ 32) : (content (textless o)).length ≤ 2000 := by
  unfold shaped at h
  by_cases k1 : o.kind = 1
  · simp [content, textless, k1, show bl ⟨#[]⟩ = [] from rfl]
  · rw [if_neg k1, if_neg h2] at h
    by_cases k3 : o.kind = 3
    · rw [if_pos k3] at h
      simp only [signed, Bool.and_eq_true, decide_eq_true_eq] at h
      obtain ⟨⟨⟨⟨⟨⟨⟨⟨h1, h2'⟩, h3⟩, _⟩, h7⟩, h8⟩, h9⟩, h10⟩, h11⟩ := h
      have a := sign_length h1 h3
      have b := par_length h10
      have c := bl_length o.tree
      have d : o.parents.length * (8 + 2 * size) ≤ 8 * 72 := Nat.mul_le_mul h9 (by omega)
      have e : (content (textless o)).length = (line wTree (M.digs (bl o.tree))).length + (parC o.parents).length + (line wAuthor (signC o.who o.time)).length + 1 := by
        simp [content, textless, k3, commitC, show bl ⟨#[]⟩ = [] from rfl]; omega
      rw [e, line_length, line_length, M.digs_length, show wTree.length = 4 from rfl, show wAuthor.length = 6 from rfl]
      omega
    · rw [if_neg k3] at h
      by_cases k4 : o.kind = 4
      · rw [if_pos k4] at h
        simp only [signed, Bool.and_eq_true, decide_eq_true_eq] at h
        obtain ⟨⟨⟨⟨⟨⟨⟨⟨⟨h1, h2'⟩, h3⟩, _⟩, h6⟩, _⟩, h7⟩, h8⟩, h9⟩, h10⟩ := h
        have a := sign_length h1 h3
        have c := bl_length o.target
        have d := word_length o.ofk
        have f := (tag_plain h10).2.2
        have e : (content (textless o)).length = (line wObject (M.digs (bl o.target))).length + (line wType (bl (Idf.word o.ofk))).length + (line wTag (bl o.name)).length + (line wTagger (signC o.who o.time)).length + 1 := by
          simp [content, textless, k4, tagC, show bl ⟨#[]⟩ = [] from rfl]; omega
        rw [e, line_length, line_length, line_length, line_length, M.digs_length, show wObject.length = 6 from rfl, show wType.length = 4 from rfl, show wTag.length = 3 from rfl, show wTagger.length = 6 from rfl]
        omega
      · rw [if_neg k4] at h; simp at h
theorem spSize_le (sp : Int) : spSize sp ≤ 32 := by unfold spSize; split <;> omega
theorem right_text {o : Thing} {sp : Int} (h : right o sp = true) (h2 : o.kind ≠ 2) (t : ByteArray) (ht : t.size ≤ 60000) : right (withText o t) sp = true ∧ content (withText o t) = content (textless o) ++ bl t := by
  obtain ⟨a, b, c⟩ := right_parts h
  have hc := content_text o t (shaped_kind b) h2
  have hh := head_length b h2 (spSize_le sp)
  have hb := bl_length t
  refine ⟨?_, hc⟩
  unfold right
  rw [shaped_text t b h2, decide_eq_true a, hc, decide_eq_true (by rw [List.length_append]; omega)]
  rfl

/-! ### entries -/
theorem ents_iff {size : Nat} : ∀ {l : List Ent} {p : Option Ent}, entsOk size l p = true ↔ (∀ e ∈ l, entOk size e = true) ∧ rising l ∧ ∀ q ∈ p, ∀ e ∈ l, bl q.name < bl e.name
  | [], p => by simp [entsOk, rising]
  | x :: l, p => by
    have ih := ents_iff (size := size) (l := l) (p := some x)
    simp only [entsOk, Bool.and_eq_true, ih]
    constructor
    · rintro ⟨⟨h1, h2⟩, h3, h4, h5⟩
      have h5' : ∀ e ∈ l, bl x.name < bl e.name := fun e he => h5 x rfl e he
      refine ⟨fun e he => ?_, List.pairwise_cons.2 ⟨h5', h4⟩, fun q hq e he => ?_⟩
      · rcases List.mem_cons.1 he with rfl | he
        · exact h1
        · exact h3 e he
      · obtain rfl := Option.mem_def.1 hq
        have h2' : bl q.name < bl x.name := by simpa using h2
        rcases List.mem_cons.1 he with rfl | he
        · exact h2'
        · exact List.lt_trans h2' (h5' e he)
    · rintro ⟨h1, h2, h3⟩
      obtain ⟨h4, h5⟩ := List.pairwise_cons.1 h2
      refine ⟨⟨h1 x (by simp), ?_⟩, fun e he => h1 e (by simp [he]), h5, fun q hq e he => ?_⟩
      · cases p with
        | none => rfl
        | some q => simpa using h3 q rfl x (by simp)
      · simp only [Option.mem_def, Option.some.injEq] at hq
        subst hq
        exact h4 e he
/-- an entry put in its place -/
def putIn (x : Ent) : List Ent → List Ent
  | [] => [x]
  | e :: l => if bl x.name < bl e.name then x :: e :: l else e :: putIn x l
theorem putIn_perm (x : Ent) : ∀ l : List Ent, ∀ e, e ∈ putIn x l ↔ e = x ∨ e ∈ l
  | [], e => by simp [putIn]
  | y :: l, e => by
    unfold putIn
    split
    · simp
    · simp only [List.mem_cons, putIn_perm x l e]
      constructor
      · rintro (h | h | h) <;> simp [h]
      · rintro (h | h | h) <;> simp [h]
theorem putIn_rising {x : Ent} : ∀ {l : List Ent}, rising l → (∀ e ∈ l, bl e.name ≠ bl x.name) → rising (putIn x l)
  | [], _, _ => by simp [putIn, rising]
  | y :: l, h, hn => by
    obtain ⟨h1, h2⟩ := List.pairwise_cons.1 h
    unfold putIn
    split
    · rename_i hx
      refine List.pairwise_cons.2 ⟨fun e he => ?_, h⟩
      rcases List.mem_cons.1 he with rfl | he
      · exact hx
      · exact List.lt_trans hx (h1 e he)
    · rename_i hx
      refine List.pairwise_cons.2 ⟨fun e he => ?_, putIn_rising h2 (fun e he => hn e (by simp [he]))⟩
      rcases (putIn_perm x l e).1 he with rfl | he
      · have hne := hn y (by simp)
        exact Decidable.byContradiction fun hc => hne (List.le_antisymm hx hc)
      · exact h1 e he
theorem putIn_back {x : Ent} : ∀ {l : List Ent}, rising (putIn x l) → rising l
  | [], _ => by simp [rising]
  | y :: l, h => by
    unfold putIn at h
    split at h
    · exact (List.pairwise_cons.1 h).2
    · obtain ⟨h1, h2⟩ := List.pairwise_cons.1 h
      exact List.pairwise_cons.2 ⟨fun e he => h1 e ((putIn_perm x l e).2 (.inr he)), putIn_back h2⟩
theorem putIn_length (x : Ent) : ∀ l : List Ent, (putIn x l).length = l.length + 1
  | [] => rfl
  | y :: l => by
    unfold putIn
    split
    · rfl
    · simp [putIn_length x l]
theorem putIn_treeC (x : Ent) : ∀ l : List Ent, (treeC (putIn x l)).length = (treeC l).length + (entC x).length
  | [] => by simp [putIn, treeC]
  | y :: l => by
    unfold putIn
    split
    · simp [treeC]; omega
    · have := putIn_treeC x l
      simp [treeC] at this ⊢; omega
/-- the loop's state: what was put ahead of a place, and whether the new one is there -/
theorem putIn_step (x e : Ent) : ∀ l : List Ent, (∀ y ∈ l, ¬ bl x.name < bl y.name) → putIn x (l ++ [e]) = if bl x.name < bl e.name then l ++ [x, e] else l ++ [e, x]
  | [], _ => by unfold putIn; rfl
  | y :: l, h => by
    have ih := putIn_step x e l (fun z hz => h z (by simp [hz]))
    rw [List.cons_append, putIn, if_neg (h y (by simp)), ih]
    split <;> rfl
theorem putIn_end (x : Ent) : ∀ l : List Ent, (∀ y ∈ l, ¬ bl x.name < bl y.name) → putIn x l = l ++ [x]
  | [], _ => rfl
  | y :: l, h => by rw [putIn, if_neg (h y (by simp)), putIn_end x l (fun z hz => h z (by simp [hz]))]; rfl
theorem putIn_more (x e : Ent) : ∀ l : List Ent, (∃ y ∈ l, bl x.name < bl y.name) → putIn x (l ++ [e]) = putIn x l ++ [e]
  | [], h => by obtain ⟨y, hy, _⟩ := h; simp at hy
  | y :: l, h => by
    rw [List.cons_append]
    unfold putIn
    split
    · rfl
    · rename_i hx
      rw [putIn_more x e l (by obtain ⟨z, hz, h2⟩ := h; rcases List.mem_cons.1 hz with rfl | hz; · exact absurd h2 hx
                               · exact ⟨z, hz, h2⟩)]
      rfl
def withEnts (o : Thing) (l : List Ent) : Thing := { o with ents := l }
theorem shaped_tree {o : Thing} {size : Nat} (hk : o.kind = 2) : shaped o size = true ↔ (bare o && noCommit o && noTag o && decide (o.text.size = 0)) = true ∧ o.ents.length ≤ 512 ∧ entsOk size o.ents none = true := by
  unfold shaped
  rw [if_neg (by omega), if_pos hk]
  simp only [Bool.and_eq_true, decide_eq_true_eq, and_assoc]
theorem right_tree {o : Thing} {sp : Int} (hk : o.kind = 2) (h : right o sp = true) (l : List Ent) (hl : l.length ≤ 512) (hc : (treeC l).length ≤ 65536) : right (withEnts o l) sp = entsOk (spSize sp) l none := by
  obtain ⟨a, b, c⟩ := right_parts h
  obtain ⟨b1, b2, b3⟩ := (shaped_tree hk).1 b
  have e : content (withEnts o l) = treeC l := by simp [content, withEnts, hk]
  unfold right
  rw [decide_eq_true a, e, decide_eq_true hc, Bool.true_and, Bool.and_true, Bool.eq_iff_iff, shaped_tree (o := withEnts o l) hk]
  exact ⟨fun h => h.2.2, fun h => ⟨b1, hl, h⟩⟩
theorem entC_length (e : Ent) : (entC e).length ≤ 8 + e.name.size + e.id.size := by
  have h : (modeW e.mode).length ≤ 6 := by unfold modeW; repeat' split
                                           all_goals decide
  have := bl_length e.name
  have := bl_length e.id
  simp [entC]; omega
/-- with one more: right just if that one is -/
theorem right_more {o : Thing} {sp : Int} (hk : o.kind = 2) (h : right o sp = true) (x : Ent) (hn : ∀ e ∈ o.ents, bl e.name ≠ bl x.name) (hl : o.ents.length ≤ 400) (hc : (treeC o.ents).length ≤ 40000) (hx : x.name.size ≤ 200 ∧ x.id.size ≤ 200) :
    right (withEnts o (putIn x o.ents)) sp = entOk (spSize sp) x := by
  obtain ⟨a, b, c⟩ := right_parts h
  obtain ⟨b1, b2, b3⟩ := (shaped_tree hk).1 b
  have hxl := entC_length x
  rw [right_tree hk h _ (by rw [putIn_length]; omega) (by rw [putIn_treeC]; omega), Bool.eq_iff_iff, ents_iff]
  obtain ⟨r1, r2, _⟩ := ents_iff.1 b3
  constructor
  · intro h9
    exact h9.1 x ((putIn_perm x _ x).2 (.inl rfl))
  · intro h9
    refine ⟨fun e he => ?_, putIn_rising r2 hn, fun q hq => by cases hq⟩
    rcases (putIn_perm x _ e).1 he with rfl | he
    · exact h9
    · exact r1 e he
theorem treeC_sub {l r : List Ent} (h : l.Sublist r) : (treeC l).length ≤ (treeC r).length := by
  induction h with
  | slnil => simp [treeC]
  | cons a h ih => simp [treeC] at ih ⊢; omega
  | cons_cons a h ih => simp [treeC] at ih ⊢; omega
/-- without one -/
theorem right_less {o : Thing} {sp : Int} (hk : o.kind = 2) (h : right o sp = true) {l : List Ent} (hl : l.Sublist o.ents) : right (withEnts o l) sp = true := by
  obtain ⟨a, b, c⟩ := right_parts h
  obtain ⟨b1, b2, b3⟩ := (shaped_tree hk).1 b
  have hc : (treeC o.ents).length ≤ 65536 := by simpa [content, hk] using c
  rw [right_tree hk h l (Nat.le_trans hl.length_le b2) (Nat.le_trans (treeC_sub hl) hc)]
  obtain ⟨r1, r2, _⟩ := ents_iff.1 b3
  exact ents_iff.2 ⟨fun e he => r1 e (hl.subset he), r2.sublist hl, fun q hq => by cases hq⟩
theorem treeC_le : ∀ l : List Ent, (treeC l).length ≤ l.length * 8 + (l.map fun e => e.name.size + e.id.size).sum
  | [] => by simp [treeC]
  | e :: l => by
    have ih := treeC_le l
    have h := entC_length e
    have e1 : treeC (e :: l) = entC e ++ treeC l := by simp [treeC]
    rw [e1, List.length_append, List.length_cons, List.map_cons, List.sum_cons]
    omega

/-! ### the same -/
def entSame (a b : Ent) : Bool := decide (a.mode = b.mode) && decide (a.name = b.name) && decide (a.id = b.id)
theorem entSame_iff {a b : Ent} : entSame a b = true ↔ a = b := by
  cases a; cases b; simp [entSame, and_assoc]
def entsSame (l r : List Ent) : Bool := decide (l.length = r.length) && (List.range l.length).all fun i => entSame (l.getD i ⟨0, ⟨#[]⟩, ⟨#[]⟩⟩) (r.getD i ⟨0, ⟨#[]⟩, ⟨#[]⟩⟩)
theorem entsSame_iff {l r : List Ent} : entsSame l r = true ↔ l = r := by
  simp only [entsSame, Bool.and_eq_true, decide_eq_true_eq, List.all_eq_true, List.mem_range, entSame_iff]
  constructor
  · rintro ⟨h1, h2⟩
    apply List.ext_getElem h1
    intro i hi hj
    have := h2 i hi
    simpa [List.getD, List.getElem?_eq_getElem hi, List.getElem?_eq_getElem hj] using this
  · rintro rfl; exact ⟨rfl, fun _ _ => rfl⟩
def same (o p : Thing) : Bool := decide (o.kind = p.kind) && decide (o.text = p.text) && entsSame o.ents p.ents && decide (o.tree = p.tree) && decide (o.parents = p.parents) && decide (o.target = p.target) && decide (o.ofk = p.ofk) && decide (o.name = p.name) && decide (o.who = p.who) && decide (o.time = p.time)
theorem same_iff {o p : Thing} : same o p = true ↔ o = p := by
  simp only [same, Bool.and_eq_true, decide_eq_true_eq, entsSame_iff]
  constructor
  · rintro ⟨⟨⟨⟨⟨⟨⟨⟨⟨h1, h2⟩, h3⟩, h4⟩, h5⟩, h6⟩, h7⟩, h8⟩, h9⟩, h10⟩
    exact obj_ext h1 h2 h3 h4 h5 h6 h7 h8 h9 h10
  · rintro rfl; simp
end Go.Proofs.Ytlpidedijknohaa.Ob
