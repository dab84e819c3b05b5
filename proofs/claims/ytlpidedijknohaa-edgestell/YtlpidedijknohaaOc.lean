/-
  Layer 11 as Lean functions: what a content tells is read; one object, one content.
-/
import Derived.Test.YtlpidedijknohaaOa
namespace Go.Proofs.Ytlpidedijknohaa.Ob
open Go.Proofs.Ytlpidedijknohaa
set_option linter.unusedVariables false

def readTree (size : Nat) : Nat → List UInt8 → Nat → Option (List Ent)
  | 0, _, _ => none
  | f + 1, l, n => if l.length = 0 then some [] else
    match upto 32 l with
    | none => none
    | some (m, r) => match upto 0 r with
      | none => none
      | some (nm, q) => if q.length < size ∨ 512 < n then none else (readTree size f (q.drop size) (n + 1)).map (⟨modeOf m, str nm, str (q.take size)⟩ :: ·)
theorem ent_facts {size : Nat} {e : Ent} (h : entOk size e = true) : (1 ≤ e.mode ∧ e.mode ≤ 3) ∧ entryName (bl e.name) = true ∧ e.id.size = size := by
  simpa [entOk, and_assoc] using h
theorem name_facts {s : List UInt8} (h : entryName s = true) : 1 ≤ s.length ∧ s.length ≤ 64 ∧ (0 : UInt8) ∉ s := by
  simp only [entryName, Bool.and_eq_true, decide_eq_true_eq, Bool.not_eq_true', List.contains_eq_mem, decide_eq_false_iff_not] at h
  exact ⟨h.1.1.1.1.1, h.1.1.1.1.2, h.1.1.1.2⟩
theorem readTree_at (size : Nat) : ∀ (l : List Ent) (f n : Nat), (∀ e ∈ l, entOk size e = true) → l.length < f → n + l.length ≤ 513 → readTree size f (treeC l) n = some l
  | [], f + 1, n, _, _, _ => rfl
  | e :: l, f + 1, n, h, hf, hn => by
    obtain ⟨hm, hnm, hid⟩ := ent_facts (h e (by simp))
    have h0 := (name_facts hnm).2.2
    have hl := readTree_at size l f (n + 1) (fun x hx => h x (by simp [hx])) (by simpa using hf) (by simp at hn; omega)
    have hb := bl_length e.id
    have e1 : treeC (e :: l) = modeW e.mode ++ 32 :: (bl e.name ++ 0 :: (bl e.id ++ treeC l)) := by simp [treeC, entC]
    rw [e1, readTree, if_neg (by simp), upto_at _ (mode_plain hm).1]
    simp only [upto_at _ h0]
    rw [if_neg (by simp at hn; simp; omega)]
    rw [List.drop_append_of_le_length (by omega), List.drop_of_length_le (by omega), List.take_append_of_le_length (by omega), List.take_of_length_le (by omega), List.nil_append, hl, mode_back hm, str_bl, str_bl]
    rfl

def readPar : Nat → List UInt8 → Nat → Option (List ByteArray × List UInt8)
  | 0, _, _ => none
  | f + 1, l, n => match word wParent l with
    | none => some ([], l)
    | some (s, r) => if 8 < n then some ([], l) else match M.undig s with
      | none => none
      | some b => (readPar f r (n + 1)).map fun p => (str b :: p.1, p.2)
theorem digs_plain (l : List UInt8) : (10 : UInt8) ∉ M.digs l := by
  induction l with
  | nil => simp [M.digs]
  | cons c r ih =>
    have hc : c.toNat < 256 := c.toNat_lt
    simp only [M.digs, List.mem_cons, not_or]
    refine ⟨fun h => ?_, fun h => ?_, ih⟩
    · have := congrArg UInt8.toNat h; rw [M.hexc_toNat (by omega)] at this; split at this <;> simp at this <;> omega
    · have := congrArg UInt8.toNat h; rw [M.hexc_toNat (by omega)] at this; split at this <;> simp at this <;> omega
theorem wparent_plain : (10 : UInt8) ∉ wParent := by decide
theorem readPar_at : ∀ (l : List ByteArray) (q : List UInt8) (f n : Nat), word wParent q = none → l.length < f → n + l.length ≤ 9 → readPar f (parC l ++ q) n = some (l, q)
  | [], q, f + 1, n, hq, _, _ => by simp [parC, readPar, hq]
  | p :: l, q, f + 1, n, hq, hf, hn => by
    have hl := readPar_at l q f (n + 1) hq (by simpa using hf) (by simp at hn; omega)
    have e1 : parC (p :: l) ++ q = line wParent (M.digs (bl p)) ++ (parC l ++ q) := by simp [parC]
    rw [e1, readPar, word_at _ wparent_plain (digs_plain _)]
    simp only
    rw [if_neg (by simp at hn; omega), M.undig_digs]
    simp only [hl, Option.map_some, str_bl]

/-- the end of a commit or a tag: who, when, an empty line, any bytes -/
def readEnd (o : Thing) (w l : List UInt8) : Option Thing :=
  match word w l with
  | none => none
  | some (s, r) => match sign s with
    | none => none
    | some (who, t) => match r with
      | 10 :: tx => some { o with who := str who, time := t, text := str tx }
      | _ => none
theorem who_plain {who : ByteArray} (h : person (bl who) = true) : (10 : UInt8) ∉ bl who ∧ 1 ≤ who.size ∧ who.size ≤ 64 := by
  have hl := bl_length who
  simp only [person, Bool.and_eq_true, decide_eq_true_eq, Bool.not_eq_true', List.contains_eq_mem, decide_eq_false_iff_not] at h
  exact ⟨h.2, by omega, by omega⟩
theorem sign_plain {who : ByteArray} (h : person (bl who) = true) (t : Int) : (10 : UInt8) ∉ signC who t := by
  unfold signC
  intro hm
  rcases List.mem_append.1 hm with h1 | h1
  · exact (who_plain h).1 h1
  · rcases List.mem_cons.1 h1 with h2 | h2
    · exact absurd h2 (by decide)
    · have := dec_digit t.toNat 10 h2; simp at this
theorem readEnd_at (o : Thing) {w : List UInt8} (hw : (10 : UInt8) ∉ w) {who : ByteArray} {t : Int} (tx : ByteArray) (hp : person (bl who) = true) (h0 : 0 ≤ t) (h1 : t ≤ 2147483647) : readEnd o w (line w (signC who t) ++ 10 :: bl tx) = some { o with who := who, time := t, text := tx } := by
  rw [readEnd, word_at _ hw (sign_plain hp t)]
  simp only [sign_at who h0 h1, str_bl]

def read (k : Int) (l : List UInt8) (size : Nat) : Option Thing :=
  if k = 1 then some { zero with kind := 1, text := str l }
  else if k = 2 then (readTree size (l.length + 1) l 0).map fun es => { zero with kind := 2, ents := es }
  else if k = 3 then match word wTree l with
    | none => none
    | some (d, r) => match M.undig d with
      | none => none
      | some b => match readPar (r.length + 1) r 0 with
        | none => none
        | some (ps, q) => readEnd { zero with kind := k, tree := str b, parents := ps } wAuthor q
  else match word wObject l with
    | none => none
    | some (d, r) => match M.undig d with
      | none => none
      | some b => match word wType r with
        | none => none
        | some (ty, q) => match word wTag q with
          | none => none
          | some (nm, z) => readEnd { zero with kind := k, target := str b, ofk := Idf.kindF (str ty), name := str nm } wTagger z

theorem kind_word {k : Int} (h : 1 ≤ k ∧ k ≤ 4) : Idf.kindF (Idf.word k) = k ∧ (10 : UInt8) ∉ bl (Idf.word k) := by
  rcases Idf.kind_cases h with rfl | rfl | rfl | rfl <;> decide
theorem tag_plain {s : List UInt8} (h : tagName s = true) : (10 : UInt8) ∉ s ∧ 1 ≤ s.length ∧ s.length ≤ 64 := by
  simp only [tagName, Bool.and_eq_true, List.all_eq_true, decide_eq_true_eq] at h
  exact ⟨fun hm => absurd (h.1.1 10 hm) (by decide), h.1.2, h.2⟩
theorem author_none (s b : List UInt8) : word wParent (line wAuthor s ++ b) = none := by
  unfold word
  cases hu : upto 10 (line wAuthor s ++ b) with
  | none => rfl
  | some p =>
    obtain ⟨a, q⟩ := p
    have h1 := (upto_some hu).1
    have h2 : a ≠ [] := fun e => by subst e; simp [line, wAuthor] at h1
    simp only
    rw [if_neg]
    rintro ⟨-, h3⟩
    obtain ⟨x, y, rfl⟩ := List.exists_cons_of_ne_nil h2
    simp [line, wAuthor] at h1
    simp [wParent] at h3
    exact absurd (h1.1.trans h3.1) (by decide)
theorem ents_facts {size : Nat} : ∀ {l : List Ent} {p : Option Ent}, entsOk size l p = true → ∀ e ∈ l, entOk size e = true
  | [], _, _, e, he => by simp at he
  | x :: l, p, h, e, he => by
    simp only [entsOk, Bool.and_eq_true] at h
    rcases List.mem_cons.1 he with rfl | h1
    · exact h.1.1
    · exact ents_facts h.2 e h1
theorem treeC_length (l : List Ent) : l.length ≤ (treeC l).length := by
  induction l with
  | nil => simp
  | cons e l ih => simp [treeC, entC] at ih ⊢; omega
theorem parC_length (l : List ByteArray) (q : List UInt8) : l.length ≤ (parC l ++ q).length := by
  induction l with
  | nil => simp
  | cons e l ih => simp [parC, line] at ih ⊢; omega

theorem obj_ext {o p : Thing} (h1 : o.kind = p.kind) (h2 : o.text = p.text) (h3 : o.ents = p.ents) (h4 : o.tree = p.tree) (h5 : o.parents = p.parents) (h6 : o.target = p.target) (h7 : o.ofk = p.ofk) (h8 : o.name = p.name) (h9 : o.who = p.who) (h10 : o.time = p.time) : o = p := by
  cases o; cases p; simp_all
theorem read_content (o : Thing) (size : Nat) (h : shaped o size = true) : read o.kind (content o) size = some o := by
  unfold shaped at h
  by_cases k1 : o.kind = 1
  · rw [if_pos k1] at h
    simp only [bare, noCommit, noTag, Bool.and_eq_true, decide_eq_true_eq, List.length_eq_zero_iff] at h
    obtain ⟨⟨⟨⟨h1, h2⟩, h3, h4⟩, ⟨h5, h6⟩, h7⟩, h8⟩ := h
    rw [read, if_pos k1, content, if_pos k1]
    refine congrArg some (obj_ext k1.symm (str_bl _) h8.symm (bl_nil h3).symm h4.symm (bl_nil h5).symm h6.symm (bl_nil h7).symm (bl_nil h1).symm h2.symm)
  · rw [if_neg k1] at h
    by_cases k2 : o.kind = 2
    · rw [if_pos k2] at h
      simp only [bare, noCommit, noTag, Bool.and_eq_true, decide_eq_true_eq, List.length_eq_zero_iff] at h
      obtain ⟨⟨⟨⟨⟨⟨h1, h2⟩, h3, h4⟩, ⟨h5, h6⟩, h7⟩, h8⟩, h9⟩, h10⟩ := h
      rw [read, if_neg k1, if_pos k2, content, if_neg k1, if_pos k2, readTree_at size o.ents _ 0 (ents_facts h10) (by have := treeC_length o.ents; omega) (by omega)]
      refine congrArg some (obj_ext k2.symm (bl_nil h8).symm rfl (bl_nil h3).symm h4.symm (bl_nil h5).symm h6.symm (bl_nil h7).symm (bl_nil h1).symm h2.symm)
    · rw [if_neg k2] at h
      by_cases k3 : o.kind = 3
      · rw [if_pos k3] at h
        simp only [signed, noTag, Bool.and_eq_true, decide_eq_true_eq, List.length_eq_zero_iff] at h
        obtain ⟨⟨⟨⟨⟨⟨⟨⟨h1, h2⟩, h3⟩, ⟨h4, h5⟩, h6⟩, h7⟩, h8⟩, h9⟩, h10⟩, h11⟩ := h
        rw [read, if_neg k1, if_neg k2, if_pos k3, content, if_neg k1, if_neg k2, if_pos k3, commitC, List.append_assoc, List.append_assoc, word_at _ (by decide) (digs_plain _)]
        simp only [M.undig_digs]
        rw [readPar_at o.parents _ _ 0 (author_none _ _) (by have := parC_length o.parents (line wAuthor (signC o.who o.time) ++ 10 :: bl o.text); omega) (by omega)]
        simp only
        rw [readEnd_at _ (by decide) o.text h1 h2 h3, str_bl]
        refine congrArg some (obj_ext rfl rfl h7.symm rfl rfl (bl_nil h4).symm h5.symm (bl_nil h6).symm rfl rfl)
      · rw [if_neg k3] at h
        by_cases k4 : o.kind = 4
        · rw [if_pos k4] at h
          simp only [signed, noCommit, Bool.and_eq_true, decide_eq_true_eq, List.length_eq_zero_iff] at h
          obtain ⟨⟨⟨⟨⟨⟨⟨⟨⟨h1, h2⟩, h3⟩, h4, h5⟩, h6⟩, _⟩, h7⟩, h8⟩, h9⟩, h10⟩ := h
          obtain ⟨w1, w2⟩ := kind_word ⟨h8, h9⟩
          rw [read, if_neg k1, if_neg k2, if_neg k3, content, if_neg k1, if_neg k2, if_neg k3, if_pos k4, tagC, List.append_assoc, List.append_assoc, List.append_assoc, word_at _ (by decide) (digs_plain _)]
          simp only [M.undig_digs]
          rw [word_at _ (by decide) w2]
          simp only
          rw [word_at _ (by decide) (tag_plain h10).1]
          simp only
          rw [readEnd_at _ (by decide) o.text h1 h2 h3, str_bl, str_bl, str_bl, w1]
          refine congrArg some (obj_ext rfl rfl h6.symm (bl_nil h4).symm h5.symm rfl rfl rfl rfl rfl)
        · rw [if_neg k4] at h; simp at h
theorem read_kind {k : Int} {l : List UInt8} {size : Nat} {o : Thing} (h : read k l size = some o) : o.kind = k := by
  unfold read at h
  split at h
  · rename_i hk; simp only [Option.some.injEq] at h; subst h; exact hk.symm
  · split at h
    · rename_i hk
      obtain ⟨es, _, rfl⟩ := Option.map_eq_some_iff.1 h
      exact hk.symm
    · have he : ∀ (p : Thing) (w q : List UInt8), readEnd p w q = some o → o.kind = p.kind := by
        intro p w q hr
        unfold readEnd at hr
        repeat' split at hr
        all_goals first | (simp at hr; done) | (simp only [Option.some.injEq] at hr; subst hr; rfl)
      repeat' split at h
      all_goals first | (simp at h; done) | exact he _ _ _ h

/-- what Parse answers -/
def parseF (k : Int) (c : List UInt8) (sp : Int) : Thing × Int :=
  if ¬ (sp = 1 ∨ sp = 2) then (zero, 1) else if ¬ (1 ≤ k ∧ k ≤ 4) then (zero, 4) else if 65536 < c.length then (zero, 9)
  else match read k c (spSize sp) with
    | none => (zero, 3)
    | some o => if right o sp = true ∧ content o = c then (o, 0) else (zero, 3)
theorem right_parts {o : Thing} {sp : Int} (h : right o sp = true) : (sp = 1 ∨ sp = 2) ∧ shaped o (spSize sp) = true ∧ (content o).length ≤ 65536 := by
  simpa [right, and_assoc] using h
theorem shaped_kind {o : Thing} {size : Nat} (h : shaped o size = true) : 1 ≤ o.kind ∧ o.kind ≤ 4 := by
  unfold shaped at h
  repeat' split at h
  all_goals first | omega | simp at h
theorem parse_of {o : Thing} {sp : Int} (h : right o sp = true) : parseF o.kind (content o) sp = (o, 0) := by
  obtain ⟨h1, h2, h3⟩ := right_parts h
  unfold parseF
  rw [if_neg (not_not_intro h1), if_neg (not_not_intro (shaped_kind h2)), if_neg (by omega), read_content o _ h2]
  simp only
  rw [if_pos ⟨h, trivial⟩]
theorem parse_some {k : Int} {c : List UInt8} {sp : Int} {o : Thing} (h : parseF k c sp = (o, 0)) : o.kind = k ∧ right o sp = true ∧ content o = c := by
  unfold parseF at h
  repeat' split at h
  all_goals first | (simp at h; done) | skip
  rename_i o' hr hc
  simp only [Prod.mk.injEq, and_true] at h
  subst h
  exact ⟨read_kind hr, hc.1, hc.2⟩
/-- no such object: the error -/
theorem parse_none {k : Int} {c : List UInt8} {sp : Int} (hs : sp = 1 ∨ sp = 2) (hk : 1 ≤ k ∧ k ≤ 4) (hc : c.length ≤ 65536) (h : ∀ o, o.kind = k → right o sp = true → content o = c → False) : parseF k c sp = (zero, 3) := by
  unfold parseF
  rw [if_neg (not_not_intro hs), if_neg (not_not_intro hk), if_neg (by omega)]
  split
  · rfl
  · rename_i o hr
    exact if_neg fun h2 => h o (read_kind hr) h2.1 h2.2
/-- beside an error the answer is the zero object -/
theorem parse_zero {k : Int} {c : List UInt8} {sp : Int} (h : (parseF k c sp).2 ≠ 0) : (parseF k c sp).1 = zero := by
  unfold parseF at h ⊢
  repeat' split
  all_goals first | rfl | skip
  rename_i h1 h2 h3 _ o hr hc
  rw [if_neg h1, if_neg h2, if_neg h3, hr] at h
  simp only at h
  rw [if_pos hc] at h
  exact absurd rfl h
/-- one object, one content -/
theorem content_inj {o p : Thing} {sp : Int} (h1 : right o sp = true) (h2 : right p sp = true) (hk : o.kind = p.kind) (hc : content o = content p) : o = p := by
  have a := parse_of h1
  have b := parse_of h2
  rw [hk, hc, b] at a
  exact (congrArg Prod.fst a).symm
end Go.Proofs.Ytlpidedijknohaa.Ob
