/-
  Layer 11 as Lean functions: objects, when they are right, their contents; reading a content.
-/
import Derived.Test.YtlpidedijknohaaP
import Derived.Test.YtlpidedijknohaaIa
namespace Go.Proofs.Ytlpidedijknohaa.Ob
open Go.Proofs.Ytlpidedijknohaa
set_option linter.unusedVariables false

structure Ent where
  mode : Int
  name : ByteArray
  id : ByteArray
structure Thing where
  kind : Int
  text : ByteArray
  ents : List Ent
  tree : ByteArray
  parents : List ByteArray
  target : ByteArray
  ofk : Int
  name : ByteArray
  who : ByteArray
  time : Int
def zero : Thing := ⟨0, ⟨#[]⟩, [], ⟨#[]⟩, [], ⟨#[]⟩, 0, ⟨#[]⟩, ⟨#[]⟩, 0⟩

theorem bl_inj {a b : ByteArray} (h : bl a = bl b) : a = b := by rw [← str_bl a, h, str_bl]
theorem bl_nil {a : ByteArray} (h : a.size = 0) : a = ⟨#[]⟩ := bl_inj (by have := bl_length a; rw [h] at this; exact (List.length_eq_zero_iff.1 this).trans rfl)

/-- names of persons, entries, tags -/
def person (s : List UInt8) : Bool := decide (1 ≤ s.length) && decide (s.length ≤ 64) && !s.contains 0 && !s.contains 10
def entryName (s : List UInt8) : Bool := decide (1 ≤ s.length) && decide (s.length ≤ 64) && !s.contains 0 && !s.contains 47 && decide (s ≠ [46]) && decide (s ≠ [46, 46])
def tagChar (c : UInt8) : Bool := decide (97 ≤ c.toNat ∧ c.toNat ≤ 122 ∨ 65 ≤ c.toNat ∧ c.toNat ≤ 90 ∨ 48 ≤ c.toNat ∧ c.toNat ≤ 57 ∨ c.toNat = 46 ∨ c.toNat = 95 ∨ c.toNat = 45 ∨ c.toNat = 47)
def tagName (s : List UInt8) : Bool := s.all tagChar && decide (1 ≤ s.length) && decide (s.length ≤ 64)

/-- a mode's word, and the mode of a word -/
def modeW (m : Int) : List UInt8 := if m = 1 then [49, 48, 48, 54, 52, 52] else if m = 2 then [49, 48, 48, 55, 53, 53] else if m = 3 then [52, 48, 48, 48, 48] else []
def modeOf (s : List UInt8) : Int := if s = modeW 1 then 1 else if s = modeW 2 then 2 else if s = modeW 3 then 3 else 0
theorem mode_back {m : Int} (h : 1 ≤ m ∧ m ≤ 3) : modeOf (modeW m) = m := by
  rcases (by omega : m = 1 ∨ m = 2 ∨ m = 3) with rfl | rfl | rfl <;> decide
theorem mode_plain {m : Int} (h : 1 ≤ m ∧ m ≤ 3) : (32 : UInt8) ∉ modeW m ∧ (modeW m).length ≤ 6 := by
  rcases (by omega : m = 1 ∨ m = 2 ∨ m = 3) with rfl | rfl | rfl <;> decide

/-- an entry's part of a content -/
def entC (e : Ent) : List UInt8 := modeW e.mode ++ 32 :: (bl e.name ++ 0 :: bl e.id)
def treeC (l : List Ent) : List UInt8 := l.flatMap entC
def entOk (size : Nat) (e : Ent) : Bool := decide (1 ≤ e.mode) && decide (e.mode ≤ 3) && entryName (bl e.name) && decide (e.id.size = size)
def rising (l : List Ent) : Prop := l.Pairwise fun a b => bl a.name < bl b.name
/-- the entries of a tree, one by one, as they are looked at in order -/
def entsOk (size : Nat) : List Ent → Option Ent → Bool
  | [], _ => true
  | e :: r, p => entOk size e && (match p with | none => true | some q => decide (bl q.name < bl e.name)) && entsOk size r (some e)

/-- words of lines -/
def wTree : List UInt8 := [116, 114, 101, 101]
def wParent : List UInt8 := [112, 97, 114, 101, 110, 116]
def wAuthor : List UInt8 := [97, 117, 116, 104, 111, 114]
def wObject : List UInt8 := [111, 98, 106, 101, 99, 116]
def wType : List UInt8 := [116, 121, 112, 101]
def wTag : List UInt8 := [116, 97, 103]
def wTagger : List UInt8 := [116, 97, 103, 103, 101, 114]
/-- a line: a word, a blank, what it says -/
def line (w s : List UInt8) : List UInt8 := w ++ 32 :: (s ++ [10])
def parC (l : List ByteArray) : List UInt8 := l.flatMap fun p => line wParent (M.digs (bl p))
def signC (who : ByteArray) (t : Int) : List UInt8 := bl who ++ 32 :: Idf.dec t.toNat
def commitC (o : Thing) : List UInt8 := line wTree (M.digs (bl o.tree)) ++ parC o.parents ++ line wAuthor (signC o.who o.time) ++ 10 :: bl o.text
def tagC (o : Thing) : List UInt8 := line wObject (M.digs (bl o.target)) ++ line wType (bl (Idf.word o.ofk)) ++ line wTag (bl o.name) ++ line wTagger (signC o.who o.time) ++ 10 :: bl o.text
def content (o : Thing) : List UInt8 := if o.kind = 1 then bl o.text else if o.kind = 2 then treeC o.ents else if o.kind = 3 then commitC o else if o.kind = 4 then tagC o else []

def bare (o : Thing) : Bool := decide (o.who.size = 0) && decide (o.time = 0)
def signed (o : Thing) : Bool := person (bl o.who) && decide (0 ≤ o.time) && decide (o.time ≤ 2147483647)
def noCommit (o : Thing) : Bool := decide (o.tree.size = 0) && decide (o.parents.length = 0)
def noTag (o : Thing) : Bool := decide (o.target.size = 0) && decide (o.ofk = 0) && decide (o.name.size = 0)
/-- right but for the length of its content -/
def shaped (o : Thing) (size : Nat) : Bool :=
  if o.kind = 1 then bare o && noCommit o && noTag o && decide (o.ents.length = 0)
  else if o.kind = 2 then bare o && noCommit o && noTag o && decide (o.text.size = 0) && decide (o.ents.length ≤ 512) && entsOk size o.ents none
  else if o.kind = 3 then signed o && noTag o && decide (o.ents.length = 0) && decide (o.tree.size = size) && decide (o.parents.length ≤ 8) && o.parents.all (fun p => decide (p.size = size)) && decide (o.parents.Nodup)
  else if o.kind = 4 then signed o && noCommit o && decide (o.ents.length = 0) && decide (o.text.size = o.text.size) && decide (o.target.size = size) && decide (1 ≤ o.ofk) && decide (o.ofk ≤ 4) && tagName (bl o.name)
  else false
def spSize (sp : Int) : Nat := if sp = 1 then 20 else 32
def right (o : Thing) (sp : Int) : Bool := decide (sp = 1 ∨ sp = 2) && shaped o (spSize sp) && decide ((content o).length ≤ 65536)
/-- what Print answers -/
def printF (o : Thing) (sp : Int) : ByteArray × Int :=
  if ¬ (sp = 1 ∨ sp = 2) then (⟨#[]⟩, 1) else if ¬ (1 ≤ o.kind ∧ o.kind ≤ 4) then (⟨#[]⟩, 4)
  else if shaped o (spSize sp) = false then (⟨#[]⟩, 3) else if 65536 < (content o).length then (⟨#[]⟩, 9) else (str (content o), 0)

/-! ### reading -/
/-- up to the first byte of a kind, and what is behind it -/
def upto (c : UInt8) : List UInt8 → Option (List UInt8 × List UInt8)
  | [] => none
  | x :: r => if x = c then some ([], r) else (upto c r).map fun p => (x :: p.1, p.2)
theorem upto_at {c : UInt8} : ∀ {a : List UInt8} (b : List UInt8), c ∉ a → upto c (a ++ c :: b) = some (a, b)
  | [], b, _ => by simp [upto]
  | x :: r, b, h => by
    simp only [List.mem_cons, not_or] at h
    simp only [List.cons_append, upto, if_neg (Ne.symm h.1), upto_at b h.2, Option.map_some]
theorem upto_some {c : UInt8} : ∀ {l a b : List UInt8}, upto c l = some (a, b) → l = a ++ c :: b ∧ c ∉ a
  | [], a, b, h => by simp [upto] at h
  | x :: r, a, b, h => by
    unfold upto at h
    split at h
    · rename_i hx; subst hx; simp only [Option.some.injEq, Prod.mk.injEq] at h; obtain ⟨rfl, rfl⟩ := h; simp
    · rename_i hx
      obtain ⟨⟨p, q⟩, hp, he⟩ := Option.map_eq_some_iff.1 h
      simp only [Prod.mk.injEq] at he
      obtain ⟨rfl, rfl⟩ := he
      obtain ⟨h1, h2⟩ := upto_some hp
      exact ⟨by rw [h1]; rfl, by simp only [List.mem_cons, not_or]; exact ⟨fun e => hx e.symm, h2⟩⟩
theorem upto_none {c : UInt8} : ∀ {l : List UInt8}, upto c l = none → c ∉ l
  | [], _ => by simp
  | x :: r, h => by
    unfold upto at h
    split at h
    · simp at h
    · rename_i hx; simp only [List.mem_cons, not_or]; exact ⟨fun e => hx e.symm, upto_none (Option.map_eq_none_iff.1 h)⟩
theorem upto_no {c : UInt8} {l : List UInt8} (h : c ∉ l) : upto c l = none := by
  cases hu : upto c l with
  | none => rfl
  | some p => obtain ⟨a, b⟩ := p; have := (upto_some hu).1; subst this; exact absurd (by simp) h

/-- a line that begins with a word and a blank: what stands behind these, and what is behind the line -/
def word (w l : List UInt8) : Option (List UInt8 × List UInt8) :=
  match upto 10 l with
  | none => none
  | some (a, b) => if w.length < a.length ∧ a.take (w.length + 1) = w ++ [32] then some (a.drop (w.length + 1), b) else none
theorem word_at {w s : List UInt8} (b : List UInt8) (hw : (10 : UInt8) ∉ w) (hs : (10 : UInt8) ∉ s) : word w (line w s ++ b) = some (s, b) := by
  unfold word line
  have e : w ++ 32 :: (s ++ [10]) ++ b = (w ++ 32 :: s) ++ 10 :: b := by simp
  rw [e, upto_at b (by simp [hw, hs])]
  have h1 : (w ++ 32 :: s).take (w.length + 1) = w ++ [32] := by
    rw [show w ++ 32 :: s = (w ++ [32]) ++ s by simp, List.take_append_of_le_length (by simp), List.take_of_length_le (by simp)]
  have h2 : (w ++ 32 :: s).drop (w.length + 1) = s := by
    rw [show w ++ 32 :: s = (w ++ [32]) ++ s by simp, List.drop_append_of_le_length (by simp), List.drop_of_length_le (by simp)]; rfl
  simp only [h1, h2]
  rw [if_pos ⟨by simp, trivial⟩]
theorem word_some {w l a b : List UInt8} (h : word w l = some (a, b)) : l = line w a ++ b ∧ (10 : UInt8) ∉ a := by
  unfold word at h
  split at h
  · simp at h
  · rename_i p q hu
    split at h
    · rename_i hc
      simp only [Option.some.injEq, Prod.mk.injEq] at h
      obtain ⟨rfl, rfl⟩ := h
      obtain ⟨h1, h2⟩ := upto_some hu
      have h3 : p = w ++ [32] ++ p.drop (w.length + 1) := by rw [← hc.2, List.take_append_drop]
      refine ⟨?_, fun hm => h2 (List.mem_of_mem_drop hm)⟩
      rw [h1, line]
      conv => lhs; rw [h3]
      simp
    · simp at h

/-- the byte ahead of which the last blank stands -/
def sign (s : List UInt8) : Option (List UInt8 × Int) :=
  match upto 32 s.reverse with
  | none => none
  | some (ra, rb) => if ra.length = 0 ∨ 10 < ra.length then none else if ra.all (fun c => decide (48 ≤ c.toNat) && decide (c.toNat ≤ 57)) then some (rb.reverse, (ra.reverse.foldl (fun n c => n * 10 + (c.toNat - 48)) 0 : Nat)) else none

theorem dec_digit (n : Nat) : ∀ c ∈ Idf.dec n, 48 ≤ c.toNat ∧ c.toNat ≤ 57 := by
  induction n using Nat.strongRecOn with
  | _ n ih =>
    by_cases h : n < 10
    · rw [Idf.dec_small h]
      intro c hc
      simp only [List.mem_singleton] at hc
      subst hc
      rw [UInt8.toNat_ofNat', Nat.mod_eq_of_lt (by omega)]
      omega
    · rw [Idf.dec_big h]
      intro c hc
      rcases List.mem_append.1 hc with h1 | h1
      · exact ih (n / 10) (by omega) c h1
      · simp only [List.mem_singleton] at h1
        subst h1
        rw [UInt8.toNat_ofNat', Nat.mod_eq_of_lt (by omega)]
        omega
theorem dec_value (n : Nat) : (Idf.dec n).foldl (fun n c => n * 10 + (c.toNat - 48)) 0 = n := by
  induction n using Nat.strongRecOn with
  | _ n ih =>
    by_cases h : n < 10
    · rw [Idf.dec_small h]
      simp only [List.foldl_cons, List.foldl_nil]
      rw [UInt8.toNat_ofNat', Nat.mod_eq_of_lt (by omega)]
      omega
    · rw [Idf.dec_big h, List.foldl_append, ih (n / 10) (by omega)]
      simp only [List.foldl_cons, List.foldl_nil]
      rw [UInt8.toNat_ofNat', Nat.mod_eq_of_lt (by omega)]
      omega
theorem dec_pos (n : Nat) : 1 ≤ (Idf.dec n).length := by
  by_cases h : n < 10
  · rw [Idf.dec_small h]; simp
  · rw [Idf.dec_big h]; simp
theorem sign_at (who : ByteArray) {t : Int} (h0 : 0 ≤ t) (h1 : t ≤ 2147483647) : sign (signC who t) = some (bl who, t) := by
  have hd := dec_digit t.toNat
  have hl := Idf.dec_len t.toNat 9 (by omega)
  have hp := dec_pos t.toNat
  unfold sign signC
  have e : (bl who ++ 32 :: Idf.dec t.toNat).reverse = (Idf.dec t.toNat).reverse ++ 32 :: (bl who).reverse := by simp
  rw [e, upto_at _ (by intro hm; have := hd 32 (List.mem_reverse.1 hm); simp at this)]
  simp only [List.length_reverse, List.reverse_reverse, dec_value, List.all_reverse]
  rw [if_neg (by omega), if_pos (by rw [List.all_eq_true]; intro c hc; have := hd c hc; simp [this])]
  simp only [Option.some.injEq, Prod.mk.injEq, true_and]
  omega
end Go.Proofs.Ytlpidedijknohaa.Ob
