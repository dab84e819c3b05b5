/-
  Layer 11, the program's way, as Lean functions: when an object is formed, what stands ahead of its text, a loose reading.
-/
import Derived.Test.YtapjgdhdgpakhaaGreatDoorOd
import Derived.Lib.IndexMore
import Derived.Lib.AtoiAll
import Derived.Lib.LastIndexByte
namespace Go.Proofs.YtapjgdhdgpakhaaGreatDoor.Ob
open Go.Proofs.YtapjgdhdgpakhaaGreatDoor
set_option linter.unusedVariables false

theorem nil_iff {a : ByteArray} : a = ⟨#[]⟩ ↔ a.size = 0 := ⟨fun h => by rw [h]; rfl, bl_nil⟩
def without (o : Thing) : Thing :=
  if o.kind = 2 then { o with ents := [] }
  else if o.kind = 3 then { o with tree := ⟨#[]⟩, parents := [], who := ⟨#[]⟩, time := 0, text := ⟨#[]⟩ }
  else if o.kind = 4 then { o with target := ⟨#[]⟩, ofk := 0, name := ⟨#[]⟩, who := ⟨#[]⟩, time := 0, text := ⟨#[]⟩ }
  else if o.kind = 1 then { o with text := ⟨#[]⟩ } else o
def parsOk (size : Nat) (l : List ByteArray) : Bool := l.all (fun p => decide (p.size = size)) && decide l.Nodup
def formed (o : Thing) (size : Nat) : Bool :=
  same (without o) { zero with kind := o.kind } &&
  (if o.kind = 1 then true
   else if o.kind = 2 then decide (o.ents.length ≤ 512) && entsOk size o.ents none
   else if o.kind = 3 then decide (o.tree.size = size) && (decide (o.parents.length ≤ 8) && parsOk size o.parents) && signed o
   else if o.kind = 4 then decide (o.target.size = size) && (decide (1 ≤ o.ofk) && decide (o.ofk ≤ 4)) && tagName (bl o.name) && signed o
   else false)
theorem formed_eq (o : Thing) (size : Nat) : formed o size = shaped o size := by
  rw [Bool.eq_iff_iff]
  unfold formed shaped
  rw [Bool.and_eq_true, same_iff]
  by_cases k1 : o.kind = 1
  · simp only [without, k1, if_true, zero, Thing.mk.injEq, bare, noCommit, noTag, Bool.and_eq_true, decide_eq_true_eq, nil_iff, List.length_eq_zero_iff, if_neg (show ¬ (1 : Int) = 2 by decide), if_neg (show ¬ (1 : Int) = 3 by decide), if_neg (show ¬ (1 : Int) = 4 by decide)]
    constructor
    · rintro ⟨⟨_, _, h1, h2, h3, h4, h5, h6, h7, h8⟩, _⟩; exact ⟨⟨⟨⟨h7, h8⟩, h2, h3⟩, ⟨h4, h5⟩, h6⟩, h1⟩
    · rintro ⟨⟨⟨⟨h7, h8⟩, h2, h3⟩, ⟨h4, h5⟩, h6⟩, h1⟩; exact ⟨⟨trivial, trivial, h1, h2, h3, h4, h5, h6, h7, h8⟩, trivial⟩
  · by_cases k2 : o.kind = 2
    · simp only [without, k2, if_true, zero, Thing.mk.injEq, bare, noCommit, noTag, Bool.and_eq_true, decide_eq_true_eq, nil_iff, List.length_eq_zero_iff, if_neg (show ¬ (2 : Int) = 1 by decide), true_and]
      constructor
      · rintro ⟨⟨h1, h2, h3, h4, h5, h6, h7, h8⟩, h9, h10⟩; exact ⟨⟨⟨⟨⟨⟨h7, h8⟩, h2, h3⟩, ⟨h4, h5⟩, h6⟩, h1⟩, h9⟩, h10⟩
      · rintro ⟨⟨⟨⟨⟨⟨h7, h8⟩, h2, h3⟩, ⟨h4, h5⟩, h6⟩, h1⟩, h9⟩, h10⟩; exact ⟨⟨h1, h2, h3, h4, h5, h6, h7, h8⟩, h9, h10⟩
    · by_cases k3 : o.kind = 3
      · simp only [without, k3, if_true, zero, Thing.mk.injEq, parsOk, noTag, Bool.and_eq_true, decide_eq_true_eq, nil_iff, List.length_eq_zero_iff, if_neg (show ¬ (3 : Int) = 1 by decide), if_neg (show ¬ (3 : Int) = 2 by decide), true_and, and_true]
        constructor
        · rintro ⟨⟨h1, h2, h3, h4⟩, ⟨h5, h6, h7, h8⟩, h9⟩; exact ⟨⟨⟨⟨⟨⟨h9, ⟨h2, h3⟩, h4⟩, h1⟩, h5⟩, h6⟩, h7⟩, h8⟩
        · rintro ⟨⟨⟨⟨⟨⟨h9, ⟨h2, h3⟩, h4⟩, h1⟩, h5⟩, h6⟩, h7⟩, h8⟩; exact ⟨⟨h1, h2, h3, h4⟩, ⟨h5, h6, h7, h8⟩, h9⟩
      · by_cases k4 : o.kind = 4
        · simp only [without, k4, if_true, zero, Thing.mk.injEq, noCommit, Bool.and_eq_true, decide_eq_true_eq, nil_iff, List.length_eq_zero_iff, if_neg (show ¬ (4 : Int) = 1 by decide), if_neg (show ¬ (4 : Int) = 2 by decide), if_neg (show ¬ (4 : Int) = 3 by decide), true_and, and_true]
          constructor
          · rintro ⟨⟨h1, h2, h3⟩, ⟨⟨h4, h5, h6⟩, h7⟩, h8⟩; exact ⟨⟨⟨⟨⟨⟨h8, h2, h3⟩, h1⟩, h4⟩, h5⟩, h6⟩, h7⟩
          · rintro ⟨⟨⟨⟨⟨⟨h8, h2, h3⟩, h1⟩, h4⟩, h5⟩, h6⟩, h7⟩; exact ⟨⟨h1, h2, h3⟩, ⟨⟨h4, h5, h6⟩, h7⟩, h8⟩
        · simp [k1, k2, k3, k4]

/-- what stands ahead of an object's text -/
def headF (o : Thing) : List UInt8 :=
  if o.kind = 2 then treeC o.ents
  else if o.kind = 3 then line wTree (M.digs (bl o.tree)) ++ parC o.parents ++ line wAuthor (signC o.who o.time) ++ [10]
  else if o.kind = 4 then line wObject (M.digs (bl o.target)) ++ line wType (bl (Idf.word o.ofk)) ++ line wTag (bl o.name) ++ line wTagger (signC o.who o.time) ++ [10]
  else []
theorem content_head {o : Thing} {size : Nat} (h : shaped o size = true) : content o = headF o ++ bl o.text := by
  have hk := shaped_kind h
  by_cases k1 : o.kind = 1
  · rw [content, if_pos k1, headF, if_neg (by omega), if_neg (by omega), if_neg (by omega)]; rfl
  · by_cases k2 : o.kind = 2
    · unfold shaped at h
      rw [if_neg k1, if_pos k2] at h
      simp only [Bool.and_eq_true, decide_eq_true_eq] at h
      rw [content, if_neg k1, if_pos k2, headF, if_pos k2, bl_nil h.1.1.2]
      exact (List.append_nil _).symm
    · by_cases k3 : o.kind = 3
      · rw [content, if_neg k1, if_neg k2, if_pos k3, headF, if_neg k2, if_pos k3, commitC]
        simp
      · have k4 : o.kind = 4 := by omega
        rw [content, if_neg k1, if_neg k2, if_neg k3, if_pos k4, headF, if_neg k2, if_neg k3, if_pos k4, tagC]
        simp

/-! ### a loose reading -/
def cutN (c : UInt8) (l : List UInt8) : List UInt8 × List UInt8 := match upto c l with | some p => p | none => (l, [])
theorem cutN_at {c : UInt8} {a : List UInt8} (b : List UInt8) (h : c ∉ a) : cutN c (a ++ c :: b) = (a, b) := by rw [cutN, upto_at b h]
theorem index_upto (c : UInt8) : ∀ l : List UInt8, match upto c l with | some p => Lib.index l [c] = p.1.length | none => Lib.index l [c] = -1
  | [] => rfl
  | x :: r => by
    have ih := index_upto c r
    unfold upto Lib.index
    by_cases hx : x = c
    · subst hx
      rw [if_pos rfl, if_pos (by simp [List.isPrefixOf])]; rfl
    · rw [if_neg hx, if_neg (by simp [List.isPrefixOf]; exact fun e => hx e.symm)]
      cases hu : upto c r with
      | none => rw [hu] at ih; simp only at ih; simp only [Option.map_none]; rw [ih]; rfl
      | some p =>
        rw [hu] at ih
        simp only at ih
        simp only [Option.map_some]
        rw [ih, if_neg (by simp only [beq_iff_eq]; omega)]
        simp
theorem cut_cutN (c : UInt8) (l : List UInt8) : (Lib.cut l [c]).1 = (cutN c l).1 ∧ (Lib.cut l [c]).2.1 = (cutN c l).2 := by
  have h := index_upto c l
  unfold Lib.cut cutN
  cases hu : upto c l with
  | none => rw [hu] at h; simp only at h; rw [if_neg (by omega)]; exact ⟨rfl, rfl⟩
  | some p =>
    rw [hu] at h
    simp only at h
    obtain ⟨h1, _⟩ := upto_some (a := p.1) (b := p.2) hu
    rw [if_pos (by omega), h]
    simp only [Int.toNat_natCast]
    constructor
    · conv => lhs; rw [h1]
      rw [List.take_left]
    · conv => lhs; rw [h1]
      rw [show p.1 ++ c :: p.2 = (p.1 ++ [c]) ++ p.2 by simp, show p.1.length + [c].length = (p.1 ++ [c]).length by simp, List.drop_left]
theorem cutN_size (c : UInt8) (l : List UInt8) : (cutN c l).1.length ≤ l.length ∧ (cutN c l).2.length ≤ l.length ∧ (l ≠ [] → (cutN c l).2.length < l.length) := by
  unfold cutN
  cases hu : upto c l with
  | none => exact ⟨Nat.le_refl _, Nat.zero_le _, fun h => List.length_pos_iff.2 h⟩
  | some p =>
    obtain ⟨h1, _⟩ := upto_some (a := p.1) (b := p.2) hu
    have := congrArg List.length h1
    simp only [List.length_append, List.length_cons] at this
    exact ⟨by simp only; omega, by simp only; omega, fun _ => by simp only; omega⟩

def lineL (w l : List UInt8) : List UInt8 × List UInt8 := (Lib.trimPrefix (cutN 10 l).1 (w ++ [32]), (cutN 10 l).2)
theorem trim_at (w s : List UInt8) : Lib.trimPrefix (w ++ 32 :: s) (w ++ [32]) = s := by
  have e : w ++ 32 :: s = (w ++ [32]) ++ s := by simp
  rw [Lib.trimPrefix, e, if_pos (by rw [Lib.hasPrefix, List.isPrefixOf_iff_prefix]; exact List.prefix_append _ _), List.drop_left]
theorem lineL_at {w s : List UInt8} (b : List UInt8) (hw : (10 : UInt8) ∉ w) (hs : (10 : UInt8) ∉ s) : lineL w (line w s ++ b) = (s, b) := by
  have e : line w s ++ b = (w ++ 32 :: s) ++ 10 :: b := by simp [line]
  rw [lineL, e, cutN_at b (by simp [hw, hs]), trim_at]
theorem trim_size (l p : List UInt8) : (Lib.trimPrefix l p).length ≤ l.length := by
  unfold Lib.trimPrefix
  split
  · rw [List.length_drop]; omega
  · exact Nat.le_refl _
theorem lineL_size (w l : List UInt8) : (lineL w l).1.length ≤ l.length ∧ (lineL w l).2.length ≤ l.length ∧ (l ≠ [] → (lineL w l).2.length < l.length) := by
  have h := cutN_size 10 l
  exact ⟨Nat.le_trans (trim_size _ _) h.1, h.2⟩

theorem unb_size (s : List UInt8) : (M.unb s).length ≤ s.length := by
  unfold M.unb
  cases h : M.undig s with
  | none => exact Nat.zero_le _
  | some l =>
    have h1 := M.digs_undig s l h
    have h2 : ∀ l : List UInt8, l.length ≤ (M.digs l).length := fun l => by
      induction l with
      | nil => simp
      | cons c r ih => simp [M.digs] at ih ⊢; omega
    have := h2 l
    rw [h1] at this
    exact this
theorem unb_digs (l : List UInt8) : M.unb (M.digs l) = l := by rw [M.unb, M.undig_digs]; rfl

def atoiN (l : List UInt8) : Int := match Lib.atoiAll l with | .ok v => v | Lib.NumEnd.syntax => 0 | .range => Lib.atoiSat l
theorem parse_dec (n : Nat) (h : n ≤ 2147483647) : Lib.parseUint10 0 (Idf.dec n) = .ok n := by
  have key : ∀ (l : List UInt8) (a : Nat), (∀ c ∈ l, 48 ≤ c.toNat ∧ c.toNat ≤ 57) → l.foldl (fun n c => n * 10 + (c.toNat - 48)) a ≤ 2147483647 → Lib.parseUint10 a l = .ok (l.foldl (fun n c => n * 10 + (c.toNat - 48)) a) := by
    intro l
    induction l with
    | nil => intro a _ _; rfl
    | cons c r ih =>
      intro a hd hl
      have mono : ∀ (r : List UInt8) (b : Nat), b ≤ r.foldl (fun n c => n * 10 + (c.toNat - 48)) b := fun r => by
        induction r with
        | nil => intro b; exact Nat.le_refl _
        | cons c r ih => intro b; simp only [List.foldl_cons]; have := ih (b * 10 + (c.toNat - 48)); omega
      have hc := hd c (by simp)
      simp only [List.foldl_cons] at hl ⊢
      have hm := mono r (a * 10 + (c.toNat - 48))
      rw [Lib.parseUint10, if_pos hc, if_neg (by omega), if_neg (by omega)]
      exact ih _ (fun x hx => hd x (by simp [hx])) hl
  have := key (Idf.dec n) 0 (dec_digit n) (by rw [dec_value]; exact h)
  rwa [dec_value] at this
theorem atoiN_dec (n : Nat) (h : n ≤ 2147483647) : atoiN (Idf.dec n) = n := by
  have hp := dec_pos n
  have hd := dec_digit n
  have hv := parse_dec n h
  unfold atoiN Lib.atoiAll
  cases hl : Idf.dec n with
  | nil => rw [hl] at hp; simp at hp
  | cons c r =>
    rw [hl] at hd hv
    have hc := hd c (by simp)
    simp only
    rw [if_neg (by omega), Lib.parseMag, if_neg (by simp), hv]
    simp only
    rw [if_neg (by omega), if_neg (by omega), if_neg (by omega)]

/-- a person and a time out of a line -/
def whoL (s : ByteArray) : ByteArray × Int := if Lib.lastIndexByte s 32 < 0 then (⟨#[]⟩, 0) else (str ((bl s).take (Lib.lastIndexByte s 32).toNat), atoiN ((bl s).drop ((Lib.lastIndexByte s 32).toNat + 1)))
theorem data_bang (l : List UInt8) (j : Nat) : ((str l).data[j]!).toNat = (l.getD j 0).toNat := by
  simp only [str, List.getElem!_toArray, List.getD_eq_getElem?_getD, List.getElem!_eq_getElem?_getD]; rfl
theorem last_blank (a b : List UInt8) (h : (32 : UInt8) ∉ b) : Lib.lastIndexByte (str (a ++ 32 :: b)) 32 = a.length := by
  have hsz : (str (a ++ 32 :: b)).size = a.length + (b.length + 1) := by rw [str_size]; simp
  have hat : (((str (a ++ 32 :: b)).data[a.length]!).toNat : Int) = 32 := by rw [data_bang]; simp [List.getD]
  have hbe : ∀ j, a.length < j → j < a.length + (b.length + 1) → (((str (a ++ 32 :: b)).data[j]!).toNat : Int) ≠ 32 := fun j h1 h2 e => by
    rw [data_bang] at e
    have e32 : (32 : UInt8).toNat = 32 := rfl
    have e2 : (a ++ 32 :: b).getD j 0 = 32 := UInt8.toNat_inj.1 (by omega)
    rw [List.getD_eq_getElem?_getD, List.getElem?_append_right (by omega), show j - a.length = (j - a.length - 1) + 1 by omega, List.getElem?_cons_succ, List.getElem?_eq_getElem (by omega)] at e2
    exact h (by rw [← e2]; exact List.getElem_mem _)
  rcases Lib.lastIndexByte_spec (str (a ++ 32 :: b)) 32 with ⟨_, hn⟩ | ⟨i, hi, he, hc, hn⟩
  · exact absurd hat (hn a.length (by omega))
  · rw [he]
    by_cases h1 : i < a.length
    · exact absurd hat (hn a.length h1 (by omega))
    · by_cases h2 : a.length < i
      · exact absurd hc (hbe i h2 (by omega))
      · omega
theorem whoL_at (who : ByteArray) {t : Int} (h0 : 0 ≤ t) (h1 : t ≤ 2147483647) : whoL (str (signC who t)) = (who, t) := by
  have hd := dec_digit t.toNat
  have hb : (32 : UInt8) ∉ Idf.dec t.toNat := fun hm => by have := hd 32 hm; simp at this
  have hk := last_blank (bl who) (Idf.dec t.toNat) hb
  rw [whoL, signC, if_neg (by rw [hk]; omega), hk, bl_str]
  simp only [Int.toNat_natCast]
  rw [List.take_left, str_bl, show bl who ++ 32 :: Idf.dec t.toNat = (bl who ++ [32]) ++ Idf.dec t.toNat by simp, show (bl who).length + 1 = (bl who ++ [32]).length by simp, List.drop_left, atoiN_dec _ (by omega)]
  exact congrArg (Prod.mk who) (by omega)
theorem whoL_size (s : ByteArray) : (whoL s).1.size ≤ s.size := by
  unfold whoL
  split
  · exact Nat.zero_le _
  · simp only [str_size, List.length_take, bl_length]; omega

def namedL (w l : List UInt8) : ByteArray × List UInt8 := (str (M.unb (lineL w l).1), (lineL w l).2)
theorem namedL_at {w : List UInt8} (p : ByteArray) (b : List UInt8) (hw : (10 : UInt8) ∉ w) : namedL w (line w (M.digs (bl p)) ++ b) = (p, b) := by
  rw [namedL, lineL_at b hw (digs_plain _), unb_digs, str_bl]
theorem namedL_size (w l : List UInt8) : (namedL w l).1.size ≤ l.length ∧ (namedL w l).2.length ≤ l.length ∧ (l ≠ [] → (namedL w l).2.length < l.length) := by
  have h := lineL_size w l
  exact ⟨by simp only [namedL, str_size]; exact Nat.le_trans (unb_size _) h.1, h.2⟩

def parsL : Nat → List UInt8 → List ByteArray × List UInt8
  | 0, l => ([], l)
  | f + 1, l => if Lib.hasPrefix l (wParent ++ [32]) then ((namedL wParent l).1 :: (parsL f (namedL wParent l).2).1, (parsL f (namedL wParent l).2).2) else ([], l)
theorem parsL_size : ∀ (f : Nat) (l : List UInt8), (parsL f l).1.length ≤ l.length ∧ (parsL f l).2.length ≤ l.length ∧ ∀ p ∈ (parsL f l).1, p.size ≤ l.length
  | 0, l => ⟨Nat.zero_le _, Nat.le_refl _, fun p hp => by simp [parsL] at hp⟩
  | f + 1, l => by
    unfold parsL
    split
    · rename_i h
      have hne : l ≠ [] := fun e => by rw [e] at h; simp [Lib.hasPrefix, wParent] at h
      have h1 := namedL_size wParent l
      have h2 := parsL_size f (namedL wParent l).2
      have h3 := h1.2.2 hne
      refine ⟨by simp only [List.length_cons]; omega, by simp only; omega, fun p hp => ?_⟩
      rcases List.mem_cons.1 hp with rfl | hp
      · exact h1.1
      · exact Nat.le_trans (h2.2.2 p hp) h1.2.1
    · exact ⟨Nat.zero_le _, Nat.le_refl _, fun p hp => by simp at hp⟩
theorem prefix_at (w s b : List UInt8) : Lib.hasPrefix (line w s ++ b) (w ++ [32]) = true := by
  rw [Lib.hasPrefix, List.isPrefixOf_iff_prefix, line, show w ++ 32 :: (s ++ [10]) ++ b = (w ++ [32]) ++ (s ++ [10] ++ b) by simp]
  exact List.prefix_append _ _
theorem parsL_at : ∀ (l : List ByteArray) (q : List UInt8) (f : Nat), Lib.hasPrefix q (wParent ++ [32]) = false → l.length < f → parsL f (parC l ++ q) = (l, q)
  | [], q, f + 1, hq, _ => by simp [parC, parsL, hq]
  | p :: l, q, f + 1, hq, hf => by
    have hl := parsL_at l q f hq (by simpa using hf)
    have e1 : parC (p :: l) ++ q = line wParent (M.digs (bl p)) ++ (parC l ++ q) := by simp [parC]
    rw [e1, parsL, if_pos (prefix_at _ _ _), namedL_at p _ wparent_plain, hl]

def endL (o : Thing) (w l : List UInt8) : Thing := { o with who := (whoL (str (lineL w l).1)).1, time := (whoL (str (lineL w l).1)).2, text := str (lineL [] (lineL w l).2).2 }
theorem endL_at (o : Thing) {w : List UInt8} (hw : (10 : UInt8) ∉ w) {who : ByteArray} {t : Int} (tx : ByteArray) (hp : person (bl who) = true) (h0 : 0 ≤ t) (h1 : t ≤ 2147483647) : endL o w (line w (signC who t) ++ 10 :: bl tx) = { o with who := who, time := t, text := tx } := by
  have e : lineL [] (10 :: bl tx) = ([], bl tx) := by
    rw [lineL, show (10 : UInt8) :: bl tx = [] ++ 10 :: bl tx from rfl, cutN_at _ (by simp)]; rfl
  rw [endL, lineL_at _ hw (sign_plain hp t), whoL_at who h0 h1, e, str_bl]

def treeL (size : Nat) : Nat → List UInt8 → List Ent
  | 0, _ => []
  | f + 1, l => if l = [] then [] else ⟨modeOf (cutN 32 l).1, str (cutN 0 (cutN 32 l).2).1, str ((cutN 0 (cutN 32 l).2).2.take size)⟩ :: treeL size f ((cutN 0 (cutN 32 l).2).2.drop size)
theorem treeL_size (size : Nat) : ∀ (f : Nat) (l : List UInt8), (treeL size f l).length ≤ l.length ∧ ∀ e ∈ treeL size f l, e.name.size ≤ l.length ∧ e.id.size ≤ l.length
  | 0, l => ⟨Nat.zero_le _, fun e he => by simp [treeL] at he⟩
  | f + 1, l => by
    unfold treeL
    split
    · exact ⟨Nat.zero_le _, fun e he => by simp at he⟩
    · rename_i hne
      have h1 := cutN_size 32 l
      have h2 := cutN_size 0 (cutN 32 l).2
      have h3 := treeL_size size f ((cutN 0 (cutN 32 l).2).2.drop size)
      have h4 := h1.2.2 hne
      rw [List.length_drop] at h3
      refine ⟨by simp only [List.length_cons]; omega, fun e he => ?_⟩
      rcases List.mem_cons.1 he with rfl | he
      · simp only [str_size, List.length_take]; omega
      · have := h3.2 e he; omega
theorem treeL_at (size : Nat) : ∀ (l : List Ent) (f : Nat), (∀ e ∈ l, entOk size e = true) → l.length < f → treeL size f (treeC l) = l
  | [], f + 1, _, _ => rfl
  | e :: l, f + 1, h, hf => by
    obtain ⟨hm, hnm, hid⟩ := ent_facts (h e (by simp))
    have h0 := (name_facts hnm).2.2
    have hl := treeL_at size l f (fun x hx => h x (by simp [hx])) (by simpa using hf)
    have hb := bl_length e.id
    have e1 : treeC (e :: l) = modeW e.mode ++ 32 :: (bl e.name ++ 0 :: (bl e.id ++ treeC l)) := by simp [treeC, entC]
    rw [e1, treeL, if_neg (by simp), cutN_at _ (mode_plain hm).1]
    simp only [cutN_at _ h0]
    rw [List.drop_append_of_le_length (by omega), List.drop_of_length_le (by omega), List.take_append_of_le_length (by omega), List.take_of_length_le (by omega), List.nil_append, hl, mode_back hm, str_bl, str_bl]

def commitL (l : List UInt8) : Thing := endL { zero with kind := 3, tree := (namedL wTree l).1, parents := (parsL ((namedL wTree l).2.length + 1) (namedL wTree l).2).1 } wAuthor (parsL ((namedL wTree l).2.length + 1) (namedL wTree l).2).2
def tagL (l : List UInt8) : Thing :=
  endL { zero with kind := 4, target := (namedL wObject l).1, ofk := Idf.kindF (str (lineL wType (namedL wObject l).2).1), name := str (lineL wTag (lineL wType (namedL wObject l).2).2).1 } wTagger (lineL wTag (lineL wType (namedL wObject l).2).2).2
def readL (k : Int) (l : List UInt8) (size : Nat) : Thing :=
  if k = 2 then { zero with kind := 2, ents := treeL size (l.length + 1) l }
  else if k = 3 then commitL l else if k = 4 then tagL l else { zero with kind := k, text := str l }
theorem readL_kind (k : Int) (l : List UInt8) (size : Nat) : (readL k l size).kind = k := by
  unfold readL
  split
  · rename_i h; exact h.symm
  · split
    · rename_i h; exact h.symm
    · split
      · rename_i h; exact h.symm
      · rfl
theorem author_prefix (s b : List UInt8) : Lib.hasPrefix (line wAuthor s ++ b) (wParent ++ [32]) = false := by
  simp [Lib.hasPrefix, line, wAuthor, wParent, List.isPrefixOf]
theorem readL_content (o : Thing) (size : Nat) (h : shaped o size = true) : readL o.kind (content o) size = o := by
  have hkk := shaped_kind h
  unfold shaped at h
  by_cases k1 : o.kind = 1
  · rw [if_pos k1] at h
    simp only [bare, noCommit, noTag, Bool.and_eq_true, decide_eq_true_eq, List.length_eq_zero_iff] at h
    obtain ⟨⟨⟨⟨h1, h2⟩, h3, h4⟩, ⟨h5, h6⟩, h7⟩, h8⟩ := h
    rw [readL, if_neg (by omega), if_neg (by omega), if_neg (by omega), content, if_pos k1]
    exact obj_ext rfl (str_bl _) h8.symm (bl_nil h3).symm h4.symm (bl_nil h5).symm h6.symm (bl_nil h7).symm (bl_nil h1).symm h2.symm
  · rw [if_neg k1] at h
    by_cases k2 : o.kind = 2
    · rw [if_pos k2] at h
      simp only [bare, noCommit, noTag, Bool.and_eq_true, decide_eq_true_eq, List.length_eq_zero_iff] at h
      obtain ⟨⟨⟨⟨⟨⟨h1, h2⟩, h3, h4⟩, ⟨h5, h6⟩, h7⟩, h8⟩, h9⟩, h10⟩ := h
      rw [readL, if_pos k2, content, if_neg k1, if_pos k2, treeL_at size o.ents _ (ents_facts h10) (by have := treeC_length o.ents; omega)]
      exact obj_ext k2.symm (bl_nil h8).symm rfl (bl_nil h3).symm h4.symm (bl_nil h5).symm h6.symm (bl_nil h7).symm (bl_nil h1).symm h2.symm
    · rw [if_neg k2] at h
      by_cases k3 : o.kind = 3
      · rw [if_pos k3] at h
        simp only [signed, noTag, Bool.and_eq_true, decide_eq_true_eq, List.length_eq_zero_iff] at h
        obtain ⟨⟨⟨⟨⟨⟨⟨⟨h1, h2⟩, h3⟩, ⟨h4, h5⟩, h6⟩, h7⟩, h8⟩, h9⟩, h10⟩, h11⟩ := h
        rw [readL, if_neg k2, if_pos k3, content, if_neg k1, if_neg k2, if_pos k3, commitC, List.append_assoc, List.append_assoc, commitL, namedL_at _ _ (by decide)]
        simp only
        rw [parsL_at o.parents _ _ (author_prefix _ _) (by have := parC_length o.parents (line wAuthor (signC o.who o.time) ++ 10 :: bl o.text); omega)]
        simp only
        rw [endL_at _ (by decide) o.text h1 h2 h3]
        exact obj_ext k3.symm rfl h7.symm rfl rfl (bl_nil h4).symm h5.symm (bl_nil h6).symm rfl rfl
      · rw [if_neg k3] at h
        have k4 : o.kind = 4 := by omega
        rw [if_pos k4] at h
        simp only [signed, noCommit, Bool.and_eq_true, decide_eq_true_eq, List.length_eq_zero_iff] at h
        obtain ⟨⟨⟨⟨⟨⟨⟨⟨⟨h1, h2⟩, h3⟩, h4, h5⟩, h6⟩, _⟩, h7⟩, h8⟩, h9⟩, h10⟩ := h
        obtain ⟨w1, w2⟩ := kind_word ⟨h8, h9⟩
        rw [readL, if_neg k2, if_neg k3, if_pos k4, content, if_neg k1, if_neg k2, if_neg k3, if_pos k4, tagC, List.append_assoc, List.append_assoc, List.append_assoc, tagL, namedL_at _ _ (by decide)]
        simp only
        rw [lineL_at _ (by decide) w2]
        simp only
        rw [lineL_at _ (by decide) (tag_plain h10).1]
        simp only
        rw [endL_at _ (by decide) o.text h1 h2 h3, str_bl, str_bl, w1]
        exact obj_ext k4.symm rfl h6.symm (bl_nil h4).symm h5.symm rfl rfl rfl rfl rfl
/-- what is read loosely is held to the one content that it has -/
theorem parse_yes {k : Int} {c : List UInt8} {sp : Int} (h : printF (readL k c (spSize sp)) sp = (str c, 0)) : parseF k c sp = (readL k c (spSize sp), 0) := by
  have hr := print_zero (by rw [h])
  rw [print_ok hr] at h
  have hc : content (readL k c (spSize sp)) = c := by
    have := congrArg (fun p => bl p.1) h
    simpa [bl_str] using this
  have := parse_of hr
  rwa [hc, readL_kind] at this
theorem parse_no {k : Int} {c : List UInt8} {sp : Int} (hs : sp = 1 ∨ sp = 2) (hk : 1 ≤ k ∧ k ≤ 4) (hc : c.length ≤ 65536) (h : printF (readL k c (spSize sp)) sp ≠ (str c, 0)) : parseF k c sp = (zero, 3) := by
  refine parse_none hs hk hc fun o h1 h2 h3 => h ?_
  have := readL_content o _ (right_parts h2).2.1
  rw [h1, h3] at this
  rw [this, print_ok h2, h3]
end Go.Proofs.YtapjgdhdgpakhaaGreatDoor.Ob
