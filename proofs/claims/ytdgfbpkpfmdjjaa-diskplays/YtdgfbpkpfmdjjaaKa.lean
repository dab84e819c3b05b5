/-
  Files as a map of the program's (layer 7): what a map reads as, against the document's lists of files.
-/
import Derived.Test.YtdgfbpkpfmdjjaaVg
import Derived.Maps.Ext
import Derived.Maps.OwnSet
import Derived.Maps.RangeWalk
import Derived.StringKeys
namespace Go.Proofs.Ytdgfbpkpfmdjjaa.Hk
open Go.RowKit Hr Hw
set_option linter.unusedVariables false

/-- a key, an element -/
def pk (p : ByteArray) : Lit := .string p.data.toList
def el (t : ByteArray) : DataW Unit := .agg [.lit (.string t.data.toList)]
def ents (l : List Fl) : List (Lit × DataW Unit) := l.map fun q => (pk q.1, el q.2)
def toD (l : List Fl) : DataW Unit := .map (ents l)
/-- how a file reads -/
def fileElem : Value → Option (DataW Unit × List MemPlace)
  | .agg cs => match cs.toList with
    | [.string s] => if s.size ≤ maxLen then some (el s, []) else none
    | _ => none
  | _ => none
theorem fileElem_mk {s : ByteArray} (h : s.size ≤ maxLen) : fileElem (.agg #[.string s]) = some (el s, []) := by simp [fileElem, h]
theorem fileElem_inv {v : Value} {z : DataW Unit × List MemPlace} (h : fileElem v = some z) : ∃ s, v = .agg #[.string s] ∧ z = (el s, []) ∧ s.size ≤ maxLen := by
  unfold fileElem at h
  cases v <;> simp at h
  rename_i cs
  split at h
  · rename_i s hs
    split at h
    · rename_i hm
      cases h
      refine ⟨s, ?_, rfl, hm⟩
      rw [show cs = #[.string s] from by rw [← hs]]
    · cases h
  · cases h
theorem pk_inj {a b : ByteArray} (h : pk a = pk b) : a = b := by
  unfold pk at h
  injection h with h
  exact ByteArray.ext (Array.toList_inj.1 h)
theorem el_inj {a b : ByteArray} (h : el a = el b) : a = b := by
  unfold el at h
  injection h with h
  injection h with h _
  injection h with h
  exact pk_inj h
theorem pk_ne {a b : ByteArray} (h : a ≠ b) : pk a ≠ pk b := fun e => h (pk_inj e)
theorem pk_lit (p : ByteArray) : WideAt.IsKeyLit (pk p) := trivial
theorem same_pk (a b : ByteArray) : (pk a).sameKey (pk b) = decide (a = b) := by
  by_cases e : a = b
  · subst e; rw [WideAt.sameKey_self (pk_lit a)]; simp
  · rw [Maps.sameKey_ne (pk_ne e)]; simp [e]
theorem klaw : Maps.Keyed Try.prog 9 := Maps.string_keyed Try.underlying9
theorem pk_key {p : ByteArray} (h : p.size ≤ maxLen) : keyOf Try.prog 9 (.string p) = some (pk p) := WideMaps.keyOf_string_mk Try.underlying9 h
theorem pk_key_inv {v : Value} {k : Lit} (h : keyOf Try.prog 9 v = some k) : ∃ p : ByteArray, v = .string p ∧ k = pk p ∧ p.size ≤ maxLen := by
  exact WideMaps.string_of_keyOf Try.underlying9 h

/-! ### what is there -/
theorem find_ents (p : ByteArray) : ∀ l : List Fl, (ents l).find? (fun q => q.1.sameKey (pk p)) = (l.find? fun q => decide (q.1 = p)).map fun q => (pk q.1, el q.2)
  | [] => rfl
  | q :: l => by
    simp only [ents, List.map_cons, List.find?_cons, same_pk]
    by_cases e : q.1 = p
    · simp [e]
    · simp only [e, decide_false]
      exact find_ents p l
theorem at_toD (l : List Fl) (p : ByteArray) (z : DataW Unit) : (toD l).atKey (pk p) z = match findF l p with | some t => el t | none => z := by
  unfold toD DataW.atKey findF
  simp only [find_ents]
  cases l.find? fun q => decide (q.1 = p) <;> rfl
theorem has_toD (l : List Fl) (p : ByteArray) : Maps.has (toD l) (pk p) = (findF l p).isSome := by
  cases h : findF l p with
  | none => exact Maps.has_false_of_atKey fun z => by rw [at_toD, h]
  | some t => exact Maps.has_true_of_atKey (y := el t) fun z => by rw [at_toD, h]
theorem size_toD (l : List Fl) : Maps.size (toD l) = l.length := by simp [toD, Maps.size, ents]
theorem filter_ents (p : ByteArray) : ∀ l : List Fl, (ents l).filter (fun q => !q.1.sameKey (pk p)) = ents (withoutF l p)
  | [] => rfl
  | q :: l => by
    have ih := filter_ents p l
    simp only [ents, withoutF, List.map_cons, List.filter_cons, same_pk] at ih ⊢
    by_cases e : q.1 = p
    · simp only [e, decide_true, Bool.not_true, ne_eq, not_true, decide_false]
      exact ih
    · simp only [e, decide_false, Bool.not_false, ne_eq, not_false_iff, decide_true, if_true, List.map_cons, ih]
theorem del_toD (l : List Fl) (p : ByteArray) : (toD l).del (pk p) = toD (withoutF l p) := by
  show DataW.map ((ents l).filter fun q => !q.1.sameKey (pk p)) = _
  rw [filter_ents]; rfl

/-! ### order -/
theorem before_less : ∀ a b : List UInt8, bytesBefore a b = Op.bytesLess a b
  | [], [] => rfl
  | [], _ :: _ => rfl
  | _ :: _, [] => rfl
  | a :: x, b :: y => by simp [bytesBefore, Op.bytesLess, before_less x y]
theorem data_toList (a : ByteArray) : a.toList = a.data.toList := ByteArray.toList_eq a
theorem before_pk (a b : ByteArray) : (pk a).before (pk b) = lessS a b := by
  show bytesBefore _ _ = _
  rw [before_less]
  unfold lessS
  rw [data_toList, data_toList]
theorem less_total {a b : ByteArray} (h : a ≠ b) : lessS a b = true ∨ lessS b a = true := by
  rw [← before_pk, ← before_pk]
  have key : ∀ x y : List UInt8, x ≠ y → bytesBefore x y = true ∨ bytesBefore y x = true := by
    intro x
    induction x with
    | nil => intro y hy; cases y with
      | nil => exact absurd rfl hy
      | cons b y => exact .inl rfl
    | cons a x ih =>
      intro y hy
      cases y with
      | nil => exact .inr rfl
      | cons b y =>
        simp only [bytesBefore, Bool.or_eq_true, decide_eq_true_eq, Bool.and_eq_true, beq_iff_eq]
        by_cases e : a = b
        · subst e
          rcases ih y (fun e => hy (by rw [e])) with h1 | h1
          · exact .inl (.inr ⟨rfl, h1⟩)
          · exact .inr (.inr ⟨rfl, h1⟩)
        · have h1 : a.toNat ≠ b.toNat := fun e' => e (UInt8.toNat_inj.1 e')
          rcases Nat.lt_or_gt_of_ne h1 with h2 | h2
          · exact .inl (.inl (UInt8.lt_iff_toNat_lt.2 h2))
          · exact .inr (.inl (UInt8.lt_iff_toNat_lt.2 h2))
  exact key _ _ (fun e => h (ByteArray.ext (Array.toList_inj.1 e)))
theorem less_irrefl (a : ByteArray) : lessS a a = false := by rw [← before_pk]; exact WideShapes.before_irrefl _
theorem less_trans {a b c : ByteArray} (h : lessS a b = true) (k : lessS b c = true) : lessS a c = true := by
  rw [← before_pk] at h k ⊢; exact WideShapes.before_trans h k
theorem less_asymm {a b : ByteArray} (h : lessS a b = true) : lessS b a = false := by
  cases k : lessS b a
  · rfl
  · have := less_trans h k; rw [less_irrefl] at this; cases this
theorem insert_ents (q : Fl) : ∀ r : List Fl, (∀ x ∈ r, x.1 ≠ q.1) → DataW.insert (pk q.1, el q.2) (ents r) = ents (r.take (putAt r q.1) ++ [q] ++ r.drop (putAt r q.1))
  | [], _ => rfl
  | y :: r, h => by
    have hy := h y (by simp)
    simp only [ents, List.map_cons, DataW.insert, before_pk, putAt, List.takeWhile_cons]
    cases hl : lessS y.1 q.1
    · have h2 : lessS q.1 y.1 = true := (less_total hy).resolve_left (by rw [hl]; decide)
      simp [h2]
    · rw [less_asymm hl]
      simp only [Bool.false_eq_true, if_false, if_true, List.length_cons, List.take_succ_cons, List.drop_succ_cons, List.cons_append, List.map_cons]
      have := insert_ents q r (fun x hx => h x (by simp [hx]))
      simp only [ents, putAt] at this
      rw [this]
theorem put_toD (l : List Fl) (q : Fl) : (toD l).put (pk q.1) (el q.2) = toD (withF l q) := by
  show DataW.map (DataW.insert (pk q.1, el q.2) ((ents l).filter fun x => !x.1.sameKey (pk q.1))) = _
  rw [filter_ents, insert_ents q _ (fun x hx => by simpa using (List.mem_filter.1 hx).2)]
  rfl
/-- by rising paths -/
def Rise (l : List Fl) : Prop := l.Pairwise fun a b => lessS a.1 b.1 = true
theorem canon_toD {l : List Fl} (h : Rise l) : Maps.Canon (toD l) := by
  refine ⟨_, rfl, ?_, ?_⟩
  · rw [ents, List.pairwise_map]
    exact h.imp fun {a b} hab => by rw [before_pk]; exact hab
  · intro p hp
    obtain ⟨q, _, rfl⟩ := List.mem_map.1 hp
    exact pk_lit _
theorem rise_toD {l : List Fl} (h : Maps.Canon (toD l)) : Rise l := by
  obtain ⟨es, e, hp, _⟩ := h
  have e : ents l = es := by injection e
  rw [← e, ents, List.pairwise_map] at hp
  exact hp.imp fun {a b} hab => by rw [← before_pk]; exact hab

/-! ### a map in memory -/
def MapAt (w : World) (m : Nat) (l : List Fl) : Prop := w.ownsMap (H := Unit) Try.prog 9 fileElem m l.length (toD l)
section
variable {w w' : World} {m : Nat} {l : List Fl}
theorem tight {H : Type} {P : Program} {k : TypeId} {R : Value → Option (DataW H × List MemPlace)} {w : World} {b n : Nat} {D : DataW H} (h : w.ownsMap P k R b n D) : w.ownsMap P k R b (Maps.size D) D := by
  obtain ⟨es, clock, hb, F, hs, rfl⟩ := h
  exact ⟨es, clock, hb, F, by simp [Maps.size, length_sorted], rfl⟩
theorem mapAt_of {n : Nat} (h : w.ownsMap (H := Unit) Try.prog 9 fileElem m n (toD l)) : MapAt w m l := by
  have := tight h
  rwa [size_toD] at this
theorem MapAt.rise (h : MapAt w m l) : Rise l := rise_toD (World.ownsMap.canon h klaw)
theorem MapAt.lt (h : MapAt w m l) : m < w.heap.size := World.ownsMap.lt h
theorem MapAt.same (h : MapAt w m l) (hs : w'.heap[m]? = w.heap[m]?) : MapAt w' m l := by
  obtain ⟨es, clock, hb, r⟩ := h
  exact ⟨es, clock, hs.trans hb, r⟩
theorem MapAt.alloc (h : MapAt w m l) (o : Obj) : MapAt (w.alloc o) m l := World.ownsMap.alloc h o
end

/-! ### plain facts on files -/
theorem find_without (l : List Fl) (p q : ByteArray) : findF (withoutF l p) q = if q = p then none else findF l q := by
  have h1 : Maps.has (toD (withoutF l p)) (pk q) = if q = p then false else Maps.has (toD l) (pk q) := by
    rw [← del_toD]
    by_cases e : q = p
    · subst e; rw [Maps.has_del_same]; simp
    · rw [Maps.has_del_other (pk_ne e)]; simp [e]
  by_cases e : q = p
  · subst e
    simp only [if_true] at h1 ⊢
    rw [has_toD] at h1
    simpa using h1
  · have h2 : ∀ z, (toD (withoutF l p)).atKey (pk q) z = (toD l).atKey (pk q) z := fun z => by rw [← del_toD, Maps.atKey_del_other (pk_ne e)]
    simp only [e, if_false, has_toD] at h1 ⊢
    have h3 := h2 .nil
    rw [at_toD, at_toD] at h3
    cases ha : findF (withoutF l p) q <;> cases hb : findF l q <;> simp [ha, hb] at h1 h3 ⊢
    exact el_inj h3
theorem find_with (l : List Fl) (x : Fl) (q : ByteArray) : findF (withF l x) q = if q = x.1 then some x.2 else findF l q := by
  by_cases e : q = x.1
  · subst e
    have h3 : (toD (withF l x)).atKey (pk x.1) .nil = el x.2 := by rw [← put_toD, Maps.atKey_put_same (D := toD l) ⟨_, rfl⟩ (pk_lit _)]
    rw [at_toD] at h3
    cases ha : findF (withF l x) x.1 with
    | none => rw [ha] at h3; cases h3
    | some t => rw [ha] at h3; simp [el_inj h3]
  · have h1 : Maps.has (toD (withF l x)) (pk q) = Maps.has (toD l) (pk q) := by rw [← put_toD, Maps.has_put_other (pk_ne e)]
    have h3 : (toD (withF l x)).atKey (pk q) .nil = (toD l).atKey (pk q) .nil := by rw [← put_toD, Maps.atKey_put_other (pk_ne e)]
    rw [has_toD, has_toD] at h1
    rw [at_toD, at_toD] at h3
    simp only [e, if_false]
    cases ha : findF (withF l x) q <;> cases hb : findF l q <;> simp [ha, hb] at h1 h3 ⊢
    exact el_inj h3
theorem taken_append (a b : List Fl) : takenF (a ++ b) = takenF a + takenF b := by simp [takenF]
theorem taken_with (l : List Fl) (x : Fl) : takenF (withF l x) = takenF (withoutF l x.1) + x.1.size + x.2.size := by
  unfold withF
  rw [taken_append, taken_append]
  have h : takenF ((withoutF l x.1).take (putAt (withoutF l x.1) x.1)) + takenF ((withoutF l x.1).drop (putAt (withoutF l x.1) x.1)) = takenF (withoutF l x.1) := by rw [← taken_append, List.take_append_drop]
  have h1 : takenF [x] = x.1.size + x.2.size := by simp [takenF]
  omega
def takes (l : List Fl) (p : ByteArray) : Nat := match findF l p with | some t => p.size + t.size | none => 0
theorem rise_tail {q : Fl} {l : List Fl} (h : Rise (q :: l)) : Rise l ∧ ∀ x ∈ l, x.1 ≠ q.1 := by
  obtain ⟨h1, h2⟩ := List.pairwise_cons.1 h
  exact ⟨h2, fun x hx e => by have := h1 x hx; rw [e, less_irrefl] at this; cases this⟩
theorem without_none {l : List Fl} {p : ByteArray} (h : ∀ x ∈ l, x.1 ≠ p) : withoutF l p = l := List.filter_eq_self.2 fun x hx => by simpa using h x hx
theorem taken_without {l : List Fl} (h : Rise l) (p : ByteArray) : takenF (withoutF l p) + takes l p = takenF l := by
  induction l with
  | nil => rfl
  | cons q l ih =>
    obtain ⟨h1, h2⟩ := rise_tail h
    have ih := ih h1
    by_cases e : q.1 = p
    · have h3 : withoutF (q :: l) p = l := by
        rw [withoutF, List.filter_cons]
        simp only [e, ne_eq, not_true, decide_false]
        exact without_none (fun x hx => by rw [← e]; exact h2 x hx)
      have h4 : takes (q :: l) p = q.1.size + q.2.size := by simp [takes, findF, e]
      rw [h3, h4]
      simp [takenF]; omega
    · have h3 : withoutF (q :: l) p = q :: withoutF l p := by
        rw [withoutF, List.filter_cons]
        simp [e, withoutF]
      have h4 : takes (q :: l) p = takes l p := by simp [takes, findF, e]
      rw [h3, h4]
      have h5 : ∀ r : List Fl, takenF (q :: r) = q.1.size + q.2.size + takenF r := fun r => by simp [takenF]
      rw [h5, h5]; omega
theorem len_without {l : List Fl} (h : Rise l) (p : ByteArray) : (withoutF l p).length + (if (findF l p).isSome then 1 else 0) = l.length := by
  induction l with
  | nil => rfl
  | cons q l ih =>
    obtain ⟨h1, h2⟩ := rise_tail h
    have ih := ih h1
    by_cases e : q.1 = p
    · have h3 : withoutF (q :: l) p = l := by
        rw [withoutF, List.filter_cons]
        simp only [e, ne_eq, not_true, decide_false]
        exact without_none (fun x hx => by rw [← e]; exact h2 x hx)
      have h4 : findF (q :: l) p = some q.2 := by simp [findF, e]
      rw [h3, h4]
      simp
    · have h3 : withoutF (q :: l) p = q :: withoutF l p := by
        rw [withoutF, List.filter_cons]
        simp [e, withoutF]
      have h4 : findF (q :: l) p = findF l p := by simp [findF, e]
      rw [h3, h4, List.length_cons, List.length_cons]
      omega
theorem len_with (l : List Fl) (x : Fl) : (withF l x).length = (withoutF l x.1).length + 1 := by
  unfold withF
  simp only [List.length_append, List.length_take, List.length_drop, List.length_cons, List.length_nil]
  omega
theorem rise_without {l : List Fl} (h : Rise l) (p : ByteArray) : Rise (withoutF l p) := List.Pairwise.filter _ h
theorem pk_kind : Maps.OneKind (fun k => ∃ p, k = pk p) := ⟨fun {_} ⟨p, e⟩ => by rw [e]; exact pk_lit p, fun {_ _} ⟨p, e⟩ ⟨q, f⟩ h => by
  subst e; subst f
  rw [before_pk, before_pk]
  exact less_total (fun e => h (by rw [e]))⟩
theorem ents_with (l : List Fl) (x : Fl) : ents (withF l x) = DataW.insert (pk x.1, el x.2) (ents (withoutF l x.1)) :=
  (insert_ents x _ (fun y hy => by simpa using (List.mem_filter.1 hy).2)).symm
theorem rise_ents {l : List Fl} : (ents l).Pairwise (fun p q => p.1.before q.1 = true) ↔ Rise l := by
  rw [ents, List.pairwise_map]
  exact ⟨fun h => h.imp fun {a b} hab => by rw [← before_pk]; exact hab, fun h => h.imp fun {a b} hab => by rw [before_pk]; exact hab⟩
theorem rise_with {l : List Fl} (h : Rise l) (x : Fl) : Rise (withF l x) := by
  rw [← rise_ents, ents_with]
  refine Maps.insert_sorted pk_kind ⟨x.1, rfl⟩ _ (rise_ents.2 (rise_without h x.1)) (fun p hp => ?_) (fun p hp => ?_)
  · obtain ⟨q, _, rfl⟩ := List.mem_map.1 hp
    exact ⟨q.1, rfl⟩
  · obtain ⟨q, hq, rfl⟩ := List.mem_map.1 hp
    exact pk_ne (by simpa using (List.mem_filter.1 hq).2)
theorem rise_done {l : List Fl} (h : Rise l) (e : Ef) : Rise (doneF l e) := by
  unfold doneF
  split
  · exact rise_with h _
  · split
    · cases findF l e.2.1 with
      | none => exact h
      | some t => exact rise_with (rise_without h _) _
    · exact rise_without h _
theorem rise_seen (rs : List Ef) : ∀ {l : List Fl}, Rise l → Rise (seenF l rs) := by
  induction rs with
  | nil => intro l h; exact h
  | cons e rs ih => intro l h; exact ih (rise_done h e)

/-! ### what effects can take -/
def wt (e : Ef) : Nat := e.2.1.size + e.2.2.size
def wts (rs : List Ef) : Nat := (rs.map wt).sum
theorem takes_some {l : List Fl} {p t : ByteArray} (h : findF l p = some t) : takes l p = p.size + t.size := by simp [takes, h]
theorem taken_done {l : List Fl} (h : Rise l) (e : Ef) : takenF (doneF l e) ≤ takenF l + wt e := by
  unfold doneF wt
  have h1 := taken_without h e.2.1
  split
  · rw [taken_with]; simp only; omega
  · split
    · cases hf : findF l e.2.1 with
      | none => simp only; omega
      | some t =>
        simp only
        rw [taken_with]
        have h2 := taken_without (rise_without h e.2.1) e.2.2
        rw [takes_some hf] at h1
        simp only
        omega
    · omega
theorem taken_seen (rs : List Ef) : ∀ {l : List Fl}, Rise l → takenF (seenF l rs) ≤ takenF l + wts rs := by
  induction rs with
  | nil => intro l h; simp [seenF, wts]
  | cons e rs ih =>
    intro l h
    have h1 := ih (rise_done h e)
    have h2 := taken_done h e
    simp only [seenF, List.foldl_cons, wts, List.map_cons, List.sum_cons] at *
    omega
end Go.Proofs.Ytdgfbpkpfmdjjaa.Hk
