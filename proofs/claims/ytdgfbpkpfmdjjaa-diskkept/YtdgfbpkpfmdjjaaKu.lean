/-
  Maps of the law's own; what a failure keeps (layer 7).
-/
import Derived.Test.YtdgfbpkpfmdjjaaKt
import Derived.Maps.StringElems
namespace Go.Proofs.Ytdgfbpkpfmdjjaa.Hk
open Go.RowKit Go.ChangeShapes Go.WideShapes Go.ChangeAt Hr Hw Ht
set_option linter.unusedVariables false

/-! ### a map of bools, a map of strings -/
def upd {α : Type} (f : ByteArray → α) (p : ByteArray) (x : α) : ByteArray → α := fun q => if q = p then x else f q
def Bm (m n : Nat) (f : ByteArray → Bool) : List Nat → World → Prop := fun F w => F = [m] ∧ ∃ D : DataW Unit, w.ownsMap Try.prog 9 (plainElem Try.prog 4) m n D ∧ ∀ p, D.atKey (pk p) (.lit (.bool false)) = .lit (.bool (f p))
def Sm (m n : Nat) (f : ByteArray → Option ByteArray) : List Nat → World → Prop := fun F w => F = [m] ∧ ∃ D : DataW Unit, w.ownsMap Try.prog 9 (plainElem Try.prog 9) m n D ∧ ∀ p, Maps.has D (pk p) = (f p).isSome ∧ ∀ z t, f p = some t → D.atKey (pk p) z = .lit (pk t)
theorem owns_same {w w' : World} {R : Value → Option (DataW Unit × List MemPlace)} {m n : Nat} {D : DataW Unit} (h : w.ownsMap Try.prog 9 R m n D) (hs : w'.heap[m]? = w.heap[m]?) : w'.ownsMap Try.prog 9 R m n D := by
  obtain ⟨es, clock, hb, r⟩ := h
  exact ⟨es, clock, hs.trans hb, r⟩
theorem bm_part (m n : Nat) (f : ByteArray → Bool) : Part (Bm m n f) := ⟨fun h k hk => by
  obtain ⟨rfl, D, h1, _⟩ := h
  obtain rfl : k = m := by simpa using hk
  exact h1.lt, fun h hs => by
  obtain ⟨rfl, D, h1, h2⟩ := h
  exact ⟨rfl, D, owns_same h1 (hs m (by simp)), h2⟩⟩
theorem sm_part (m n : Nat) (f : ByteArray → Option ByteArray) : Part (Sm m n f) := ⟨fun h k hk => by
  obtain ⟨rfl, D, h1, _⟩ := h
  obtain rfl : k = m := by simpa using hk
  exact h1.lt, fun h hs => by
  obtain ⟨rfl, D, h1, h2⟩ := h
  exact ⟨rfl, D, owns_same h1 (hs m (by simp)), h2⟩⟩
theorem turns_map {w w' : World} {m : Nat} (hg : w.grownBy w' (some m)) : Turns [m] [m] w w' := (Turns.refl [m] w).grown hg (fun k hk => by injection hk with hk; subst hk; simp)
section
variable {w1 w : World} {m n : Nat} {R : List Nat → World → Prop}
theorem bm_made (h : Holds w1 R w) (hR : Part R) : Holds w1 (Star (Bm w.heap.size 0 (fun _ => false)) R) (w.alloc (.map #[] 0)) :=
  h.add hR ((Below.refl _ w).alloc (Nat.le_refl _) _) (T := Bm w.heap.size 0 (fun _ => false)) (A := [w.heap.size]) ⟨rfl, .map [], World.ownsMap_made w Try.prog 9 _, fun p => rfl⟩ (fun k hk => by simp at hk; omega)
theorem sm_made (h : Holds w1 R w) (hR : Part R) : Holds w1 (Star (Sm w.heap.size 0 (fun _ => none)) R) (w.alloc (.map #[] 0)) :=
  h.add hR ((Below.refl _ w).alloc (Nat.le_refl _) _) (T := Sm w.heap.size 0 (fun _ => none)) (A := [w.heap.size]) ⟨rfl, .map [], World.ownsMap_made w Try.prog 9 _, fun p => ⟨rfl, fun z t h => by cases h⟩⟩ (fun k hk => by simp at hk; omega)
theorem bm_put {f : ByteArray → Bool} (h : Holds w1 (Star (Bm m n f) R) w) (hR : Part R) (hn : n ≤ 1000000) (p : ByteArray) (hp : p.size ≤ maxLen) :
    ∃ w', (Instr.mapUpdate 60 (.map (some m)) (.string p) (.bool true)).run Try.prog w = .ok () w' ∧ Holds w1 (Star (Bm m (n + 1) (upd f p true)) R) w' ∧ w.grownBy w' (some m) := by
  obtain ⟨A, ⟨rfl, D, h1, h2⟩, _, hk⟩ := h.head hR
  obtain ⟨w', hrun, ho, hg⟩ := h1.update klaw Try.underlying60 (by unfold maxLen; omega) (pk_key hp) (plainElem_bool Try.underlying4 true)
  refine ⟨w', hrun, hk (T' := Bm m (n + 1) (upd f p true)) (A' := [m]) ⟨rfl, _, ho, fun q => ?_⟩ (turns_map hg), hg⟩
  unfold upd
  by_cases e : q = p
  · subst e; rw [Maps.atKey_put_same h1.isMap (pk_lit q), if_pos rfl]
  · rw [Maps.atKey_put_other (pk_ne e), if_neg e]; exact h2 q
set_option maxRecDepth 100000 in
theorem bm_look {f : ByteArray → Bool} (h : Holds w1 (Star (Bm m n f) R) w) (hR : Part R) (p : ByteArray) (hp : p.size ≤ maxLen) : (Instr.lookup 60 (.map (some m)) (.string p) false).run Try.prog w = .ok (.bool (f p)) w := by
  obtain ⟨A, ⟨rfl, D, h1, h2⟩, _, hk⟩ := h.head hR
  obtain ⟨v, ps, hrun, hv⟩ := h1.lookup klaw Try.underlying60 (z := .bool false) (by kernel_rfl) (plainElem_bool Try.underlying4 false) (pk_key hp)
  rw [h2 p] at hv
  have e : v = .bool (f p) := by
    unfold plainElem at hv
    rw [Try.underlying4] at hv
    cases v <;> simp at hv
    rw [hv.1]
  rw [e] at hrun
  exact hrun
theorem sm_put {f : ByteArray → Option ByteArray} (h : Holds w1 (Star (Sm m n f) R) w) (hR : Part R) (hn : n ≤ 1000000) (p t : ByteArray) (hp : p.size ≤ maxLen) (ht : t.size ≤ maxLen) :
    ∃ w', (Instr.mapUpdate 58 (.map (some m)) (.string p) (.string t)).run Try.prog w = .ok () w' ∧ Holds w1 (Star (Sm m (n + 1) (upd f p (some t))) R) w' ∧ w.grownBy w' (some m) := by
  obtain ⟨A, ⟨rfl, D, h1, h2⟩, _, hk⟩ := h.head hR
  obtain ⟨w', hrun, ho, hg⟩ := h1.update klaw Try.underlying58 (by unfold maxLen; omega) (pk_key hp) (plainElem_string Try.underlying9 ht)
  refine ⟨w', hrun, hk (T' := Sm m (n + 1) (upd f p (some t))) (A' := [m]) ⟨rfl, _, ho, fun q => ?_⟩ (turns_map hg), hg⟩
  unfold upd
  by_cases e : q = p
  · subst e
    refine ⟨by rw [Maps.has_put_same h1.isMap (pk_lit q), if_pos rfl]; rfl, fun z u hu => ?_⟩
    rw [if_pos rfl] at hu
    cases hu
    exact Maps.atKey_put_same h1.isMap (pk_lit q) _ _
  · refine ⟨by rw [Maps.has_put_other (pk_ne e), if_neg e]; exact (h2 q).1, fun z u hu => ?_⟩
    rw [if_neg e] at hu
    rw [Maps.atKey_put_other (pk_ne e)]
    exact (h2 q).2 z u hu
set_option maxRecDepth 100000 in
theorem sm_look {f : ByteArray → Option ByteArray} (h : Holds w1 (Star (Sm m n f) R) w) (hR : Part R) (p t : ByteArray) (hp : p.size ≤ maxLen) (hf : f p = some t) : (Instr.lookup 58 (.map (some m)) (.string p) false).run Try.prog w = .ok (.string t) w := by
  obtain ⟨A, ⟨rfl, D, h1, h2⟩, _, hk⟩ := h.head hR
  obtain ⟨v, ps, hrun, hv⟩ := h1.lookup klaw Try.underlying58 (z := .string ByteArray.empty) (by kernel_rfl) (plainElem_string Try.underlying9 (by decide)) (pk_key hp)
  rw [(h2 p).2 _ t hf] at hv
  obtain ⟨s, rfl, e, _⟩ := plainElem_string_inv Try.underlying9 hv
  have e1 : pk t = pk s := by
    have := congrArg Prod.fst e
    injection this
  rw [← pk_inj e1] at hrun
  exact hrun
end

/-! ### what is kept -/
/-- each file has a text that was written; what nobody touched is as it was -/
def Good (L : List Fl) (wf tf : ByteArray → Bool) (l : List Fl) : Prop := (∀ p t, findF l p = some t → wf t = true) ∧ ∀ p, tf p = false → findF l p = findF L p
def OkE (wf tf : ByteArray → Bool) (e : Ef) : Prop := tf e.2.1 = true ∧ (e.1 = 1 → wf e.2.2 = true) ∧ (e.1 = 2 → tf e.2.2 = true)
theorem good_done {L : List Fl} {wf tf : ByteArray → Bool} {l : List Fl} {e : Ef} (h : Good L wf tf l) (he : OkE wf tf e) : Good L wf tf (doneF l e) := by
  obtain ⟨h1, h2⟩ := h
  obtain ⟨e1, e2, e3⟩ := he
  have ne : ∀ p q, tf p = false → tf q = true → p ≠ q := fun p q hp hq e => by rw [e, hq] at hp; cases hp
  unfold doneF
  by_cases hk : e.1 = 1
  · rw [if_pos hk]
    refine ⟨fun p t hp => ?_, fun p hp => ?_⟩
    · rw [find_with] at hp
      by_cases hq : p = e.2.1
      · rw [if_pos hq] at hp; cases hp; exact e2 hk
      · rw [if_neg hq] at hp; exact h1 p t hp
    · rw [find_with, if_neg (ne p _ hp e1)]; exact h2 p hp
  · rw [if_neg hk]
    by_cases hk2 : e.1 = 2
    · rw [if_pos hk2]
      cases hf : findF l e.2.1 with
      | none => exact ⟨h1, h2⟩
      | some u =>
        refine ⟨fun p t hp => ?_, fun p hp => ?_⟩
        · simp only [find_with, find_without] at hp
          by_cases hq : p = e.2.2
          · rw [if_pos hq] at hp; cases hp; exact h1 _ _ hf
          · rw [if_neg hq] at hp
            by_cases hr : p = e.2.1
            · rw [if_pos hr] at hp; cases hp
            · rw [if_neg hr] at hp; exact h1 p t hp
        · simp only [find_with, find_without]
          rw [if_neg (ne p _ hp (e3 hk2)), if_neg (ne p _ hp e1)]; exact h2 p hp
    · rw [if_neg hk2]
      refine ⟨fun p t hp => ?_, fun p hp => ?_⟩
      · rw [find_without] at hp
        by_cases hr : p = e.2.1
        · rw [if_pos hr] at hp; cases hp
        · rw [if_neg hr] at hp; exact h1 p t hp
      · rw [find_without, if_neg (ne p _ hp e1)]; exact h2 p hp
theorem good_keep {L : List Fl} {wf tf : ByteArray → Bool} {l : List Fl} {rs : List Ef} (h : Good L wf tf l) (he : ∀ e ∈ rs, OkE wf tf e) (keep : Int) : ∀ n, n ≤ rs.length → Good L wf tf (keepF l rs keep n)
  | 0, _ => h
  | n + 1, hn => by
    unfold keepF
    split
    · exact good_done (good_keep h he keep n (by omega)) (he _ (by rw [List.getD_eq_getElem?_getD, List.getElem?_eq_getElem (by omega)]; simp))
    · exact good_keep h he keep n (by omega)
/-- a disk on which acts come, and a cut may be armed -/
structure Kpt (L : List Fl) (wf tf : ByteArray → Bool) (n m : Nat) (d : Dsk) : Prop where
  good : Good L wf tf d.lies
  rows : ∀ e ∈ d.rows, OkE wf tf e
  down : d.down = true → d.rows = []
  len : d.lies.length + d.rows.length ≤ n
  tak : takenF d.lies + wts d.rows ≤ m
  l0 : 0 ≤ d.left
  l1 : d.left ≤ 9223372036854775807
  rise : Rise d.lies
theorem Kpt.fit {L : List Fl} {wf tf : ByteArray → Bool} {n m : Nat} {d : Dsk} (h : Kpt L wf tf n m d) (hn : n ≤ 1900) (hm : m ≤ 500000000) : Fit d := ⟨by have := h.len; omega, by have := h.tak; omega, h.l0, h.l1⟩
theorem Kpt.more {L : List Fl} {wf tf wf' tf' : ByteArray → Bool} {n m : Nat} {d : Dsk} (h : Kpt L wf tf n m d) (hw : ∀ t, wf t = true → wf' t = true) (ht : ∀ t, tf t = true → tf' t = true) : Kpt L wf' tf' n m d where
  good := ⟨fun p t hp => hw t (h.good.1 p t hp), fun p hp => h.good.2 p (by
    cases e : tf p
    · rfl
    · rw [ht p e] at hp; cases hp)⟩
  rows := fun e he => ⟨ht _ (h.rows e he).1, fun h9 => hw _ ((h.rows e he).2.1 h9), fun h9 => ht _ ((h.rows e he).2.2 h9)⟩
  down := h.down
  len := h.len
  tak := h.tak
  l0 := h.l0
  l1 := h.l1
  rise := h.rise
theorem kpt_call {L : List Fl} {wf tf : ByteArray → Bool} {n m : Nat} {d : Dsk} (h : Kpt L wf tf n m d) (hu : d.down = false) : Kpt L wf tf n m (callF d).1 := by
  have h1 := callF_small d h.rise
  have h2 := callF_left d h.l0
  refine ⟨?_, ?_, ?_, by have := h.len; omega, by have := h.tak; omega, h2.1, by have := h.l1; omega, h1.2.2.2⟩
  · unfold callF
    split
    · exact h.good
    · split
      · exact h.good
      · exact good_keep h.good h.rows d.keep _ (Nat.min_le_left _ _)
  · unfold callF
    split
    · exact h.rows
    · split
      · exact h.rows
      · intro e he; cases he
  · unfold callF
    split
    · intro h9; rw [hu] at h9; cases h9
    · split
      · intro h9; rw [show d.down = false from hu] at h9; cases h9
      · intro _; rfl
theorem kpt_do {L : List Fl} {wf tf : ByteArray → Bool} {n m : Nat} {d : Dsk} (h : Kpt L wf tf n m d) (hu : d.down = false) (e : Ef) (he : OkE wf tf e) : Kpt L wf tf (n + 1) (m + wt e) (doF d e).1 := by
  have hm : Kpt L wf tf (n + 1) (m + wt e) d := ⟨h.good, h.rows, h.down, by have := h.len; omega, by have := h.tak; omega, h.l0, h.l1, h.rise⟩
  rcases doF_cases d e with h1 | h1
  · rw [h1]; exact hm
  · rw [h1]
    refine kpt_call (d := { d with rows := d.rows ++ [e] }) ⟨h.good, fun x hx => ?_, (fun h9 => by rw [show d.down = false from hu] at h9; cases h9), ?_, ?_, h.l0, h.l1, h.rise⟩ hu
    · rcases List.mem_append.1 hx with hx | hx
      · exact h.rows x hx
      · obtain rfl : x = e := by simpa using hx
        exact he
    · have := h.len; simp only [List.length_append, List.length_singleton]; omega
    · have := h.tak; simp only [wts_append, wts_one]; omega
theorem kpt_arm {L : List Fl} {wf tf : ByteArray → Bool} {n m : Nat} {d : Dsk} (h : Kpt L wf tf n m d) (at_ keep : Int) (hat : at_ ≤ 9223372036854775807) : Kpt L wf tf n m (armF d at_ keep) := by
  refine ⟨h.good, h.rows, h.down, h.len, h.tak, ?_, ?_, h.rise⟩
  · show 0 ≤ (if at_ < 1 then 0 else at_)
    split <;> omega
  · show (if at_ < 1 then 0 else at_) ≤ 9223372036854775807
    split <;> omega
/-- the power fails at a sync -/
theorem kpt_cut {L : List Fl} {wf tf : ByteArray → Bool} {n m : Nat} {d : Dsk} (h : Kpt L wf tf n m d) (hu : d.down = false) (keep : Int) : (syncF (armF d 1 keep)).2 = 8 ∧ Kpt L wf tf n m (syncF (armF d 1 keep)).1 ∧ (syncF (armF d 1 keep)).1.rows = [] := by
  have h1 := kpt_arm h 1 keep (by omega)
  have h2 := kpt_call h1 hu
  have hc : callF (armF d 1 keep) = _ := callF_one (d := armF d 1 keep) rfl
  have hs : syncF (armF d 1 keep) = ((callF (armF d 1 keep)).1, 8) := by
    unfold syncF
    rw [if_neg (by show ¬ d.down = true; rw [hu]; decide), if_pos (by rw [hc])]
  rw [hs]
  exact ⟨rfl, h2, by rw [hc]⟩
theorem path_size {l : List Fl} (hr : Rise l) {p t : ByteArray} (h : findF l p = some t) : p.size ≤ takenF l ∧ t.size ≤ takenF l := by
  have h1 := takes_le hr p
  rw [takes_some h] at h1
  omega
theorem calm_kpt {room : Int} {n m : Nat} {d : Dsk} (h : Calm room n m d) (hr : d.rows = []) {wf tf : ByteArray → Bool} (hw : ∀ p t, findF d.lies p = some t → wf t = true) : Kpt d.lies wf tf n m d :=
  ⟨⟨hw, fun _ _ => rfl⟩, (fun e he => by rw [hr] at he; cases he), fun _ => hr, h.len, h.tak, by rw [h.left]; omega, by rw [h.left]; omega, h.rise⟩
theorem begins_empty (p : ByteArray) : beginsB p ByteArray.empty = true := begins_yes (Nat.zero_le _) (ByteArray.size_eq_zero_iff.1 (by rw [ByteArray.size_extract]; have : ByteArray.empty.size = 0 := rfl; omega))
theorem found_list {L : List Fl} {p t : ByteArray} (h : findF L p = some t) : p ∈ listF L ByteArray.empty := by
  unfold listF
  unfold findF at h
  obtain ⟨x, hx, _⟩ := Option.map_eq_some_iff.1 h
  have h1 := List.mem_of_find?_eq_some hx
  have h2 := List.find?_some hx
  exact List.mem_map.2 ⟨x, List.mem_filter.2 ⟨h1, begins_empty _⟩, by simpa using h2⟩
theorem bm_lt {w1 w : World} {m n : Nat} {f : ByteArray → Bool} {R : List Nat → World → Prop} (h : Holds w1 (Star (Bm m n f) R) w) : m < w.heap.size := by
  obtain ⟨F, ⟨A, B, _, _, ⟨_, D, h1, _⟩, _⟩, _, _⟩ := h
  exact h1.lt
/-- an iterator of the law's own -/
def Ig (r : Nat) : List Nat → World → Prop := fun F w => F = [r] ∧ r < w.heap.size
theorem ig_same {r : Nat} {w w' : World} (h : r < w.heap.size) (hs : w'.heap[r]? = w.heap[r]?) : r < w'.heap.size := by
  rw [Array.getElem?_eq_getElem h] at hs
  exact (Array.getElem?_eq_some_iff.1 hs).1
theorem ig_part (r : Nat) : Part (Ig r) := ⟨fun h k hk => by
  obtain ⟨rfl, h1⟩ := h
  obtain rfl : k = r := by simpa using hk
  exact h1, fun h hs => by
  obtain ⟨rfl, h1⟩ := h
  exact ⟨rfl, ig_same h1 (hs r (by simp))⟩⟩
theorem ig_turn {w1 w w' : World} {r : Nat} {R : List Nat → World → Prop} (h : Holds w1 (Star (Ig r) R) w) (hR : Part R) (hg : w.grownBy w' (some r)) : Holds w1 (Star (Ig r) R) w' := by
  obtain ⟨A, ⟨rfl, h1⟩, _, hk⟩ := h.head hR
  exact hk (T' := Ig r) (A' := [r]) ⟨rfl, Nat.lt_of_lt_of_le h1 hg.size⟩ (turns_map hg)
/-- a range over a map of strings comes to the next one -/
theorem wpList_next_str (w : World) {ops : Array Oper} {rest : List Oper} {o : Oper} {a : Go.Act} {Q : Exit → Go.Act → World → Prop} (hg : o.guard = none) (it : Operand) (hop : o.op = Op.next it false) (N R n : Nat) (D : DataW Unit) (left : Lit → Bool) (cnt : Nat)
    (hit : a.eval it = .pointer (some ⟨R, 0, none⟩)) (h : w.ranges (H := Unit) Try.prog 9 (plainElem Try.prog 9) N R n D left cnt)
    (hDone : wpList Try.prog ops Q rest (a.put o.dst (.tuple #[.bool false])) w)
    (hMore : ∀ (p t : ByteArray) (w' : World) (left' : Lit → Bool) (cnt' : Nat), p.size ≤ maxLen → Maps.has D (pk p) = true → w'.ranges (H := Unit) Try.prog 9 (plainElem Try.prog 9) N R n D left' cnt' → cnt' < cnt →
      w.grownBy w' (some R) → (Instr.entry (.pointer (some ⟨R, 0, none⟩))).run Try.prog w' = .ok (.tuple #[.string p, .string t]) w' → wpList Try.prog ops Q rest (a.put o.dst (.tuple #[.bool true, .string p, .string t])) w') :
    wpList Try.prog ops Q (o :: rest) a w :=
  wpList_next_ranges w hg it hop 9 klaw (plainElem Try.prog 9) Value.string Value.string (fun key kl hkey => by obtain ⟨p, rfl, _⟩ := pk_key_inv hkey; exact ⟨p, rfl⟩) (fun v y hv => by obtain ⟨t, rfl, _⟩ := plainElem_string_inv Try.underlying9 hv; exact ⟨t, rfl⟩)
    N R n D left cnt hit h (fun _ _ => hDone) (fun p t kl y w' cnt' hkey hlk hv hat hrg hlt hgr hsz hen => by
      obtain ⟨p', e, rfl, hpl⟩ := pk_key_inv hkey
      obtain rfl : p = p' := by injection e
      exact hMore p t w' _ cnt' hpl (Maps.has_true_of_atKey hat) hrg hlt hgr hen)
set_option maxRecDepth 100000 in
theorem open_cut {H : Type} {enc : TypeId × Value → H} {W : World} {base : Nat} {v : Value} {d : DataW H} {ps : List MemPlace} (hok : Value.okWide Try.prog W .any base 33 v)
    (h : DataW.Trod enc Try.prog W 0 (fun _ => true) true 33 v d ps) : ∃ a b : Int, v = .agg #[.int .i64 a, .int .u64 b] ∧ (Lit.int .i64 a).wf = true ∧ (Lit.int .u64 b).wf = true := by
  obtain ⟨A, rfl, hsz⟩ := WideShapes.okWide_struct Try.underlying33 hok
  obtain ⟨fuel, hf⟩ := h
  obtain ⟨xs, m, _, _, hl, hxl, hi⟩ := DataW.trod_struct Try.underlying33 hf
  have hc : (Value.agg A).cells = A := rfl
  rw [c33] at hsz
  rw [hc] at hi
  have hxl3 : xs.length = 2 := hxl
  have g0 := hi 0 _ rfl
  have g1 := hi 1 _ rfl
  rw [List.getElem?_eq_getElem (by omega)] at g0 g1
  obtain ⟨a, ha, _, wa⟩ := DataW.trod_int Try.underlying3 g0
  obtain ⟨b, hb, _, wb⟩ := DataW.trod_int Try.underlying31 g1
  change (A.toList.drop 0).take (Try.prog.cellsOf 3) = _ at ha
  change (A.toList.drop 1).take (Try.prog.cellsOf 31) = _ at hb
  rw [c3] at ha
  rw [c31] at hb
  refine ⟨a, b, congrArg Value.agg ?_, wa, wb⟩
  obtain ⟨l⟩ := A
  match l, hsz with
  | [x, y], _ =>
    simp at ha hb
    rw [ha, hb]
end Go.Proofs.Ytdgfbpkpfmdjjaa.Hk
