/-
  The program's disk: the power fails (layer 7).
-/
import Derived.Test.YtdgfbpkpfmdjjaaKc
import Derived.Test.YtdgfbpkpfmdjjaaLad
namespace Go.Proofs.Ytdgfbpkpfmdjjaa.Hk
open Go.RowKit Hr Hw Ht
set_option linter.unusedVariables false

/-- a disk in block b, its maps in ml, ms, its first effects at A -/
def RawIs (w : World) (b : Nat) (s : Raw) (ml ms : Nat) (A : Option Addr) (c : Nat) : Prop :=
  w.heap[b]? = some (.cells (rcells s ml ms A c) 73 (0, 0)) ∧ MapAt w ml s.lie ∧ MapAt w ms s.seen ∧
    w.ownsRow 0 80 4 (.slice A s.first.length c) s.first.length (s.first.flatMap gcells) ∧ Dist b ml ms (.slice A s.first.length c)
section
variable {w w' : World} {b ml ms : Nat} {s s' : Raw} {A : Option Addr} {c : Nat} {F : List Nat}
theorem RawIs.at (h : RawIs w b s ml ms A c) : RawAt w b s (foot b ml ms (.slice A s.first.length c)) := by
  obtain ⟨hb, h1, h2, h3, h4⟩ := h
  exact ⟨ml, ms, A, c, hb, h1, h2, h3, h4, rfl⟩
theorem RawAt.is (h : RawAt w b s F) : ∃ ml ms A c, RawIs w b s ml ms A c ∧ F = foot b ml ms (.slice A s.first.length c) := by
  obtain ⟨ml, ms, A, c, hb, h1, h2, h3, h4, rfl⟩ := h
  exact ⟨ml, ms, A, c, ⟨hb, h1, h2, h3, h4⟩, rfl⟩
theorem RawIs.lies (h : RawIs w b s ml ms A c) : Lies (foot b ml ms (.slice A s.first.length c)) w := h.at.lies
theorem RawIs.same (h : RawIs w b s ml ms A c) (hs : Same (foot b ml ms (.slice A s.first.length c)) w w') : RawIs w' b s ml ms A c := by
  obtain ⟨hb, h1, h2, h3, h4⟩ := h
  exact ⟨(hs b (foot_mem.2 (.inl rfl))).trans hb, h1.same (hs ml (foot_mem.2 (.inr (.inl rfl)))), h2.same (hs ms (foot_mem.2 (.inr (.inr (.inl rfl))))), ownsRow_same h3 (fun k hk => hs k (foot_mem.2 (.inr (.inr (.inr hk))))), h4⟩
theorem RawIs.below (h : RawIs w b s ml ms A c) (hb : Below w.heap.size w w') : RawIs w' b s ml ms A c := h.same (same_of_below hb h.lies)
theorem RawIs.set (h : RawIs w b s ml ms A c) (i : Nat) (v : Value) (s' : Raw) (hl : s'.lie = s.lie) (hse : s'.seen = s.seen) (hf : s'.first = s.first) (hc : (rcells s ml ms A c).setIfInBounds i v = rcells s' ml ms A c) : RawIs (w.setCell ⟨b, i, none⟩ v) b s' ml ms A c := by
  obtain ⟨hb, h1, h2, h3, h4⟩ := h
  have h5 := h4
  obtain ⟨e1, e2, e3, e4⟩ := h4
  have hs : ∀ k, k ≠ b → (w.setCell ⟨b, i, none⟩ v).heap[k]? = w.heap[k]? := fun k hk => Below.heap_setCell _ _ _ _ hk
  refine ⟨by rw [heap_setCell_cells hb, hc], ?_, ?_, ?_, ?_⟩
  · rw [hl]; exact h1.same (hs ml (Ne.symm e1))
  · rw [hse]; exact h2.same (hs ms (Ne.symm e2))
  · rw [hf]; exact ownsRow_same h3 (fun k hk => hs k (e4 k hk).1)
  · rw [hf]; exact h5
/-- the map of what lies there has turned -/
theorem RawIs.lieTo (h : RawIs w b s ml ms A c) {L : List Fl} (hm : MapAt w' ml L) (ht : Turns [ml] [ml] w w') : RawIs w' b { s with lie := L } ml ms A c := by
  have hl := h.lies
  obtain ⟨hb, h1, h2, h3, h4⟩ := h
  have h5 := h4
  obtain ⟨e1, e2, e3, e4⟩ := h4
  have hs : ∀ k, k ∈ foot b ml ms (.slice A s.first.length c) → k ≠ ml → w'.heap[k]? = w.heap[k]? := fun k hk hn => ht.block k (hl k hk) (by simpa using hn)
  exact ⟨(hs b (foot_mem.2 (.inl rfl)) e1).trans hb, hm, h2.same (hs ms (foot_mem.2 (.inr (.inr (.inl rfl)))) (Ne.symm e3)), ownsRow_same h3 (fun k hk => hs k (foot_mem.2 (.inr (.inr (.inr hk)))) (e4 k hk).2.1), h5⟩
theorem RawIs.seenTo (h : RawIs w b s ml ms A c) {L : List Fl} (hm : MapAt w' ms L) (ht : Turns [ms] [ms] w w') : RawIs w' b { s with seen := L } ml ms A c := by
  have hl := h.lies
  obtain ⟨hb, h1, h2, h3, h4⟩ := h
  have h5 := h4
  obtain ⟨e1, e2, e3, e4⟩ := h4
  have hs : ∀ k, k ∈ foot b ml ms (.slice A s.first.length c) → k ≠ ms → w'.heap[k]? = w.heap[k]? := fun k hk hn => ht.block k (hl k hk) (by simpa using hn)
  exact ⟨(hs b (foot_mem.2 (.inl rfl)) e2).trans hb, h1.same (hs ml (foot_mem.2 (.inr (.inl rfl))) e3), hm, ownsRow_same h3 (fun k hk => hs k (foot_mem.2 (.inr (.inr (.inr hk)))) (e4 k hk).2.2), h5⟩
theorem RawIs.nine (h : RawIs w b s ml ms A c) : Nine w b s ml ms A c := Hk.nine h.1
theorem RawIs.lt (h : RawIs w b s ml ms A c) : b < w.heap.size := h.at.lt
theorem RawIs.unf (h : RawIs w b s ml ms A c) (i : Nat) : w.frozen? ⟨b, i, none⟩ = false := unfrozen_of_cells h.1 i
theorem own_nil (w : World) (e : TypeId) (k : Nat) : w.ownsRow 0 e k (.slice none 0 0) 0 [] := ⟨by simp, .inl ⟨rfl, rfl⟩⟩
/-- none of the effects waits any more -/
theorem RawIs.clear (h : RawIs w b s ml ms A c) : RawIs (w.setCell ⟨b, 4, none⟩ (.slice none 0 0)) b { s with first := [] } ml ms none 0 := by
  obtain ⟨hb, h1, h2, h3, e1, e2, e3, e4⟩ := h
  have hs : ∀ k, k ≠ b → (w.setCell ⟨b, 4, none⟩ (.slice none 0 0)).heap[k]? = w.heap[k]? := fun k hk => Below.heap_setCell _ _ _ _ hk
  exact ⟨by rw [heap_setCell_cells hb]; rfl, h1.same (hs ml (Ne.symm e1)), h2.same (hs ms (Ne.symm e2)), own_nil _ _ _, e1, e2, e3, fun g hg => by cases hg⟩
/-- another map is what is seen -/
theorem RawIs.seenNew (h : RawIs w b s ml ms A c) {N : Nat} {L : List Fl} (hm : MapAt w N L) (hN : ∀ k, k ∈ foot b ml ms (.slice A s.first.length c) → k ≠ N) : RawIs (w.setCell ⟨b, 2, none⟩ (.map (some N))) b { s with seen := L } ml N A c := by
  obtain ⟨hb, h1, h2, h3, e1, e2, e3, e4⟩ := h
  have hs : ∀ k, k ≠ b → (w.setCell ⟨b, 2, none⟩ (.map (some N))).heap[k]? = w.heap[k]? := fun k hk => Below.heap_setCell _ _ _ _ hk
  have n1 := hN b (foot_mem.2 (.inl rfl))
  have n2 := hN ml (foot_mem.2 (.inr (.inl rfl)))
  exact ⟨by rw [heap_setCell_cells hb]; rfl, h1.same (hs ml (Ne.symm e1)), hm.same (hs N (Ne.symm n1)), ownsRow_same h3 (fun k hk => hs k (e4 k hk).1), e1, n1, n2, fun g hg => ⟨(e4 g hg).1, (e4 g hg).2.1, hN g (foot_mem.2 (.inr (.inr (.inr hg))))⟩⟩
/-- another map is what lies there -/
theorem RawIs.lieNew (h : RawIs w b s ml ms A c) {N : Nat} {L : List Fl} (hm : MapAt w N L) (hN : ∀ k, k ∈ foot b ml ms (.slice A s.first.length c) → k ≠ N) : RawIs (w.setCell ⟨b, 1, none⟩ (.map (some N))) b { s with lie := L } N ms A c := by
  obtain ⟨hb, h1, h2, h3, e1, e2, e3, e4⟩ := h
  have hs : ∀ k, k ≠ b → (w.setCell ⟨b, 1, none⟩ (.map (some N))).heap[k]? = w.heap[k]? := fun k hk => Below.heap_setCell _ _ _ _ hk
  have n1 := hN b (foot_mem.2 (.inl rfl))
  have n2 := hN ms (foot_mem.2 (.inr (.inr (.inl rfl))))
  exact ⟨by rw [heap_setCell_cells hb]; rfl, hm.same (hs N (Ne.symm n1)), h2.same (hs ms (Ne.symm e2)), ownsRow_same h3 (fun k hk => hs k (e4 k hk).1), n1, e2, Ne.symm n2, fun g hg => ⟨(e4 g hg).1, hN g (foot_mem.2 (.inr (.inr (.inr hg)))), (e4 g hg).2.2⟩⟩
/-- a block that isn't the disk's has turned -/
theorem RawIs.grown (h : RawIs w b s ml ms A c) {r : Nat} (hg : w.grownBy w' (some r)) (hr : ∀ k, k ∈ foot b ml ms (.slice A s.first.length c) → k ≠ r) : RawIs w' b s ml ms A c :=
  h.same (fun k hk => hg.block k (h.lies k hk) (fun e => hr k hk (by injection e)))
theorem RawIs.recs (h : RawIs w b s ml ms A c) : Recs 4 gcells w w.heap.size A s.first := by
  obtain ⟨A', c', e, _, hr⟩ := recs_own gcells_len (by omega) h.2.2.2.1
  injection e with e1 _ e2
  rw [e1]; exact hr
end
theorem turns_new {F F' : List Nat} {a b c : World} {r : Nat} (h : Turns F F' a b) (hg : b.grownBy c (some r)) (hr : a.heap.size ≤ r) : Turns F F' a c :=
  ⟨hg.os.trans h.os, hg.tape.trans h.tape, hg.output.trans h.output, Nat.le_trans h.size hg.size, fun k hk hn => (hg.block k (Nat.lt_of_lt_of_le hk h.size) (fun e => by injection e with e; omega)).trans (h.block k hk hn), h.foot⟩
theorem clone_any (w : World) (m : Nat) (l : List Fl) (h : MapAt w m l) : Calls Try.prog 39 #[.map (some m)] w fun r w' => r = .returned (.map (some w.heap.size)) ∧ MapAt w' w.heap.size l ∧ MapAt w' m l ∧ Below w.heap.size w w' :=
  Go.Proofs.AnyW.maps_Clone_owns Try.cloneA 9 fileElem m _ (toD l) w h

/-- a range over files comes to the next one -/
theorem wpList_next_file (w : World) {ops : Array Oper} {rest : List Oper} {o : Oper} {a : Go.Act} {Q : Exit → Go.Act → World → Prop} (hg : o.guard = none) (it : Operand) (hop : o.op = Op.next it false) (N R n : Nat) (L : List Fl) (left : Lit → Bool) (cnt : Nat)
    (hit : a.eval it = .pointer (some ⟨R, 0, none⟩)) (h : w.ranges (H := Unit) Try.prog 9 fileElem N R n (toD L) left cnt)
    (hDone : (∀ kl, left kl = false) → wpList Try.prog ops Q rest (a.put o.dst (.tuple #[.bool false])) w)
    (hMore : ∀ (p t : ByteArray) (w' : World) (cnt' : Nat), p.size ≤ maxLen → left (pk p) = true → findF L p = some t → w'.ranges (H := Unit) Try.prog 9 fileElem N R n (toD L) (fun z => left z && !z.sameKey (pk p)) cnt' → cnt' < cnt →
      w.grownBy w' (some R) → w'.heap.size = w.heap.size → (Instr.entry (.pointer (some ⟨R, 0, none⟩))).run Try.prog w' = .ok (.tuple #[.string p, .agg #[.string t]]) w' → wpList Try.prog ops Q rest (a.put o.dst (.tuple #[.bool true, .string p, .agg #[.string t]])) w') :
    wpList Try.prog ops Q (o :: rest) a w :=
  wpList_next_ranges w hg it hop 9 klaw fileElem Value.string (fun t => Value.agg #[.string t]) (fun key kl hkey => by obtain ⟨p, rfl, _⟩ := pk_key_inv hkey; exact ⟨p, rfl⟩) (fun v y hv => by obtain ⟨t, rfl, _⟩ := fileElem_inv hv; exact ⟨t, rfl⟩)
    N R n (toD L) left cnt hit h (fun _ hl => hDone hl) (fun p t kl y w' cnt' hkey hlk hv hat hrg hlt hgr hsz hen => by
      obtain ⟨p', e, rfl, hpl⟩ := pk_key_inv hkey
      obtain rfl : p = p' := by injection e
      obtain ⟨t', e', rfl, htl⟩ := fileElem_inv hv
      have e' : #[Value.string t] = #[Value.string t'] := by injection e'
      obtain rfl : t = t' := by simpa using e'
      refine hMore p t w' cnt' hpl hlk ?_ hrg hlt hgr hsz hen
      have h9 := hat .nil
      rw [at_toD] at h9
      cases hf : findF L p with
      | none => rw [hf] at h9; cases h9
      | some u => rw [hf] at h9; rw [el_inj h9])

/-! ### what is told of what has come -/
def come (L : List Fl) (left : Lit → Bool) : List Fl := L.filter fun q => !left (pk q.1)
theorem come_start (L : List Fl) : come L (Maps.has (toD L)) = [] := by
  unfold come
  rw [List.filter_eq_nil_iff]
  intro q hq
  rw [has_toD]
  have : (findF L q.1).isSome = true := by
    unfold findF
    rw [Option.isSome_map, List.find?_isSome]
    exact ⟨q, hq, by simp⟩
  simp [this]
theorem come_end (L : List Fl) {left : Lit → Bool} (h : ∀ k, left k = false) : come L left = L := by
  unfold come
  rw [List.filter_eq_self]
  intro q _
  simp [h]
theorem come_taken {L : List Fl} (hr : Rise L) {left : Lit → Bool} {p : ByteArray} (hl : left (pk p) = true) : takenF (come L (fun z => left z && !z.sameKey (pk p))) = takenF (come L left) + takes L p := by
  induction L with
  | nil => rfl
  | cons q L ih =>
    obtain ⟨h1, h2⟩ := rise_tail hr
    have ih := ih h1
    have h5 : ∀ r : List Fl, takenF (q :: r) = q.1.size + q.2.size + takenF r := fun r => by simp [takenF]
    by_cases e : q.1 = p
    · have h3 : come (q :: L) left = come L left := by
        unfold come
        rw [List.filter_cons, e, hl]
        simp
      have h4 : come (q :: L) (fun z => left z && !z.sameKey (pk p)) = q :: come L (fun z => left z && !z.sameKey (pk p)) := by
        unfold come
        rw [List.filter_cons, e]
        simp [WideAt.sameKey_self (pk_lit p)]
      have h6 : takes L p = 0 := by
        have : findF L p = none := by
          unfold findF
          rw [Option.map_eq_none_iff, List.find?_eq_none]
          intro x hx
          have := h2 x hx
          rw [e] at this
          simpa using this
        simp [takes, this]
      have h7 : takes (q :: L) p = q.1.size + q.2.size := by simp [takes, findF, e]
      rw [h3, h4, h5, h7]
      omega
    · have h6 : takes (q :: L) p = takes L p := by simp [takes, findF, e]
      have h8 : (pk q.1).sameKey (pk p) = false := Maps.sameKey_ne (pk_ne e)
      rw [h6]
      cases hq : left (pk q.1)
      · have h3 : come (q :: L) left = q :: come L left := by
          unfold come
          rw [List.filter_cons, hq]
          simp
        have h4 : come (q :: L) (fun z => left z && !z.sameKey (pk p)) = q :: come L (fun z => left z && !z.sameKey (pk p)) := by
          unfold come
          rw [List.filter_cons]
          simp [hq]
        rw [h3, h4, h5, h5]
        omega
      · have h3 : come (q :: L) left = come L left := by
          unfold come
          rw [List.filter_cons, hq]
          simp
        have h4 : come (q :: L) (fun z => left z && !z.sameKey (pk p)) = come L (fun z => left z && !z.sameKey (pk p)) := by
          unfold come
          rw [List.filter_cons]
          simp [hq, h8]
        rw [h3, h4]
        exact ih
theorem come_le (L : List Fl) (left : Lit → Bool) : takenF (come L left) ≤ takenF L := by
  induction L with
  | nil => exact Nat.le_refl _
  | cons q L ih =>
    have h5 : ∀ r : List Fl, takenF (q :: r) = q.1.size + q.2.size + takenF r := fun r => by simp [takenF]
    unfold come at *
    rw [List.filter_cons]
    split
    · rw [h5, h5]; omega
    · rw [h5]; omega
theorem takes_le {L : List Fl} (hr : Rise L) (p : ByteArray) : takes L p ≤ takenF L := by have := taken_without hr p; omega
end Go.Proofs.Ytdgfbpkpfmdjjaa.Hk
