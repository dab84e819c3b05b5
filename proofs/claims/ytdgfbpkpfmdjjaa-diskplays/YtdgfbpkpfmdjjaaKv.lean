/-
  What DiskPlays holds in memory (layer 7): both disks, the law's own variables; what stays small, whatever is cut.
-/
import Derived.Test.YtdgfbpkpfmdjjaaKt
import Derived.Test.YtdgfbpkpfmdjjaaVk
namespace Go.Proofs.Ytdgfbpkpfmdjjaa.Hk
open Go.RowKit Hr Hw Ht
set_option linter.unusedVariables false

/-- what stays small along a row of calls -/
structure Sml (n m : Nat) (d : Dsk) : Prop where
  rise : Rise d.lies
  len : d.lies.length + d.rows.length ≤ n
  tak : takenF d.lies + wts d.rows ≤ m
  l0 : 0 ≤ d.left
  l1 : d.left ≤ 9223372036854775807
  k0 : 0 ≤ d.keep
  k1 : d.keep < 18446744073709551616
theorem Sml.fit {n m : Nat} {d : Dsk} (h : Sml n m d) (hn : n ≤ 1900) (hm : m ≤ 500000000) : Fit d := ⟨by have := h.len; omega, by have := h.tak; omega, h.l0, h.l1⟩
theorem Sml.mono {n m n' m' : Nat} {d : Dsk} (h : Sml n m d) (hn : n ≤ n') (hm : m ≤ m') : Sml n' m' d := ⟨h.rise, by have := h.len; omega, by have := h.tak; omega, h.l0, h.l1, h.k0, h.k1⟩
theorem sml_new (room : Int) : Sml 0 0 (newD room) := ⟨List.Pairwise.nil, Nat.le_refl _, Nat.le_refl _, Int.le_refl _, by show (0 : Int) ≤ _; omega, Int.le_refl _, by show (0 : Int) < _; omega⟩
theorem sml_do {n m : Nat} {d : Dsk} (h : Sml n m d) (e : Ef) : Sml (n + 1) (m + wt e) (doF d e).1 := by
  obtain ⟨s1, s2, s3, s4, s5, s6⟩ := doF_small d e h.rise h.l0
  refine ⟨?_, by have := h.len; omega, by have := h.tak; omega, s4, by have := h.l1; omega, by rw [s6]; exact h.k0, by rw [s6]; exact h.k1⟩
  rcases doF_cases d e with h9 | h9
  · rw [h9]; exact h.rise
  · rw [h9]; exact (callF_small { d with rows := d.rows ++ [e] } h.rise).2.2.2
theorem sml_sync {n m : Nat} {d : Dsk} (h : Sml n m d) : Sml n m (syncF d).1 := by
  obtain ⟨s1, s2, s3, s4, s5, s6⟩ := syncF_small d h.rise h.l0
  refine ⟨?_, by have := h.len; omega, by have := h.tak; omega, s4, by have := h.l1; omega, by rw [s6]; exact h.k0, by rw [s6]; exact h.k1⟩
  unfold syncF
  split
  · exact h.rise
  · split
    · exact (callF_small d h.rise).2.2.2
    · exact rise_seen d.rows h.rise
theorem sml_act {n m : Nat} {d : Dsk} (h : Sml n m d) (k : Int) (p t : ByteArray) (at_ keep : Int) (hz : p.size + t.size ≤ 15000) (hat : at_ ≤ 9223372036854775807) (hk0 : 0 ≤ keep) (hk1 : keep < 18446744073709551616) : Sml (n + 1) (m + 15000) (actF d (k, p, t, at_, keep)) := by
  unfold actF
  simp only
  split
  · have hw : wt (k, p, t) = p.size + t.size := rfl
    exact (sml_do h (k, p, t)).mono (Nat.le_refl _) (by omega)
  · split
    · exact (sml_sync h).mono (by omega) (by omega)
    · split
      · refine ⟨h.rise, by have := h.len; show d.lies.length + d.rows.length ≤ _; omega, by have := h.tak; show takenF d.lies + wts d.rows ≤ _; omega, ?_, ?_, hk0, hk1⟩
        · show 0 ≤ if at_ < 1 then 0 else at_
          split <;> omega
        · show (if at_ < 1 then 0 else at_) ≤ _
          split <;> omega
      · split
        · exact ⟨h.rise, by have := h.len; show d.lies.length + d.rows.length ≤ _; omega, by have := h.tak; show takenF d.lies + wts d.rows ≤ _; omega, h.l0, h.l1, h.k0, h.k1⟩
        · exact h.mono (by omega) (by omega)

/-- both disks, the document's variable, what List answered, the act -/
abbrev All (v : Value) (d : Dsk) (bm : Nat) (X : Obj) (v5 : Value) (l5 : List ByteArray) (b : Nat) (d2 : Dsk) (k : Nat) (Y : Obj) : List Nat → World → Prop :=
  Star (Dm v d) (Star (Bx bm X) (Star (Rs v5 l5) (Star (Dk b d2) (Star (Bx k Y) Emp))))
section
variable {w1 w w' : World} {v v' : Value} {d d' d2 : Dsk} {bm b k : Nat} {X Y : Obj} {v5 : Value} {l5 : List ByteArray}
theorem tail_part : Part (Star (Bx bm X) (Star (Rs v5 l5) (Star (Dk b d2) (Star (Bx k Y) Emp)))) := (bx_part bm X).star ((rs_part v5 l5).star ((dk_part b d2).star ((bx_part k Y).star emp_part)))
theorem all_part : Part (All v d bm X v5 l5 b d2 k Y) := (dm_part v d).star tail_part
theorem start_part : Part (Star (Dk b d2) (Star (Dm v d) (Star (Bx bm X) Emp))) := (dk_part b d2).star ((dm_part v d).star ((bx_part bm X).star emp_part))
theorem imp_back3 {T U V R : List Nat → World → Prop} : Imp (Star V (Star T (Star U R))) (Star T (Star U (Star V R))) := imp_swap.trans (imp_tail imp_swap)
theorem all_of (h : Holds w1 (Star (Rs v5 l5) (Star (Dk b d2) (Star (Dm v d) (Star (Bx bm X) (Star (Bx k Y) Emp))))) w) : Holds w1 (All v d bm X v5 l5 b d2 k Y) w := h.imp (imp3.trans (imp_tail imp3))
/-- without the row and the act -/
theorem all_back (h : Holds w1 (All v d bm X v5 l5 b d2 k Y) w) : Holds w1 (Star (Dk b d2) (Star (Dm v d) (Star (Bx bm X) Emp))) w := by
  have h1 : Holds w1 (Star (Rs v5 l5) (Star (Dm v d) (Star (Bx bm X) (Star (Dk b d2) (Star (Bx k Y) Emp))))) w := h.imp imp3
  have h2 : Holds w1 (Star (Dk b d2) (Star (Dm v d) (Star (Bx bm X) (Star (Bx k Y) Emp)))) w := h1.tail.imp imp3
  have h3 : Holds w1 (Star (Bx k Y) (Star (Dk b d2) (Star (Dm v d) (Star (Bx bm X) Emp)))) w := h2.imp ((imp_tail imp3).trans imp_swap)
  exact h3.tail
theorem bx_at {R : List Nat → World → Prop} (h : Holds w1 (Star (Bx bm X) R) w) : w.heap[bm]? = some X := by
  obtain ⟨F, ⟨rfl, h1⟩, _⟩ := h.first
  exact h1
theorem all_bm (h : Holds w1 (All v d bm X v5 l5 b d2 k Y) w) : w.heap[bm]? = some X := bx_at h.tail
theorem all_k (h : Holds w1 (All v d bm X v5 l5 b d2 k Y) w) : w.heap[k]? = some Y := bx_at h.tail.tail.tail.tail
theorem all_dk (h : Holds w1 (All v d bm X v5 l5 b d2 k Y) w) : Holds w1 (Star (Dk b d2) (Star (Bx k Y) Emp)) w := h.tail.tail.tail
theorem all_rs (h : Holds w1 (All v d bm X v5 l5 b d2 k Y) w) : Holds w1 (Star (Rs v5 l5) (Star (Dk b d2) (Star (Bx k Y) Emp))) w := h.tail.tail
theorem all_step (h : Holds w1 (All v d bm X v5 l5 b d2 k Y) w) (hb : Below w.heap.size w w') (hk : DkV w' w'.heap.size v' d') (hin : InG w v d v' d') : Holds w1 (All v' d' bm X v5 l5 b d2 k Y) w' := dm_step h tail_part hb hk hin
theorem turns_row (w : World) (g : Nat) (Z : Array Value) : Turns [g] [g] w (w.setRow g Z) := ⟨rfl, rfl, rfl, by rw [setRow_size]; exact Nat.le_refl _, fun j _ hn => setRow_other _ _ _ _ (fun e => hn (by simp [e])), fun _ h => .inl h⟩
theorem turns_cell (w : World) (g i : Nat) (u : Value) : Turns [g] [g] w (w.setCell ⟨g, i, none⟩ u) := (Turns.refl [g] w).setCell (p := ⟨g, i, none⟩) (by simp) u
/-- the document's variable is stored -/
theorem all_put {C : Array Value} {t : TypeId} (h : Holds w1 (All v d bm (.cells C t) v5 l5 b d2 k Y) w) (Z : Array Value) : Holds w1 (All v d bm (.cells Z t) v5 l5 b d2 k Y) (w.setRow bm Z) := by
  have h1 : Holds w1 (Star (Bx bm (.cells C t)) (Star (Dm v d) (Star (Rs v5 l5) (Star (Dk b d2) (Star (Bx k Y) Emp))))) w := h.imp imp_swap
  obtain ⟨A, ⟨rfl, hA⟩, _, hk⟩ := h1.head ((dm_part v d).star ((rs_part v5 l5).star ((dk_part b d2).star ((bx_part k Y).star emp_part))))
  exact (hk (T' := Bx bm (.cells Z t)) (A' := [bm]) ⟨rfl, setRow_heap _ _ _ _ _ _ hA⟩ (turns_row w bm Z)).imp imp_swap
theorem all_set {C : Array Value} {t : TypeId} (h : Holds w1 (All v d bm (.cells C t) v5 l5 b d2 k Y) w) (i : Nat) (u : Value) : Holds w1 (All v d bm (.cells (C.setIfInBounds i u) t) v5 l5 b d2 k Y) (w.setCell ⟨bm, i, none⟩ u) := by
  have h1 : Holds w1 (Star (Bx bm (.cells C t)) (Star (Dm v d) (Star (Rs v5 l5) (Star (Dk b d2) (Star (Bx k Y) Emp))))) w := h.imp imp_swap
  obtain ⟨A, ⟨rfl, hA⟩, _, hk⟩ := h1.head ((dm_part v d).star ((rs_part v5 l5).star ((dk_part b d2).star ((bx_part k Y).star emp_part))))
  exact (hk (T' := Bx bm (.cells (C.setIfInBounds i u) t)) (A' := [bm]) ⟨rfl, heap_setCell_cells hA i u⟩ (turns_cell w bm i u)).imp imp_swap
/-- the document's disk is another one, of the same slices -/
theorem all_turn {Al : Option Addr} {cl : Nat} {Ar : Option Addr} {cr : Nat} (h : Holds w1 (All (.agg (dcells Al cl Ar cr d)) d bm X v5 l5 b d2 k Y) w) (hl : d'.lies = d.lies) (hr : d'.rows = d.rows) : Holds w1 (All (.agg (dcells Al cl Ar cr d')) d' bm X v5 l5 b d2 k Y) w := by
  obtain ⟨Al', cl', Ar', cr', e, h1⟩ := dm_turn h tail_part hl hr
  injection e with e
  have e2 : dcells Al' cl' Ar' cr' d' = dcells Al cl Ar cr d' := by
    unfold dcells at e ⊢
    have e9 := congrArg Array.toList e
    simp only [List.cons.injEq, Value.slice.injEq, and_true, true_and] at e9
    obtain ⟨⟨a1, a2⟩, a3, a4⟩ := e9
    rw [a1, a2, a3, a4]
  rw [← e2]
  exact h1
end
section
variable {w1 w : World} {d d2 : Dsk} {bm b k : Nat} {X Y : Obj} {v5 : Value} {l5 : List ByteArray} {Al : Option Addr} {cl : Nat} {Ar : Option Addr} {cr : Nat} {n m : Nat}
abbrev dV (Al : Option Addr) (cl : Nat) (Ar : Option Addr) (cr : Nat) (d : Dsk) : Value := .agg (dcells Al cl Ar cr d)
theorem all_dv (h : Holds w1 (All (dV Al cl Ar cr d) d bm X v5 l5 b d2 k Y) w) : DkV w w.heap.size (dV Al cl Ar cr d) d := dm_dk h
/-- the document's calls beside all that -/
theorem all_do (h : Holds w1 (All (dV Al cl Ar cr d) d bm X v5 l5 b d2 k Y) w) (hs : Sml n m d) (hn : n ≤ 1900) (hm : m ≤ 500000000) (K : Int) (p t : ByteArray) (hz : p.size + t.size ≤ 15000) :
    Calls Try.prog 13 #[dV Al cl Ar cr d, .agg #[.int .i64 K, .string p, .string t]] w fun r w' => ∃ Al' cl' Ar' cr', r = .returned (.tuple #[dV Al' cl' Ar' cr' (doF d (K, p, t)).1, .int .i64 (doF d (K, p, t)).2]) ∧ Holds w1 (All (dV Al' cl' Ar' cr' (doF d (K, p, t)).1) (doF d (K, p, t)).1 bm X v5 l5 b d2 k Y) w' := by
  have h1 := taken_done (rise_seen d.rows hs.rise) (K, p, t)
  have h2 := taken_seen d.rows hs.rise
  have h3 := hs.len
  have h4 := hs.tak
  have hw : wt (K, p, t) = p.size + t.size := rfl
  refine (do_g w w.heap.size _ d (K, p, t) (all_dv h) (Nat.le_refl _) hs.l0 hs.l1 (by omega) hs.k0 hs.k1 (by unfold maxLen; simp only; omega) (by unfold maxLen; simp only; omega) (by omega)).mono ?_
  rintro r w' ⟨⟨v', rfl, hdn, hin⟩, hb⟩
  have hk := hdn.dk
  have ha := all_step h hb hk hin
  obtain ⟨Al', cl', Ar', cr', rfl, _, _⟩ := hk
  exact ⟨Al', cl', Ar', cr', rfl, ha⟩
theorem all_sync (h : Holds w1 (All (dV Al cl Ar cr d) d bm X v5 l5 b d2 k Y) w) (hs : Sml n m d) (hn : n ≤ 1900) :
    Calls Try.prog 14 #[dV Al cl Ar cr d] w fun r w' => ∃ Al' cl' Ar' cr', r = .returned (.tuple #[dV Al' cl' Ar' cr' (syncF d).1, .int .i64 (syncF d).2]) ∧ Holds w1 (All (dV Al' cl' Ar' cr' (syncF d).1) (syncF d).1 bm X v5 l5 b d2 k Y) w' := by
  have h3 := hs.len
  refine (sync_g w w.heap.size _ d (all_dv h) (Nat.le_refl _) hs.l0 hs.l1 (by omega) hs.k0 hs.k1).mono ?_
  rintro r w' ⟨⟨v', rfl, hdn, hin⟩, hb⟩
  have hk := hdn.dk
  have ha := all_step h hb hk hin
  obtain ⟨Al', cl', Ar', cr', rfl, _, _⟩ := hk
  exact ⟨Al', cl', Ar', cr', rfl, ha⟩
theorem all_arm (h : Holds w1 (All (dV Al cl Ar cr d) d bm X v5 l5 b d2 k Y) w) (at_ keep : Int) :
    Calls Try.prog 15 #[dV Al cl Ar cr d, .agg #[.int .i64 at_, .int .u64 keep]] w fun r w' => ∃ Al' cl' Ar' cr', r = .returned (dV Al' cl' Ar' cr' (armF d at_ keep)) ∧ Holds w1 (All (dV Al' cl' Ar' cr' (armF d at_ keep)) (armF d at_ keep) bm X v5 l5 b d2 k Y) w' := by
  refine (arm_g w w.heap.size _ d at_ keep (all_dv h) (Nat.le_refl _)).mono ?_
  rintro r w' ⟨⟨v', rfl, hdn, hin⟩, hb⟩
  have hk := hdn.dk
  have ha := all_step h hb hk hin
  obtain ⟨Al', cl', Ar', cr', rfl, _, _⟩ := hk
  exact ⟨Al', cl', Ar', cr', rfl, ha⟩
theorem doc_seen (h : Holds w1 (All (dV Al cl Ar cr d) d bm X v5 l5 b d2 k Y) w) (hs : Sml n m d) (hn : n ≤ 1900) :
    Calls Try.prog 17 #[dV Al cl Ar cr d] w fun r w' => ∃ A2 c2, r = .returned (.slice A2 (seenF d.lies d.rows).length c2) ∧ Fls w' w'.heap.size A2 (seenF d.lies d.rows) ∧ Holds w1 (All (dV Al cl Ar cr d) d bm X v5 l5 b d2 k Y) w' ∧ Below w.heap.size w w' := by
  have h3 := hs.len
  refine (seen_any w w.heap.size _ d (all_dv h) (Nat.le_refl _) (by omega)).mono ?_
  rintro r w' ⟨⟨A2, c2, rfl, hf, _⟩, hb⟩
  exact ⟨A2, c2, rfl, hf, h.below all_part hb, hb⟩
theorem seen_small (hs : Sml n m d) (hn : n ≤ 1900) (hm : m ≤ 500000000) : (seenF d.lies d.rows).length ≤ 1900 ∧ takenF (seenF d.lies d.rows) ≤ 500000000 := by
  have h1 := seenF_len d.rows d.lies
  have h2 := taken_seen d.rows hs.rise
  have h3 := hs.len
  have h4 := hs.tak
  omega
/-- at the start: both disks, new -/
theorem start_of {w3 w4 : World} {room : Int} (h : Holds w1 (Star (Dk b (newD room)) Emp) w3) (hb : Below w3.heap.size w3 w4) (Al : Option Addr) (cl : Nat) (Ar : Option Addr) (cr : Nat) :
    Holds w1 (Star (Dk b (newD room)) (Star (Dm (dV Al cl Ar cr (newD room)) (newD room)) (Star (Bx w4.heap.size (.cells (dcells Al cl Ar cr (newD room)) 35)) Emp))) (w4.alloc (.cells (dcells Al cl Ar cr (newD room)) 35)) := by
  have h1 := h.below ((dk_part b _).star emp_part) hb
  have h2 : Holds w1 (Star (Bx w4.heap.size (.cells (dcells Al cl Ar cr (newD room)) 35)) (Star (Dk b (newD room)) Emp)) (w4.alloc (.cells (dcells Al cl Ar cr (newD room)) 35)) :=
    h1.add ((dk_part b _).star emp_part) ((Below.refl _ w4).alloc (Nat.le_refl _) _) (T := Bx w4.heap.size _) (A := [w4.heap.size]) ⟨rfl, heap_alloc_new w4 _⟩ (fun k hk => by simp at hk; omega)
  have h3 := dm_new (d := newD room) h2 ((bx_part _ _).star ((dk_part b _).star emp_part)) (Below.refl _ _) rfl rfl Al cl Ar cr
  exact h3.imp imp3
/-- the act in a variable of its own -/
theorem act_of (h : Holds w1 (Star (Dk b d2) (Star (Dm (dV Al cl Ar cr d) d) (Star (Bx bm X) Emp))) w) (Y : Obj) : Holds w1 (Star (Dk b d2) (Star (Dm (dV Al cl Ar cr d) d) (Star (Bx bm X) (Star (Bx w.heap.size Y) Emp)))) (w.alloc Y) := by
  have h2 : Holds w1 (Star (Bx w.heap.size Y) (Star (Dk b d2) (Star (Dm (dV Al cl Ar cr d) d) (Star (Bx bm X) Emp)))) (w.alloc Y) :=
    h.add start_part ((Below.refl _ w).alloc (Nat.le_refl _) _) (T := Bx w.heap.size Y) (A := [w.heap.size]) ⟨rfl, heap_alloc_new w _⟩ (fun k hk => by simp at hk; omega)
  exact h2.imp (imp_swap.trans (imp_tail (imp_swap.trans (imp_tail imp_swap))))
theorem act_part : Part (Star (Dm (dV Al cl Ar cr d) d) (Star (Bx bm X) (Star (Bx k Y) Emp))) := (dm_part _ d).star ((bx_part bm X).star ((bx_part k Y).star emp_part))
theorem actL_len (hs : Sml n m d) (hn : n ≤ 1900) (hm : m ≤ 500000000) (a : Ac) : (actL d a).length ≤ 100000 := by
  unfold actL
  split
  · unfold listD
    split
    · exact Nat.zero_le _
    · have h1 := (seen_small hs hn hm).1
      have h2 := listF_len (seenF d.lies d.rows) a.2.1
      omega
  · exact Nat.zero_le _
theorem info_d (Al : Option Addr) (cl : Nat) (Ar : Option Addr) (cr : Nat) (d : Dsk) : (Try.prog.info? 35).map (·.size) = some (dcells Al cl Ar cr d).size := by
  have h : (Try.prog.info? 35).map (·.size) = some 7 := by kernel_rfl
  exact h
theorem one_d (Al : Option Addr) (cl : Nat) (Ar : Option Addr) (cr : Nat) (d : Dsk) : (dcells Al cl Ar cr d).all (·.oneCell') = true := by simp [dcells, Value.oneCell']
theorem size_d (Al : Option Addr) (cl : Nat) (Ar : Option Addr) (cr : Nat) (d : Dsk) (Al' : Option Addr) (cl' : Nat) (Ar' : Option Addr) (cr' : Nat) (d' : Dsk) : (dcells Al cl Ar cr d).size = (dcells Al' cl' Ar' cr' d').size := rfl
theorem sts_nil (w : World) (B : Nat) (A : Option Addr) : Sts w B A [] := recs_nil w B A
/-- 'down' is taken back -/
theorem all_up (h : Holds w1 (All (dV Al cl Ar cr d) d bm (.cells (dcells Al cl Ar cr d) 35) v5 l5 b d2 k Y) w) :
    Holds w1 (All (dV Al cl Ar cr { d with down := false }) { d with down := false } bm (.cells (dcells Al cl Ar cr { d with down := false }) 35) v5 l5 b d2 k Y) (w.setCell ⟨bm, 3, none⟩ (.bool false)) :=
  all_set (all_turn h (d' := { d with down := false }) rfl rfl) 3 (.bool false)
end
end Go.Proofs.Ytdgfbpkpfmdjjaa.Hk
