/-
  The functions that the laws of layer 6 hand to Walk.
-/
import Derived.Test.YtmfejibllhccaaaXh
namespace Go.Proofs.Ytmfejibllhccaaa.Hx
open Go.RowKit Hw
set_option linter.unusedVariables false

/-! ### one that holds edges -/
/-- nothing below B has turned since W0 -/
def JE (W0 : World) (B : Nat) (out : List Int) (S : List Nat) (w : World) : Prop := S = List.range B ∧ B ≤ w.heap.size ∧ ∀ k, k < B → w.heap[k]? = W0.heap[k]?
theorem je_lies {W0 : World} {B : Nat} {out : List Int} {S : List Nat} {w : World} (h : JE W0 B out S w) : Lies S w := fun k hk => by
  obtain ⟨rfl, hB, _⟩ := h
  have := List.mem_range.1 hk
  omega
theorem je_same {W0 : World} {B : Nat} {out : List Int} {S : List Nat} {w w' : World} (h : JE W0 B out S w) (hs : Same S w w') : JE W0 B out S w' := by
  obtain ⟨rfl, hB, hk⟩ := h
  refine ⟨rfl, ?_, fun k hk1 => (hs k (List.mem_range.2 hk1)).trans (hk k hk1)⟩
  cases B with
  | zero => exact Nat.zero_le _
  | succ b =>
    have h1 := hs b (List.mem_range.2 (Nat.lt_succ_self b))
    have h2 : b < w.heap.size := by omega
    rw [Array.getElem?_eq_getElem h2] at h1
    exact (Array.getElem?_eq_some_iff.1 h1).1
theorem cell_low {W0 w : World} {B : Nat} (h : ∀ k, k < B → w.heap[k]? = W0.heap[k]?) {p : Addr} (hp : p.block < B) : w.cell? p = W0.cell? p := World.cell?_of_block (w := W0) (h p.block hp)
theorem prs_low {W0 w : World} {B B' : Nat} {A : Option Addr} {l : List (Int × Int)} (h : Prs W0 B' A l) (hB : B' ≤ B) (hk : ∀ k, k < B → w.heap[k]? = W0.heap[k]?) : Prs w B' A l := fun i hi => by
  obtain ⟨ad, e, hlt, hc, hd⟩ := h i hi
  exact ⟨ad, e, hlt, (cell_low hk (by rw [block_of_add]; omega)).trans hc, (cell_low hk (by show (ad.add (i * 2)).block < B; rw [block_of_add]; omega)).trans hd⟩
theorem ints_low {W0 w : World} {B B' : Nat} {A : Option Addr} {l : List Int} (h : Ints W0 B' A l) (hB : B' ≤ B) (hk : ∀ k, k < B → w.heap[k]? = W0.heap[k]?) : Ints w B' A l := fun i hi => by
  obtain ⟨ad, e, hlt, hc⟩ := h i hi
  exact ⟨ad, e, hlt, (cell_low hk (by rw [block_of_add]; omega)).trans hc⟩

set_option maxHeartbeats 1000000 in
set_option maxRecDepth 100000 in
theorem callR (w : World) (bE B : Nat) (Ae : Option Addr) (ce : Nat) (es : List (Int × Int)) (k : Int) (hE : w.cell? ⟨bE, 0, none⟩ = some (.slice Ae es.length ce)) (hes : Prs w B Ae es) (hB : B ≤ w.heap.size) (hel : es.length ≤ 200) :
    Calls Try.prog 27 #[.int .i64 k, .pointer (some ⟨bE, 0, none⟩)] w fun e w' => (∃ A2 c2, e = .returned (.tuple #[.slice A2 (nexts es k).length c2, .bool true]) ∧ Ints w' w'.heap.size A2 (nexts es k) ∧ ∀ ad, A2 = some ad → w.heap.size ≤ ad.block ∧ ad.block < w'.heap.size) ∧ Below w.heap.size w w' := by
  have HN := Lib.hid (next_new w B Ae none ce 0 es [] k hes (fun i hi => by cases hi) hB (by omega) (by simp))
  clear hes
  go_enter Try.func27, Try.ntmps27
  go_wp2_with fail
  refine HN.out.mono ?_
  rintro e w2 ⟨⟨A2, c2, rfl, hin, hnw⟩, hb⟩
  have HH := Lib.hid (And.intro hin (And.intro hnw hb))
  clear hin hnw hb HN
  go_wp2
  go_ret2
  first | exact ⟨⟨A2, c2, rfl, HH.out.1, HH.out.2.1⟩, HH.out.2.2⟩ | exact ⟨⟨A2, ⟨c2, rfl⟩, HH.out.1, HH.out.2.1⟩, HH.out.2.2⟩ | exact ⟨⟨A2, ⟨c2, by simp⟩, HH.out.1, HH.out.2.1⟩, HH.out.2.2⟩
set_option maxHeartbeats 1000000 in
set_option maxRecDepth 100000 in
theorem callO (w : World) (bE B : Nat) (Ae : Option Addr) (ce : Nat) (es : List (Int × Int)) (k : Int) (hE : w.cell? ⟨bE, 0, none⟩ = some (.slice Ae es.length ce)) (hes : Prs w B Ae es) (hB : B ≤ w.heap.size) (hel : es.length ≤ 200) :
    Calls Try.prog 28 #[.int .i64 k, .pointer (some ⟨bE, 0, none⟩)] w fun e w' => (∃ A2 c2, e = .returned (.tuple #[.slice A2 (nexts es k).length c2, .bool true]) ∧ Ints w' w'.heap.size A2 (nexts es k) ∧ ∀ ad, A2 = some ad → w.heap.size ≤ ad.block ∧ ad.block < w'.heap.size) ∧ Below w.heap.size w w' := by
  have HN := Lib.hid (next_new w B Ae none ce 0 es [] k hes (fun i hi => by cases hi) hB (by omega) (by simp))
  clear hes
  go_enter Try.func28, Try.ntmps28
  go_wp2_with fail
  refine HN.out.mono ?_
  rintro e w2 ⟨⟨A2, c2, rfl, hin, hnw⟩, hb⟩
  have HH := Lib.hid (And.intro hin (And.intro hnw hb))
  clear hin hnw hb HN
  go_wp2
  go_ret2
  first | exact ⟨⟨A2, c2, rfl, HH.out.1, HH.out.2.1⟩, HH.out.2.2⟩ | exact ⟨⟨A2, ⟨c2, rfl⟩, HH.out.1, HH.out.2.1⟩, HH.out.2.2⟩ | exact ⟨⟨A2, ⟨c2, by simp⟩, HH.out.1, HH.out.2.1⟩, HH.out.2.2⟩
theorem je_call {W0 : World} {B : Nat} {out : List Int} {S : List Nat} {w w' : World} {es : List (Int × Int)} {k : Int} {e : Ending} (h : JE W0 B out S w)
    (hc : (∃ A2 c2, e = .returned (.tuple #[.slice A2 (nexts es k).length c2, .bool true]) ∧ Ints w' w'.heap.size A2 (nexts es k) ∧ ∀ ad, A2 = some ad → w.heap.size ≤ ad.block ∧ ad.block < w'.heap.size) ∧ Below w.heap.size w w') :
    ∃ A c S', e = .returned (.tuple #[.slice A (nexts es k).length c, .bool (!decide (k ∈ ([] : List Int)))]) ∧ Ints w' w'.heap.size A (nexts es k) ∧ (∀ ad, A = some ad → w.heap.size ≤ ad.block ∧ ad.block < w'.heap.size ∧ ad.block ∉ S') ∧ JE W0 B (out ++ [k]) S' w' ∧ Turns S S' w w' := by
  obtain ⟨⟨A2, c2, rfl, hin, hnw⟩, hb⟩ := hc
  have h2 := je_same h (same_of_below hb (je_lies h))
  refine ⟨A2, c2, S, by simp, hin, fun ad ha => ⟨(hnw ad ha).1, (hnw ad ha).2, fun e => by have := je_lies h _ e; have := (hnw ad ha).1; omega⟩, h2, turns_below S hb⟩
theorem okR {W0 : World} {U : List Int} {es : List (Int × Int)} {bE B' B : Nat} {Ae : Option Addr} {ce : Nat} (hE : W0.cell? ⟨bE, 0, none⟩ = some (.slice Ae es.length ce)) (hbE : bE < B) (hes : Prs W0 B' Ae es) (hB : B' ≤ B) (hel : es.length ≤ 200) :
    NextOk U es [] 27 #[.pointer (some ⟨bE, 0, none⟩)] (JE W0 B) where
  enters := enters_of Try.func27 (by kernel_rfl) rfl
  lies := je_lies
  same := je_same
  call := fun out S w k hJ _ _ => (callR w bE B' Ae ce es k ((cell_low hJ.2.2 hbE).trans hE) (prs_low hes hB hJ.2.2) (Nat.le_trans hB hJ.2.1) hel).mono fun e w' h => je_call hJ h
theorem okO {W0 : World} {U : List Int} {es : List (Int × Int)} {bE B' B : Nat} {Ae : Option Addr} {ce : Nat} (hE : W0.cell? ⟨bE, 0, none⟩ = some (.slice Ae es.length ce)) (hbE : bE < B) (hes : Prs W0 B' Ae es) (hB : B' ≤ B) (hel : es.length ≤ 200) :
    NextOk U es [] 28 #[.pointer (some ⟨bE, 0, none⟩)] (JE W0 B) where
  enters := enters_of Try.func28 (by kernel_rfl) rfl
  lies := je_lies
  same := je_same
  call := fun out S w k hJ _ _ => (callO w bE B' Ae ce es k ((cell_low hJ.2.2 hbE).trans hE) (prs_low hes hB hJ.2.2) (Nat.le_trans hB hJ.2.1) hel).mono fun e w' h => je_call hJ h

/-! ### one that tells what it was asked of -/
/-- block a holds what was asked; nothing below it has turned since W0 -/
def JW (W0 : World) (a : Nat) (out : List Int) (S : List Nat) (w : World) : Prop :=
  ∃ v t, S = List.range (a + 1) ++ v.ownBlock.toList ∧ a + 1 ≤ w.heap.size ∧ (∀ k, k < a → w.heap[k]? = W0.heap[k]?) ∧ w.heap[a]? = some (.cells #[v] t (0, 0)) ∧ w.ownsRow (a + 1) 3 1 v out.length (intCells out)
theorem jw_lies {W0 : World} {a : Nat} {out : List Int} {S : List Nat} {w : World} (h : JW W0 a out S w) : Lies S w := fun k hk => by
  obtain ⟨v, t, rfl, hB, _, _, ho⟩ := h
  rcases List.mem_append.1 hk with hk | hk
  · have := List.mem_range.1 hk; omega
  · exact (ho.lt k (by simpa using hk)).2
theorem jw_same {W0 : World} {a : Nat} {out : List Int} {S : List Nat} {w w' : World} (h : JW W0 a out S w) (hs : Same S w w') : JW W0 a out S w' := by
  obtain ⟨v, t, rfl, hB, hk, ha, ho⟩ := h
  have hr : ∀ k, k < a + 1 → w'.heap[k]? = w.heap[k]? := fun k hk => hs k (List.mem_append_left _ (List.mem_range.2 hk))
  have ha' := (hr a (by omega)).trans ha
  exact ⟨v, t, rfl, (Array.getElem?_eq_some_iff.1 ha').1, fun k hk1 => (hr k (by omega)).trans (hk k hk1), ha', ownsRow_same ho (fun k hk => hs k (List.mem_append_right _ (by simp [hk])))⟩

set_option maxHeartbeats 1000000 in
set_option maxRecDepth 100000 in
theorem callW {W0 : World} {a bE bB B' : Nat} {Ae Ab : Option Addr} {ce cb : Nat} {es : List (Int × Int)} {bs : List Int} (hE : W0.cell? ⟨bE, 0, none⟩ = some (.slice Ae es.length ce)) (hbE : bE < a) (hb : W0.cell? ⟨bB, 0, none⟩ = some (.slice Ab bs.length cb)) (hbB : bB < a) (hes : Prs W0 B' Ae es) (hbs : Ints W0 B' Ab bs) (hB : B' ≤ a) (hel : es.length ≤ 200) (hbl : bs.length ≤ 200)
    (out : List Int) (S : List Nat) (w : World) (k : Int) (hJ : JW W0 a out S w) (hol : out.length ≤ 1000) :
    Calls Try.prog 23 #[.int .i64 k, .pointer (some ⟨a, 0, none⟩), .pointer (some ⟨bE, 0, none⟩), .pointer (some ⟨bB, 0, none⟩)] w fun e w' => ∃ A c S', e = .returned (.tuple #[.slice A (nexts es k).length c, .bool (!decide (k ∈ bs))]) ∧ Ints w' w'.heap.size A (nexts es k) ∧ (∀ ad, A = some ad → w.heap.size ≤ ad.block ∧ ad.block < w'.heap.size ∧ ad.block ∉ S') ∧ JW W0 a (out ++ [k]) S' w' ∧ Turns S S' w w' := by
  obtain ⟨i0, hi0, hz0, hz1, hz2⟩ := info_parts info3
  have HI := Lib.hid (And.intro hi0 (And.intro hz0 (And.intro hz1 hz2)))
  clear hi0 hz0 hz1 hz2
  obtain ⟨v, t, rfl, hsz, hlow, ha, ho⟩ := hJ
  have c0 : w.cell? ⟨a, 0, none⟩ = some v := by rw [cell_of_cells ha]; rfl
  obtain ⟨A, c, rfl⟩ := own_slice ho
  have hne : (Value.slice A out.length c).ownBlock ≠ some a := fun e => by have := (ho.lt a e).1; omega
  have HO := Lib.hid (And.intro ho (And.intro ha (And.intro hne hlow)))
  have HE := Lib.hid (And.intro hE (And.intro hb (And.intro hes hbs)))
  clear ho ha hne hlow hE hb hes hbs
  go_enter Try.func23, Try.ntmps23
  go_wp2_with (at_builtin; refine wpList_append_own_at _ rfl (.tmp 7) (.tmp 9) 26 rfl (a + 1) 3 i0 _ 1 8 Try.underlying26 HI.out.1 HI.out.2.1 HI.out.2.2.1 HI.out.2.2.2 rfl (by omega) (.slice A out.length c) out.length (intCells out) rfl (HO.out.1.alloc _) ⟨w.heap.size, 0, none⟩ 1 1 [.int .i64 k] rfl rfl (World.news_of_block (cs := #[.int .i64 k]) (t := 3) (fr := (0, 0)) (heap_alloc_new w _)) (by simp [Value.oneCell']) (by unfold maxLen; omega) (by omega) (by simp; omega) ?_; intro v1 wA hoA hgA hnA hatA; obtain ⟨g', cap', rfl⟩ := own_succ hoA; have hbA : wA.heap[a]? = some (.cells #[.slice A out.length c] t) := (hgA.block a (by simp; omega) (fun e => HO.out.2.2.1 e.symm)).trans ((Below.heap_alloc _ _ _ (by omega)).trans HO.out.2.1); have hcA : wA.cell? ⟨a, 0, none⟩ = some (.slice A out.length c) := (by rw [cell_of_cells hbA]; rfl); have hfA : wA.frozen? ⟨a, 0, none⟩ = false := unfrozen_of_cells hbA 0; have hlA : ∀ k, k < a → wA.heap[k]? = W0.heap[k]? := fun k hk => ((hgA.block k (by simp; omega) (fun e => by have := (HO.out.1.lt k e.symm).1; omega)).trans (Below.heap_alloc _ _ _ (by omega))).trans (HO.out.2.2.2 k hk); have HT := Lib.hid (And.intro hoA (And.intro hgA (And.intro hatA (And.intro hbA hlA)))); have cE : wA.cell? ⟨bE, 0, none⟩ = some (.slice Ae es.length ce) := (cell_low hlA hbE).trans HE.out.1; have cB : wA.cell? ⟨bB, 0, none⟩ = some (.slice Ab bs.length cb) := (cell_low hlA hbB).trans HE.out.2.1; have hdE : (⟨bE, 0, none⟩ : Addr) ≠ ⟨a, 0, none⟩ := (fun e => by injection e; omega); clear hoA hgA hnA hatA hbA hlA)
  obtain ⟨hoA, hgA, hatA, hbA, hlA⟩ := HT.out
  have hga : a + 1 ≤ g' := (hoA.lt g' rfl).1
  have hlS : ∀ k, k < a → (wA.setCell ⟨a, 0, none⟩ (.slice (some ⟨g', 0, none⟩) (out.length + 1) cap')).heap[k]? = W0.heap[k]? := fun k hk => (Below.heap_setCell _ _ _ _ (by show k ≠ a; omega)).trans (hlA k hk)
  have hbS := heap_setCell_cells hbA 0 (.slice (some ⟨g', 0, none⟩) (out.length + 1) cap')
  have hoS : (wA.setCell ⟨a, 0, none⟩ (.slice (some ⟨g', 0, none⟩) (out.length + 1) cap')).ownsRow (a + 1) 3 1 (.slice (some ⟨g', 0, none⟩) (out.length + 1) cap') (out ++ [k]).length (intCells (out ++ [k])) := by
    refine ownsRow_same (w := wA) ?_ (fun j hj => ?_)
    · rw [List.length_append, intCells, List.map_append]; exact hoA
    · simp [Value.ownBlock] at hj; subst hj; exact Below.heap_setCell _ _ _ _ (by show g' ≠ a; omega)
  have hzS : (wA.setCell ⟨a, 0, none⟩ (.slice (some ⟨g', 0, none⟩) (out.length + 1) cap')).heap.size = wA.heap.size := by simp [World.setCell]
  have hszA : w.heap.size + 1 ≤ wA.heap.size := by have := hgA.size; simpa using this
  have huS : Turns (List.range (a + 1) ++ (Value.slice A out.length c).ownBlock.toList) (List.range (a + 1) ++ [g']) w (wA.setCell ⟨a, 0, none⟩ (.slice (some ⟨g', 0, none⟩) (out.length + 1) cap')) := by
    refine ((((Turns.refl (List.range (a + 1) ++ (Value.slice A out.length c).ownBlock.toList) w).alloc _).grown hgA (fun j hj => by simp [hj])).setCell (p := ⟨a, 0, none⟩) (by simp) _).to ?_
    intro j hj
    rcases List.mem_append.1 hj with hj | hj
    · exact .inl (List.mem_append_left _ hj)
    · obtain rfl : j = g' := by simpa using hj
      rcases hatA with h | h
      · exact .inl (List.mem_append_right _ (by rw [← h]; simp [Value.ownBlock]))
      · simp [Value.ownBlock] at h
        exact .inr (by omega)
  generalize wA.setCell ⟨a, 0, none⟩ (.slice (some ⟨g', 0, none⟩) (out.length + 1) cap') = wS at *
  have HS := Lib.hid (And.intro hlS (And.intro hbS (And.intro hoS huS)))
  refine (next_new wS B' Ae Ab ce cb es bs k (prs_low HE.out.2.2.1 hB hlS) (ints_low HE.out.2.2.2 hB hlS) (by omega) (by omega) (by omega)).mono ?_
  rintro e w2 ⟨⟨A2, c2, rfl, hin, hnw⟩, hb2⟩
  have HH := Lib.hid (And.intro hin (And.intro hnw hb2))
  clear hin hnw hb2 hoA hgA hatA hbA hlA hlS hbS hoS huS HT hcA hfA cE cB c0
  go_wp2
  go_ret2
  obtain ⟨hin, hnw, hb2⟩ := HH.out
  obtain ⟨hlS, hbS, hoS, huS⟩ := HS.out
  have hz2 := hb2.size
  have hgS : g' < wS.heap.size := (hoS.lt g' rfl).2
  refine ⟨A2, c2, List.range (a + 1) ++ [g'], by simp, hin, fun ad ha => ⟨by have := (hnw ad ha).1; omega, (hnw ad ha).2, fun e => ?_⟩, ⟨_, t, rfl, by omega, fun j hj => (hb2.block j (by omega)).trans (hlS j hj), (hb2.block a (by omega)).trans hbS, ownsRow_same hoS (fun j hj => hb2.block j ((hoS.lt j hj).2))⟩, huS.trans (turns_below _ hb2)⟩
  have := (hnw ad ha).1
  rcases List.mem_append.1 e with e | e
  · have := List.mem_range.1 e; omega
  · simp at e; omega
theorem okW {W0 : World} {U : List Int} {a bE bB B' : Nat} {Ae Ab : Option Addr} {ce cb : Nat} {es : List (Int × Int)} {bs : List Int} (hE : W0.cell? ⟨bE, 0, none⟩ = some (.slice Ae es.length ce)) (hbE : bE < a) (hb : W0.cell? ⟨bB, 0, none⟩ = some (.slice Ab bs.length cb)) (hbB : bB < a) (hes : Prs W0 B' Ae es) (hbs : Ints W0 B' Ab bs) (hB : B' ≤ a) (hel : es.length ≤ 200) (hbl : bs.length ≤ 200) :
    NextOk U es bs 23 #[.pointer (some ⟨a, 0, none⟩), .pointer (some ⟨bE, 0, none⟩), .pointer (some ⟨bB, 0, none⟩)] (JW W0 a) where
  enters := enters_of Try.func23 (by kernel_rfl) rfl
  lies := jw_lies
  same := jw_same
  call := fun out S w k hJ _ hol => callW hE hbE hb hbB hes hbs hB hel hbl out S w k hJ hol
end Go.Proofs.Ytmfejibllhccaaa.Hx
