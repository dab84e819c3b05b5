/-
  The document's disk as a thing in memory (layer 7): where its slices lie, and that it stays a thing of its own when the document's functions turn it.
-/
import Derived.Test.YtdgfbpkpfmdjjaaVj
import Derived.Test.YtdgfbpkpfmdjjaaTu
namespace Go.Proofs.Ytdgfbpkpfmdjjaa.Hk
open Go.RowKit Hr Hw Ht
set_option linter.unusedVariables false

/-- the document's disk as a value: its slices lie in the blocks of the footprint -/
def Dm (v : Value) (d : Dsk) : List Nat → World → Prop := fun F w => Lies F w ∧ DkV w w.heap.size v d ∧ HasG (fun k => k ∈ F) v d
theorem lies_same {F : List Nat} {w w' : World} (h : Lies F w) (hs : Same F w w') : Lies F w' := fun k hk => by
  have h1 := hs k hk
  rw [Array.getElem?_eq_getElem (h k hk)] at h1
  exact (Array.getElem?_eq_some_iff.1 h1).1
theorem recs_same {α : Type} [Inhabited α] {k : Nat} {f : α → List Value} {w w' : World} {B : Nat} {A : Option Addr} {l : List α} {F : List Nat} (h : Recs k f w B A l) (hg : BlkG (fun k => k ∈ F) A l) (hs : Same F w w') (hl : Lies F w') : Recs k f w' w'.heap.size A l := fun i hi => by
  obtain ⟨ad, e, hlt, hc⟩ := h i hi
  have hm := hg (fun e => by rw [e] at hi; exact absurd hi (Nat.not_lt_zero _)) ad e
  refine ⟨ad, e, hl _ hm, fun j hj => ?_⟩
  rw [← hc j hj]
  exact hs.cell (by rw [block_of_add, block_of_add]; exact hm)
theorem dm_part (v : Value) (d : Dsk) : Part (Dm v d) where
  lies := fun h => h.1
  same := fun {F w w'} h hs => by
    obtain ⟨hl, ⟨Al, cl, Ar, cr, rfl, hf, he⟩, hg⟩ := h
    have hl' := lies_same hl hs
    have hg' := hasG_at (Al := Al) (cl := cl) (Ar := Ar) (cr := cr) (d := d) hg
    exact ⟨hl', ⟨Al, cl, Ar, cr, rfl, recs_same hf hg'.1 hs hl', recs_same he hg'.2 hs hl'⟩, hg⟩
theorem blkG_lt {α : Type} [Inhabited α] {k : Nat} {f : α → List Value} {w : World} {B : Nat} {A : Option Addr} {l : List α} (h : Recs k f w B A l) : BlkG (fun k => k < B) A l := fun hn ad ha => by
  obtain ⟨ad', e, hlt, _⟩ := h 0 (List.length_pos_iff.2 hn)
  rw [ha] at e
  injection e with e
  subst e
  exact hlt
section
variable {w1 w w' : World} {v v' : Value} {d d' : Dsk} {R : List Nat → World → Prop}
theorem dm_dk (h : Holds w1 (Star (Dm v d) R) w) : DkV w w.heap.size v d := by
  obtain ⟨F, ⟨A, B, rfl, hab, h1, h2⟩, hn, hb⟩ := h
  exact h1.2.1
/-- a call of the document's that turns it: nothing that was there is turned -/
theorem dm_step (h : Holds w1 (Star (Dm v d) R) w) (hR : Part R) (hb : Below w.heap.size w w') (hk : DkV w' w'.heap.size v' d') (hin : InG w v d v' d') : Holds w1 (Star (Dm v' d') R) w' := by
  obtain ⟨A, ⟨hl, hd, hg⟩, hn, hto⟩ := h.head hR
  have hz := hb.size
  have hmem : ∀ k, k ∈ A ++ List.range' w.heap.size (w'.heap.size - w.heap.size) ↔ k ∈ A ∨ (w.heap.size ≤ k ∧ k < w'.heap.size) := fun k => by
    rw [List.mem_append, List.mem_range'_1, Nat.add_sub_cancel' hz]
  refine hto (A' := A ++ List.range' w.heap.size (w'.heap.size - w.heap.size)) ⟨fun k hk => ?_, hk, ?_⟩ ((Turns.of_below hb).wider (fun k hk => by cases hk) |>.to (fun k hk => ((hmem k).1 hk).imp id And.left))
  · rcases (hmem k).1 hk with h | h
    · exact Nat.lt_of_lt_of_le (hl k h) hz
    · exact h.2
  · obtain ⟨Al, cl, Ar, cr, rfl, hf, he⟩ := hk
    have h9 := hasG_at (Al := Al) (cl := cl) (Ar := Ar) (cr := cr) (d := d') (hin (fun k => k ∈ A ∨ w.heap.size ≤ k) (by
      obtain ⟨Bl, bl, Br, br, e, g1, g2⟩ := hg
      exact ⟨Bl, bl, Br, br, e, fun hn ad ha => .inl (g1 hn ad ha), fun hn ad ha => .inl (g2 hn ad ha)⟩) (fun k hk => .inr hk))
    exact ⟨Al, cl, Ar, cr, rfl, fun hn ad ha => (hmem _).2 ((h9.1 hn ad ha).imp id (fun h => ⟨h, blkG_lt hf hn ad ha⟩)), fun hn ad ha => (hmem _).2 ((h9.2 hn ad ha).imp id (fun h => ⟨h, blkG_lt he hn ad ha⟩))⟩
/-- with other things said of it than its slices -/
theorem dm_turn (h : Holds w1 (Star (Dm v d) R) w) (hR : Part R) (hl : d'.lies = d.lies) (hr : d'.rows = d.rows) : ∃ Al cl Ar cr, v = .agg (dcells Al cl Ar cr d) ∧ Holds w1 (Star (Dm (.agg (dcells Al cl Ar cr d')) d') R) w := by
  obtain ⟨Al, cl, Ar, cr, rfl, hf, he⟩ := dm_dk h
  refine ⟨Al, cl, Ar, cr, rfl, dm_step h hR (Below.refl _ _) ⟨Al, cl, Ar, cr, rfl, by rw [hl]; exact hf, by rw [hr]; exact he⟩ (inG_same (Al := Al) (cl := cl) (Ar := Ar) (cr := cr) (d := d) (d2 := d') hl hr)⟩
/-- a new one without files -/
theorem dm_new (h : Holds w1 R w) (hR : Part R) (hb : Below w.heap.size w w') (hl : d.lies = []) (hr : d.rows = []) (Al : Option Addr) (cl : Nat) (Ar : Option Addr) (cr : Nat) : Holds w1 (Star (Dm (.agg (dcells Al cl Ar cr d)) d) R) w' :=
  h.add hR hb (A := []) ⟨(fun k hk => by cases hk), ⟨Al, cl, Ar, cr, rfl, by rw [hl]; exact fun i hi => absurd hi (Nat.not_lt_zero _), by rw [hr]; exact fun i hi => absurd hi (Nat.not_lt_zero _)⟩, ⟨Al, cl, Ar, cr, rfl, fun hn => absurd hl hn, fun hn => absurd hr hn⟩⟩ (fun k hk => by cases hk)
end
end Go.Proofs.Ytdgfbpkpfmdjjaa.Hk
