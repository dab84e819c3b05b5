/-
  A pipe in memory (layer 6): a struct, a channel, and a block for each thing.
-/
import Derived.Test.YtmfejibllhccaaaXf
import Derived.Conc.LoneCalls
import Derived.Conc.LoneSelect
import Derived.Conc.LoneSelectN
import Derived.Conc.SmallLaws
namespace Go.Proofs.Ytmfejibllhccaaa.Hx
open Go.RowKit Go.Conc Hw
set_option linter.unusedVariables false

/-- the pointers to the things -/
def ptrs (qs : List (Nat × Value)) : Array Value := (qs.map fun q => Value.pointer (some ⟨q.1, 0, none⟩)).toArray
/-- in block b a pipe lies, with room for cap, closed or not, that holds the things qs, each in its own block -/
def PipeAt (w : World) (b cap : Nat) (cl : Bool) (qs : List (Nat × Value)) (F : List Nat) : Prop :=
  ∃ c t s r, w.heap[b]? = some (.cells #[.chan (some c), .bool cl] t (0, 0)) ∧ w.heap[c]? = some (.chan cap (ptrs qs) cl s r false) ∧ (∀ q, q ∈ qs → ∃ u, w.heap[q.1]? = some (.cells #[q.2] u (0, 0))) ∧ F = b :: c :: qs.map (·.1)
section
variable {w w' : World} {b cap : Nat} {cl : Bool} {qs : List (Nat × Value)} {F : List Nat}
theorem PipeAt.lies (h : PipeAt w b cap cl qs F) : Lies F w := by
  obtain ⟨c, t, s, r, hb, hc, hq, rfl⟩ := h
  intro k hk
  rcases List.mem_cons.1 hk with rfl | hk
  · exact (Array.getElem?_eq_some_iff.1 hb).1
  · rcases List.mem_cons.1 hk with rfl | hk
    · exact (Array.getElem?_eq_some_iff.1 hc).1
    · obtain ⟨q, hq1, rfl⟩ := List.mem_map.1 hk
      obtain ⟨u, hu⟩ := hq q hq1
      exact (Array.getElem?_eq_some_iff.1 hu).1
theorem PipeAt.same (h : PipeAt w b cap cl qs F) (hs : Same F w w') : PipeAt w' b cap cl qs F := by
  obtain ⟨c, t, s, r, hb, hc, hq, rfl⟩ := h
  refine ⟨c, t, s, r, (hs b (by simp)).trans hb, (hs c (by simp)).trans hc, fun q hq1 => ?_, rfl⟩
  obtain ⟨u, hu⟩ := hq q hq1
  exact ⟨u, (hs q.1 (by simp only [List.mem_cons, List.mem_map]; exact .inr (.inr ⟨q, hq1, rfl⟩))).trans hu⟩
end
theorem ptrs_size (qs : List (Nat × Value)) : (ptrs qs).size = qs.length := by simp [ptrs]
theorem ptrs_push (qs : List (Nat × Value)) (b : Nat) (v : Value) : (ptrs qs).push (.pointer (some ⟨b, 0, none⟩)) = ptrs (qs ++ [(b, v)]) := by simp [ptrs]
theorem ptrs_pop (q : Nat × Value) (qs : List (Nat × Value)) : (ptrs (q :: qs)).extract 1 (ptrs (q :: qs)).size = ptrs qs := by
  simp only [ptrs, List.map_cons]
  apply Array.ext'
  simp only [List.extract_toArray, List.size_toArray, List.length_cons, List.length_map, List.extract_eq_take_drop, List.drop_succ_cons, List.drop_zero, Nat.add_sub_cancel]
  rw [List.take_of_length_le (by simp)]
theorem ptrs_head (q : Nat × Value) (qs : List (Nat × Value)) : (ptrs (q :: qs)).getD 0 undef = .pointer (some ⟨q.1, 0, none⟩) := by simp [ptrs]
theorem Turns.setChan {F F' : List Nat} {a b : World} (h : Turns F F' a b) {c : Nat} (hc : c ∈ F') (cap : Nat) (buf : Array Value) (cl : Bool) (s r : Nat) (tm : Bool) : Turns F F' a (b.setChan c cap buf cl s r tm) :=
  h.trans ⟨rfl, rfl, rfl, by simp [World.setChan], fun k hk hn => by simp only [World.setChan]; rw [Array.getElem?_setIfInBounds_ne (fun e => hn (by rw [← e]; exact hc))], fun _ h => .inl h⟩
theorem setChan_ne (w : World) {c k : Nat} (cap : Nat) (buf : Array Value) (cl : Bool) (s r : Nat) (tm : Bool) (h : k ≠ c) : (w.setChan c cap buf cl s r tm).heap[k]? = w.heap[k]? := by
  simp only [World.setChan]
  rw [Array.getElem?_setIfInBounds_ne (fun e => h e.symm)]
end Go.Proofs.Ytmfejibllhccaaa.Hx
