/-
  The statements' own awake (layer 2): true.
-/
import Derived.Test.YtpffolohkmokhaaPh
import Derived.Test.YtpffolohkmokhaaS
namespace Go.Proofs.Ytpffolohkmokhaa.Hp
open Go.RowKit Hs
set_option linter.unusedVariables false

theorem strs1 (w : World) (x : ByteArray) : Strs (w.alloc (.cells #[.string x] 9)) (w.heap.size + 1) (some ⟨w.heap.size, 0, none⟩) [x] := fun i hi => by
  have hh := heap_alloc_new w (.cells #[.string x] 9)
  refine ⟨_, rfl, by simp, ?_⟩
  rw [add_zero_of, cell_of_row _ _ i _ _ _ hh]
  simp at hi
  subst hi
  simp
theorem strs2 (w : World) (x y : ByteArray) : Strs (w.alloc (.cells #[.string x, .string y] 9)) (w.heap.size + 1) (some ⟨w.heap.size, 0, none⟩) [x, y] := fun i hi => by
  have hh := heap_alloc_new w (.cells #[.string x, .string y] 9)
  refine ⟨_, rfl, by simp, ?_⟩
  rw [add_zero_of, cell_of_row _ _ i _ _ _ hh]
  simp at hi
  rcases (by omega : i = 0 ∨ i = 1) with rfl | rfl <;> simp
/-- the digest of one text -/
theorem sum_one (s : ByteArray) (w : World) (hs : s.size ≤ 1000000) :
    Calls Try.prog 24 #[.slice (some ⟨w.heap.size, 0, none⟩) 1 1] (w.alloc (.cells #[.string s] 9)) fun e w' => e = .returned (.string ⟨(Sh.sum s.data.toList).toArray⟩) ∧ Below w.heap.size w w' := by
  have hf : (bls [s]).flatten = s.data.toList := by simp [bls, bl]
  have h := sum_any (w.alloc (.cells #[.string s] 9)) (some ⟨w.heap.size, 0, none⟩) 1 [s] (by have := strs1 w s; simpa using this) (by rw [hf]; simpa using hs) (by simp)
  rw [hf] at h
  refine h.mono ?_
  rintro e w' ⟨rfl, hb⟩
  exact ⟨rfl, ((Below.refl _ w).alloc (Nat.le_refl _) _).trans (hb.mono (by simp))⟩
theorem sum_abc : Sh.sum [97, 98, 99] = [169, 153, 62, 54, 71, 6, 129, 106, 186, 62, 37, 113, 120, 80, 194, 108, 156, 208, 216, 157] := by kernel_rfl
theorem digs_abc : M.digs (bl ⟨#[169, 153, 62, 54, 71, 6, 129, 106, 186, 62, 37, 113, 120, 80, 194, 108, 156, 208, 216, 157]⟩) = [97, 57, 57, 57, 51, 101, 51, 54, 52, 55, 48, 54, 56, 49, 54, 97, 98, 97, 51, 101, 50, 53, 55, 49, 55, 56, 53, 48, 99, 50, 54, 99, 57, 99, 100, 48, 100, 56, 57, 100] := by kernel_rfl
theorem words_abcd : (Sh.words [97, 98, 99, 100]).getD 0 0 = 1633837924 := by kernel_rfl

end Go.Proofs.Ytpffolohkmokhaa.Hp