/-
  Contracts of Find and Least, and of the statements' own few and awake.
-/
import Derived.Test.YtlpidedijknohaaB
namespace Go.Proofs.Ytlpidedijknohaa
open Go.RowKit
set_option linter.unusedVariables false

/-- a slice that reads as these strings, nil let in -/
def Strs (w : World) (B : Nat) (A : Option Addr) (ss : List ByteArray) : Prop :=
  ∀ i, i < ss.length → ∃ ad, A = some ad ∧ ad.block < B ∧ w.cell? (ad.add i) = some (.string (ss.getD i ByteArray.empty))
theorem block_of_add (a : Addr) (n : Nat) : (a.add n).block = a.block := by unfold Addr.add; split <;> rfl
theorem Strs.below {w w' : World} {B : Nat} {A : Option Addr} {ss : List ByteArray} (h : Strs w B A ss) (hb : Below B w w') : Strs w' B A ss := fun i hi => by
  obtain ⟨ad, e, hlt, hc⟩ := h i hi
  exact ⟨ad, e, hlt, by rw [hb.cell (by rw [block_of_add]; exact hlt)]; exact hc⟩
theorem Strs.drawn {w w' : World} {B : Nat} {A : Option Addr} {ss : List ByteArray} (h : Strs w B A ss) (hb : Drawn w w') : Strs w' B A ss := h.below (hb.below _)

def bls (ss : List ByteArray) : List (List UInt8) := ss.map bl
theorem bls_getD (ss : List ByteArray) (i : Nat) (h : i < ss.length) : (bls ss).getD i [] = bl (ss.getD i ByteArray.empty) := by
  simp [bls, List.getD, List.getElem?_eq_getElem h]
theorem mem_bls {ss : List ByteArray} {i : Nat} (h : i < ss.length) : bl (ss.getD i ByteArray.empty) ∈ bls ss := by
  simp only [bls, List.getD, List.getElem?_eq_getElem h, Option.getD_some]
  exact List.mem_map_of_mem (List.getElem_mem h)
theorem of_mem_bls {ss : List ByteArray} {x : List UInt8} (h : x ∈ bls ss) : ∃ i, i < ss.length ∧ x = bl (ss.getD i ByteArray.empty) := by
  obtain ⟨y, hy, rfl⟩ := List.mem_map.1 h
  obtain ⟨i, hi, rfl⟩ := List.getElem_of_mem hy
  exact ⟨i, hi, by simp [List.getD, List.getElem?_eq_getElem hi]⟩
theorem bl_inj {a b : ByteArray} (h : bl a = bl b) : a = b := by rw [← str_bl a, ← str_bl b, h]

theorem toList_bl (a : ByteArray) : a.toList = bl a := ByteArray.toList_eq a
theorem str_beq {a b : ByteArray} (h : a = b) : (a.toList == b.toList) = true := by rw [h]; simp
theorem str_bne {a b : ByteArray} (h : a ≠ b) : (a.toList == b.toList) = false := by
  rw [toList_bl, toList_bl, beq_eq_false_iff_ne]
  exact fun e => h (bl_inj e)

/-- what the loop of Find knows behind k names -/
def Found (ss : List ByteArray) (s : List UInt8) (k : Nat) (f : Int) : Prop :=
  (f = -1 ∧ ∀ j, j < k → M.begB (bl (ss.getD j ByteArray.empty)) s = false) ∨
  ∃ m : Nat, f = m ∧ m < k ∧ M.begB (bl (ss.getD m ByteArray.empty)) s = true ∧ ∀ j, j < k → M.begB (bl (ss.getD j ByteArray.empty)) s = true → ss.getD j ByteArray.empty = ss.getD m ByteArray.empty

section
variable {ss : List ByteArray} {s : List UInt8} {k m : Nat} {f : Int}
theorem found_skip (h : Found ss s k f) (hb : M.begB (bl (ss.getD k ByteArray.empty)) s = false) : Found ss s (k + 1) f := by
  rcases h with ⟨rfl, hn⟩ | ⟨m, rfl, hm, hbm, ha⟩
  · refine .inl ⟨rfl, fun j hj => ?_⟩
    by_cases e : j = k
    · subst e; exact hb
    · exact hn j (by omega)
  · refine .inr ⟨m, rfl, by omega, hbm, fun j hj hbj => ?_⟩
    by_cases e : j = k
    · subst e; rw [hb] at hbj; cases hbj
    · exact ha j (by omega) hbj
theorem found_first (hn : ∀ j, j < k → M.begB (bl (ss.getD j ByteArray.empty)) s = false) (hb : M.begB (bl (ss.getD k ByteArray.empty)) s = true) : Found ss s (k + 1) k := by
  refine .inr ⟨k, rfl, by omega, hb, fun j hj hbj => ?_⟩
  by_cases e : j = k
  · subst e; rfl
  · rw [hn j (by omega)] at hbj; cases hbj
theorem found_again (hb : M.begB (bl (ss.getD k ByteArray.empty)) s = true) (he : ss.getD k ByteArray.empty = ss.getD m ByteArray.empty)
    (ha : ∀ j, j < k → M.begB (bl (ss.getD j ByteArray.empty)) s = true → ss.getD j ByteArray.empty = ss.getD m ByteArray.empty) : Found ss s (k + 1) k := by
  refine .inr ⟨k, rfl, by omega, hb, fun j hj hbj => ?_⟩
  by_cases e : j = k
  · subst e; rfl
  · rw [he]; exact ha j (by omega) hbj
theorem found_many (hs : M.shortC s = 0) (hk : k < ss.length) (hb : M.begB (bl (ss.getD k ByteArray.empty)) s = true) (hm : m < ss.length) (hbm : M.begB (bl (ss.getD m ByteArray.empty)) s = true)
    (hne : ss.getD k ByteArray.empty ≠ ss.getD m ByteArray.empty) : M.findR (bls ss) s = ([], 11) :=
  M.findR_many hs (mem_bls hk) hb (mem_bls hm) hbm (fun e => hne (bl_inj e))
theorem found_none (hs : M.shortC s = 0) (hn : ∀ j, j < ss.length → M.begB (bl (ss.getD j ByteArray.empty)) s = false) : M.findR (bls ss) s = ([], 5) :=
  M.findR_none hs (fun x hx => by
    obtain ⟨i, hi, rfl⟩ := of_mem_bls hx
    exact hn i hi)
theorem found_one (hs : M.shortC s = 0) (hm : m < ss.length) (hb : M.begB (bl (ss.getD m ByteArray.empty)) s = true)
    (ha : ∀ j, j < ss.length → M.begB (bl (ss.getD j ByteArray.empty)) s = true → ss.getD j ByteArray.empty = ss.getD m ByteArray.empty) : M.findR (bls ss) s = (bl (ss.getD m ByteArray.empty), 0) :=
  M.findR_one hs (mem_bls hm) hb (fun y hy hby => by
    obtain ⟨i, hi, rfl⟩ := of_mem_bls hy
    rw [ha i hi hby])
end

theorem ret_find {a b : ByteArray} {x y : Int} (h : a = b) (k : x = y) : Ending.returned (.tuple #[.string a, .int .i64 x]) = .returned (.tuple #[.string b, .int .i64 y]) := by rw [h, k]

end Go.Proofs.Ytlpidedijknohaa
