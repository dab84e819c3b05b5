/-
  Layer 10: contents up to the limit (IdentLimit), by what the program's ident is to answer.
-/
import Derived.Test.YtmbbigmnliiadaaGreatDoorK1
import Derived.Laws.OwnMore
import Derived.Deep.DeepCutAuto
namespace Go.Proofs.YtmbbigmnliiadaaGreatDoor.Hi
open Go.RowKit Hg Hs Hd
set_option linter.unusedVariables false

theorem wide_size (r : ByteArray) : (Idf.wide r).size = 32 := by
  show (S2.sum r.data.toList).toArray.size = 32
  rw [List.size_toArray]
  exact S2.told_length _ 8
theorem narrow_size (r : ByteArray) : (Idf.narrow r).size = 20 := by
  show (Sh.sum r.data.toList).toArray.size = 20
  rw [List.size_toArray]
  exact Sh.told_length _ 5
theorem made_zeros (n : Nat) : (madeCells (Value.int .u8 0).cells (n * 1)).toList = (List.replicate n (0 : UInt8)).map fun c => Value.int .u8 c.toNat := by
  have e : (Value.int .u8 0).cells = #[.int .u8 0] := rfl
  rw [e, Nat.mul_one, List.map_replicate]
  apply List.ext_getElem
  · simp [madeCells]
  · intro i h1 h2
    simp [madeCells, Nat.mod_one]
theorem make_full (w : World) (n : Nat) (hn : n ≤ 1000000) : ∃ w', (Instr.makeSlice 54 (.int .i64 (n : Int)) (.int .i64 (n : Int))).run Tryz.prog w = .ok (.slice (some ⟨w.heap.size, 0, none⟩) n n) w' ∧ Own w' w.heap.size (.slice (some ⟨w.heap.size, 0, none⟩) n n) (List.replicate n 0) ∧ Below w.heap.size w w' := by
  obtain ⟨i0, hi0, hz0, hz1, hz2⟩ := info_parts Tryz.info5
  obtain ⟨w', h1, h2, h3⟩ := run_makeSlice_full (P := Tryz.prog) w w.heap.size 54 5 i0 (.int .u8 0) 1 Tryz.underlying54 hi0 hz0 hz1 .i64 .i64 n (by omega) (by rw [hz2]; omega) (by unfold maxLen; omega) (Nat.le_refl _)
  refine ⟨w', h1, ?_, (Below.refl _ w).grown h3 (Nat.le_refl _) (fun k hk => by cases hk)⟩
  unfold Own
  rw [List.length_replicate, ← made_zeros]
  exact h2
theorem own_store {w : World} {B g n c : Nat} {l : List UInt8} (h : Own w B (.slice (some ⟨g, 0, none⟩) n c) l) (hn : l.length = n) (j : Nat) (x : UInt8) : Own (w.setCell ⟨g, j, none⟩ (.int .u8 x.toNat)) B (.slice (some ⟨g, 0, none⟩) n c) (l.set j x) := by
  subst hn
  have := (World.ownsRow.stored (h := h) j (.int .u8 x.toNat)).1
  unfold Own
  rw [List.length_set, List.map_set]
  exact this
theorem own_there {w : World} {B g n c : Nat} {l : List UInt8} (h : Own w B (.slice (some ⟨g, 0, none⟩) n c) l) (hn : l.length = n) {j : Nat} (hj : j < n) : w.cell? ⟨g, j, none⟩ = some (.int .u8 (l.getD j 0).toNat) ∧ w.frozen? ⟨g, j, none⟩ = false := by
  subst hn
  obtain ⟨g', c', e, hc⟩ := h.cell hj
  injection e with e1 e2 e3
  injection e1 with e1
  injection e1 with e1
  subst e1
  refine ⟨hc, ?_⟩
  rcases h.2 with ⟨h', h0⟩ | ⟨g2, cap, cur, h', hb, hg, _⟩
  · simp at h'
  · injection h' with e1 e2 e3
    injection e1 with e1
    injection e1 with e1
    subst e1
    exact unfrozen_of_cells hg j

end Go.Proofs.YtmbbigmnliiadaaGreatDoor.Hi
