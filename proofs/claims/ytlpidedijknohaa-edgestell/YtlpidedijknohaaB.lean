/-
  Contracts of the package hexa's readers: Short, Begins, alike, Size, Space, Find, Least.
-/
import Derived.Test.YtlpidedijknohaaA
import Derived.Test.YtlpidedijknohaaN
import Derived.Deep.QuietTactic
import Derived.BigQuiet
namespace Go.Proofs.Ytlpidedijknohaa
open Go.RowKit
set_option linter.unusedVariables false

theorem quiet_left {P : Program} {f : FuncId} {args : Array Value} {w : World} {n : Nat} {v : Value}
    (h : Calls P f args (w.drewN n) fun e w' => e = .returned v ∧ w.drewN n = w') : Calls P f args (w.drewN n) fun e w'' => e = .returned v ∧ ∃ m, w'' = w.drewN m :=
  h.mono fun _ _ ⟨he, hm⟩ => ⟨he, n, hm.symm⟩

/-- drawn from, and else as it was -/
def Drawn (w w' : World) : Prop := ∃ n, w' = w.drewN n
theorem Drawn.refl (w : World) : Drawn w w := ⟨0, rfl⟩
theorem Drawn.trans {a b c : World} (h : Drawn a b) (k : Drawn b c) : Drawn a c := by
  obtain ⟨n, rfl⟩ := h
  obtain ⟨m, rfl⟩ := k
  exact ⟨n + m, by rw [World.drewN_drewN]⟩
theorem Drawn.more {a b : World} (h : Drawn a b) (n : Nat) : Drawn a (b.drewN n) := h.trans ⟨n, rfl⟩
theorem Drawn.cell {a b : World} (h : Drawn a b) (p : Addr) : b.cell? p = a.cell? p := by obtain ⟨n, rfl⟩ := h; rfl
theorem Drawn.heap {a b : World} (h : Drawn a b) : b.heap = a.heap := by obtain ⟨n, rfl⟩ := h; rfl
theorem Drawn.below {a b : World} (h : Drawn a b) (B : Nat) : Below B a b := by obtain ⟨n, rfl⟩ := h; exact ⟨rfl, rfl, rfl, Nat.le_refl _, fun _ _ => rfl⟩

theorem ret_bool {a b : Bool} (h : a = b) : Ending.returned (.bool a) = .returned (.bool b) := by rw [h]

def spaceN (n : Nat) : Int := if n = 20 then 1 else if n = 32 then 2 else 0

theorem alike_ne {a b : ByteArray} {k : Nat} (ha : k < 2 * a.size) (hb : k < 2 * b.size) (h : ∀ j, j < k → M.dig (bl a) j = M.dig (bl b) j) (hne : M.dig (bl a) k ≠ M.dig (bl b) k) : M.alikeN (M.digs (bl a)) (M.digs (bl b)) = k := by
  refine M.alikeN_of (by rw [M.digs_length, bl_length]; omega) (by rw [M.digs_length, bl_length]; omega) (fun j hj => ?_) (.inr (.inr ?_))
  · rw [M.digs_getD _ _ (by rw [bl_length]; omega), M.digs_getD _ _ (by rw [bl_length]; omega)]; exact h j hj
  · rw [M.digs_getD _ _ (by rw [bl_length]; omega), M.digs_getD _ _ (by rw [bl_length]; omega)]; exact hne
theorem alike_all {a b : ByteArray} {k : Nat} (ha : k ≤ 2 * a.size) (hb : k ≤ 2 * b.size) (hk : k = 2 * a.size ∨ k = 2 * b.size) (h : ∀ j, j < k → M.dig (bl a) j = M.dig (bl b) j) : M.alikeN (M.digs (bl a)) (M.digs (bl b)) = k := by
  refine M.alikeN_of (by rw [M.digs_length, bl_length]; omega) (by rw [M.digs_length, bl_length]; omega) (fun j hj => ?_) ?_
  · rw [M.digs_getD _ _ (by rw [bl_length]; omega), M.digs_getD _ _ (by rw [bl_length]; omega)]; exact h j hj
  · rw [M.digs_length, M.digs_length, bl_length, bl_length]; omega

end Go.Proofs.Ytlpidedijknohaa
