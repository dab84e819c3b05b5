/-
  Layer 9: the bytes that a step adds.
-/
import Derived.Test.YtcgaofndckiddaaEd
namespace Go.Proofs.Ytcgaofndckiddaa.He
open Go.RowKit Hg
set_option linter.unusedVariables false

def pc (x : ByteArray) (ok : Bool) : Ending := .returned (.tuple #[.string x, .bool ok])

set_option maxHeartbeats 2000000 in
set_option maxRecDepth 100000 in
theorem piece_none (c p n z : Nat) (told b : ByteArray) (w : World) (hn : n = 0) :
    Calls Try.prog 17 #[.agg (scells c p n told z), .string b] w fun e w' => e = pc ByteArray.empty false ∧ Below w.heap.size w w' := by
  have n0 : ((n : Int) == 0) = true := by simp [hn]
  unfold scells
  go_enter Try.func17, Try.ntmps17
  go_wp2
  go_ret2
  exact ⟨rfl, (Below.refl _ w).alloc (Nat.le_refl _) _⟩

set_option maxHeartbeats 2000000 in
set_option maxRecDepth 100000 in
theorem piece_told (c p n z : Nat) (told b : ByteArray) (w : World) (hn : n ≠ 0) (hc : c = 2) :
    Calls Try.prog 17 #[.agg (scells c p n told z), .string b] w fun e w' => e = pc told true ∧ Below w.heap.size w w' := by
  have n0 : ((n : Int) == 0) = false := beq_eq_false_iff_ne.2 (by omega)
  have c2 : ((c : Int) == 2) = true := by simp [hc]
  unfold scells
  go_enter Try.func17, Try.ntmps17
  go_wp2
  go_ret2
  exact ⟨rfl, (Below.refl _ w).alloc (Nat.le_refl _) _⟩

set_option maxHeartbeats 2000000 in
set_option maxRecDepth 100000 in
theorem piece_far (c p n z : Nat) (told b : ByteArray) (w : World) (hn : n ≠ 0) (hc : c = 1) (h : b.size < p + n) (hb : b.size ≤ 100000) :
    Calls Try.prog 17 #[.agg (scells c p n told z), .string b] w fun e w' => e = pc ByteArray.empty false ∧ Below w.heap.size w w' := by
  have n0 : ((n : Int) == 0) = false := beq_eq_false_iff_ne.2 (by omega)
  have c2 : ((c : Int) == 2) = false := beq_eq_false_iff_ne.2 (by omega)
  unfold scells
  by_cases hp : b.size < p
  · have p1 : (b.size : Int) < p := by omega
    clear h hp
    go_enter Try.func17, Try.ntmps17
    go_wp2
    go_ret2
    exact ⟨rfl, (Below.refl _ w).alloc (Nat.le_refl _) _⟩
  · have p1 : ¬ (b.size : Int) < p := by omega
    have w1 : IntKind.i64.wrap ((b.size : Int) - p) = (b.size : Int) - p := IntWalk.i64_in _ (by omega)
    have p2 : (b.size : Int) - p < n := by omega
    clear h hp
    go_enter Try.func17, Try.ntmps17
    go_wp2
    go_ret2
    exact ⟨rfl, (Below.refl _ w).alloc (Nat.le_refl _) _⟩

set_option maxHeartbeats 2000000 in
set_option maxRecDepth 100000 in
theorem piece_base (c p n z : Nat) (told b : ByteArray) (w : World) (hn : n ≠ 0) (hc : c = 1) (h : ¬ b.size < p + n) (hb : b.size ≤ 100000) :
    Calls Try.prog 17 #[.agg (scells c p n told z), .string b] w fun e w' => e = pc (b.extract p (p + n)) true ∧ Below w.heap.size w w' := by
  have n0 : ((n : Int) == 0) = false := beq_eq_false_iff_ne.2 (by omega)
  have c2 : ((c : Int) == 2) = false := beq_eq_false_iff_ne.2 (by omega)
  have p1 : ¬ (b.size : Int) < p := by omega
  have w1 : IntKind.i64.wrap ((b.size : Int) - p) = (b.size : Int) - p := IntWalk.i64_in _ (by omega)
  have p2 : ¬ (b.size : Int) - p < n := by omega
  have w2 : IntKind.i64.wrap ((p : Int) + n) = (p : Int) + n := IntWalk.i64_in _ (by omega)
  have hsl := slice_mid b p (p + n) p ((p : Int) + n) rfl (by omega) (by omega) (by omega)
  generalize b.extract p (p + n) = X at *
  unfold scells
  clear h
  go_enter Try.func17, Try.ntmps17
  go_wp2
  go_ret2
  exact ⟨rfl, (Below.refl _ w).alloc (Nat.le_refl _) _⟩
end Go.Proofs.Ytcgaofndckiddaa.He
