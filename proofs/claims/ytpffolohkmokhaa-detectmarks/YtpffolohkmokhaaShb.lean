/-
  Contracts of the document's First and Back (layer 2).
-/
import Derived.Test.YtpffolohkmokhaaSha
namespace Go.Proofs.Ytpffolohkmokhaa.Hs
open Go.RowKit
set_option linter.unusedVariables false
attribute [local go_sem] t_and t_or t_xor t_not t_add t_sub t_add_wrap t_sub_wrap

theorem cs_first : cs Sh.first = #[.int .u32 1732584193, .int .u32 4023233417, .int .u32 2562383102, .int .u32 271733878, .int .u32 3285377520] := by kernel_rfl
theorem rfirst_any (w : World) : Calls Try.prog 28 #[] w fun e w' => e = .returned (.agg (cs Sh.first)) ∧ Below w.heap.size w w' := by
  rw [cs_first]
  go_enter Try.func28, Try.ntmps28
  go_wp2
  refine bodyPost_ret (v := .agg #[.int .u32 1732584193, .int .u32 4023233417, .int .u32 2562383102, .int .u32 271733878, .int .u32 3285377520]) (by simp [results, Try.results28, go_sem]) rfl ⟨rfl, ?_⟩
  exact (Below.refl _ w).alloc (Nat.le_refl _) _

theorem rstep_zero (a b c d : UInt32) (t : Nat) (v : UInt32) (w : World) :
    Calls Try.prog 33 #[.agg #[.int .u32 (tn a), .int .u32 (tn b), .int .u32 (tn c), .int .u32 (tn d), .int .u32 0], .int .i64 t, .int .u32 (tn v)] w
      fun e w' => e = .returned (.agg #[.int .u32 (tn (Sh.rot a 5 + Sh.mix t b c d + v)), .int .u32 (tn a), .int .u32 (tn (Sh.rot b 30)), .int .u32 (tn c), .int .u32 (tn d)]) ∧ Below w.heap.size w w' := by
  have h := rstep_any ⟨a, b, c, d, 0⟩ t v w
  simp only [cs, Sh.step, UInt32.add_zero] at h
  exact h

set_option maxHeartbeats 1000000 in
theorem rback_any (x : Sh.Ch) (t : Nat) (v : UInt32) (w : World) :
    Calls Try.prog 34 #[.agg (cs x), .int .i64 t, .int .u32 (tn v)] w fun e w' => e = .returned (.agg (cs (Sh.back x t v))) ∧ Below w.heap.size w w' := by
  obtain ⟨a, b, c, d, e⟩ := x
  unfold cs
  go_enter Try.func34, Try.ntmps34
  go_wp2_with fail
  go_region_held3 (fun w' => w'.cell? ⟨w.heap.size, 1, none⟩ = some (.int .u32 (tn b)) ∧ w'.cell? ⟨w.heap.size, 2, none⟩ = some (.int .u32 (tn c)) ∧ w'.cell? ⟨w.heap.size, 3, none⟩ = some (.int .u32 (tn d)) ∧ w'.cell? ⟨w.heap.size, 4, none⟩ = some (.int .u32 (tn e))) (go_keep)
    (first | (go_at_call 23; refine (rot_any _ 2 _ (by omega) (by omega)).mono ?_; rintro e w' ⟨rfl, rfl⟩))
  all_goals
    go_wp2_with fail
    refine (rstep_zero b (Sh.rot c 2) d e t v _).mono ?_
    rintro e0 w1 ⟨rfl, hb1⟩
    have hz := hb1.size
    simp at hz
    have hz0 : w.heap.size < w1.heap.size := by omega
    have hz1 : w.heap.size + 1 < w1.heap.size := by omega
    have hz2 : w.heap.size + 1 + 1 < w1.heap.size := by omega
    have c0 : w1.cell? ⟨w.heap.size, 0, none⟩ = some (.int .u32 (tn a)) := by rw [hb1.cell (p := ⟨w.heap.size, 0, none⟩) (by simp; omega)]; simp [go_sem]
    have y0 : w1.cell? ⟨w.heap.size + 1 + 1, 0, none⟩ = some (.int .u32 (tn b)) := by rw [hb1.cell (p := ⟨w.heap.size + 1 + 1, 0, none⟩) (by simp)]; simp [go_sem]
    have y1 : w1.cell? ⟨w.heap.size + 1 + 1, 1, none⟩ = some (.int .u32 (tn (Sh.rot c 2))) := by rw [hb1.cell (p := ⟨w.heap.size + 1 + 1, 1, none⟩) (by simp)]; simp [go_sem]
    have y2 : w1.cell? ⟨w.heap.size + 1 + 1, 2, none⟩ = some (.int .u32 (tn d)) := by rw [hb1.cell (p := ⟨w.heap.size + 1 + 1, 2, none⟩) (by simp)]; simp [go_sem]
    have y3 : w1.cell? ⟨w.heap.size + 1 + 1, 3, none⟩ = some (.int .u32 (tn e)) := by rw [hb1.cell (p := ⟨w.heap.size + 1 + 1, 3, none⟩) (by simp)]; simp [go_sem]
    have y4 : w1.cell? ⟨w.heap.size + 1 + 1, 4, none⟩ = some (.int .u32 0) := by rw [hb1.cell (p := ⟨w.heap.size + 1 + 1, 4, none⟩) (by simp)]; simp [go_sem]
    have f4 : ∀ o, w1.frozen? ⟨w.heap.size + 1 + 1, o, none⟩ = false := fun o => by rw [hb1.frozen (p := ⟨w.heap.size + 1 + 1, o, none⟩) (by simp)]; simp [go_sem]
    have r4 : ∀ o, w1.frozen? ⟨w.heap.size + 1, o, none⟩ = false := fun o => by rw [hb1.frozen (p := ⟨w.heap.size + 1, o, none⟩) (by simp)]; simp [go_sem]
    have z0 : ∀ o, o < 5 → w1.cell? ⟨w.heap.size + 1, o, none⟩ = some (.int .u32 0) := fun o ho => by
      rw [hb1.cell (p := ⟨w.heap.size + 1, o, none⟩) (by simp)]
      match o, ho with
      | 0, _ => simp [go_sem]
      | 1, _ => simp [go_sem]
      | 2, _ => simp [go_sem]
      | 3, _ => simp [go_sem]
      | 4, _ => simp [go_sem]
    have q0 := z0 0 (by omega)
    have q1 := z0 1 (by omega)
    have q2 := z0 2 (by omega)
    have q3 := z0 3 (by omega)
    have q4 := z0 4 (by omega)
    clear z0
    have hbw : Below w.heap.size w w1 := by
      refine Below.trans ?_ (hb1.mono (by simp; omega))
      repeat (first | exact Below.refl _ _ | refine Below.drew ?_ | refine Below.alloc ?_ (by simp; try omega) _)
    have HB := Lib.hid hbw
    clear hbw hb1
    go_wp2
    refine bodyPost_ret (v := .agg (cs (Sh.back ⟨a, b, c, d, e⟩ t v))) (by simp [results, Try.results34, go_sem, cs, Sh.back, q0, q1, q2, q3, q4, hz1]) rfl ⟨rfl, ?_⟩
    refine Below.alloc (Below.setCell (Below.setCell (Below.setCell (Below.setCell (Below.setCell (Below.setCell HB.out ?_ _) ?_ _) ?_ _) ?_ _) ?_ _) ?_ _) ?_ _
    all_goals simp
    all_goals omega
end Go.Proofs.Ytpffolohkmokhaa.Hs
