/-
  The program's disk: New, Copy (layer 7).
-/
import Derived.Test.YtdgfbpkpfmdjjaaKk
namespace Go.Proofs.Ytdgfbpkpfmdjjaa.Hk
open Go.RowKit Hr Hw Ht
set_option linter.unusedVariables false

def newR (room : Int) : Raw := ⟨room, [], [], 0, [], 0, 0, 0, false⟩
theorem made (w : World) : MapAt (w.alloc (.map #[] 0)) w.heap.size [] := World.ownsMap_made (H := Unit) w Try.prog 9 fileElem
set_option maxHeartbeats 1000000 in
set_option maxRecDepth 100000 in
theorem new_ok (w : World) (room : Int) (h0 : 0 ≤ room) (h1 : room ≤ 16777216) : Calls Try.prog 10 #[.int .i64 room] w fun r w' => ∃ b, r = .returned (.tuple #[.pointer (some ⟨b, 0, none⟩), .int .i64 0]) ∧ ∃ F, RawAt w' b (newR room) F ∧ (∀ k, k ∈ F → w.heap.size ≤ k) ∧ Below w.heap.size w w' := by
  have h0' : ¬ room < 0 := by omega
  have h1' : ¬ 16777216 < room := by omega
  have hmm := @run_makeMap Try.prog
  go_enter Try.func10, Try.ntmps10
  go_wp2
  go_ret2
  have hm1 := made w
  have hm2 := made (w.alloc (.map #[] 0))
  rw [World.size_alloc] at hm2
  have hb : (((w.alloc (.map #[] 0)).alloc (.map #[] 0)).alloc (.cells (rcells (newR room) w.heap.size (w.heap.size + 1) none 0) 73)).heap[w.heap.size + 2]? = some (.cells (rcells (newR room) w.heap.size (w.heap.size + 1) none 0) 73 (0, 0)) := by
    have := heap_alloc_new ((w.alloc (.map #[] 0)).alloc (.map #[] 0)) (.cells (rcells (newR room) w.heap.size (w.heap.size + 1) none 0) 73)
    rwa [World.size_alloc, World.size_alloc] at this
  refine ⟨w.heap.size + 2, rfl, foot (w.heap.size + 2) w.heap.size (w.heap.size + 1) (.slice none 0 0), ⟨w.heap.size, w.heap.size + 1, none, 0, hb, ((hm1.alloc _).alloc _), hm2.alloc _, own_nil _ _ _, ⟨by omega, by omega, by omega, fun g hg => by cases hg⟩, rfl⟩, fun k hk => ?_, ?_⟩
  · rcases foot_mem.1 hk with rfl | rfl | rfl | hk
    · omega
    · omega
    · omega
    · cases hk
  · exact (((Below.refl _ w).alloc (Nat.le_refl _) _).alloc (by simp) _).alloc (by simp; omega) _
set_option maxRecDepth 100000 in
theorem new_bad (w : World) (room : Int) (h : ¬ (0 ≤ room ∧ room ≤ 16777216)) : Calls Try.prog 10 #[.int .i64 room] w fun r w' => r = .returned (.tuple #[.pointer none, .int .i64 1]) ∧ w' = w := by
  by_cases h0 : room < 0
  · go_enter Try.func10, Try.ntmps10
    go_wp2
    go_ret2
    exact ⟨rfl, rfl⟩
  · have h1' : 16777216 < room := by omega
    go_enter Try.func10, Try.ntmps10
    go_wp2
    go_ret2
    exact ⟨rfl, rfl⟩

set_option maxRecDepth 100000 in
theorem cloneE_nil (w : World) : Calls Try.prog 42 #[.slice none 0 0] w fun e w' => e = .returned (.slice none 0 0) ∧ w' = w := by
  have heq : ∀ W : World, (binOp .eql 71 (.slice none 0 0) (.slice none 0 0)).run Try.prog W = .ok (.bool true) W := fun W => by kernel_rfl
  go_enter Try.func42, Try.ntmps42
  go_wp2
  go_ret
  exact ⟨rfl, rfl⟩
theorem RawAt.bare {w : World} {b : Nat} {s : Raw} {F : List Nat} (h : RawAt w b s F) (hl : F.length = 3) : ∃ ml ms, RawIs w b s ml ms none 0 ∧ F = foot b ml ms (.slice none 0 0) ∧ s.first = [] := by
  obtain ⟨ml, ms, A, c, hi, rfl⟩ := h.is
  rcases hi.2.2.2.1.2 with ⟨e, h0⟩ | ⟨g, cap, cur, e, _⟩
  · injection e with e1 e2 e3
    subst e1; subst e3
    exact ⟨ml, ms, hi, by rw [e2], List.eq_nil_of_length_eq_zero e2⟩
  · rw [e] at hl
    cases hl
set_option maxHeartbeats 2000000 in
set_option maxRecDepth 100000 in
theorem copy_raw (w : World) (b : Nat) (s : Raw) (F : List Nat) (h : RawAt w b s F) (hl : F.length = 3) : Calls Try.prog 29 #[.pointer (some ⟨b, 0, none⟩)] w fun r w' => ∃ b', r = .returned (.pointer (some ⟨b', 0, none⟩)) ∧ ∃ F', RawAt w' b' s F' ∧ (∀ k, k ∈ F' → w.heap.size ≤ k) ∧ Below w.heap.size w w' := by
  obtain ⟨ml, ms, hi, rfl, hfi⟩ := h.bare hl
  have hN := hi.nine
  have c0 := hN.c0
  have c1 := hN.c1
  have c2 := hN.c2
  have c3 := hN.c3
  have c4 := hN.c4
  have c5 := hN.c5
  have c6 := hN.c6
  have c7 := hN.c7
  have c8 := hN.c8
  have hbl := hi.lt
  rw [hfi] at c4
  have HI := Lib.hid hi
  clear hi h hN
  go_enter Try.func29, Try.ntmps29
  go_wp2_with fail
  obtain ⟨W1, hW1⟩ : ∃ W1, W1 = w.alloc (.cells #[.int .i64 s.room, .map (some ml), .map (some ms), .int .i64 s.taken, .slice none 0 0, .int .i64 s.waiting, .int .i64 s.left, .int .u64 s.keep, .bool s.down] 73) := ⟨_, rfl⟩
  rw [← hW1]
  have hb1 : Below w.heap.size w W1 := by rw [hW1]; exact (Below.refl _ w).alloc (Nat.le_refl _) _
  have hi1 := HI.out.below hb1
  have hl1 := HI.out.lies
  have hm1 := hl1 ml (foot_mem.2 (.inr (.inl rfl)))
  have hm2 := hl1 ms (foot_mem.2 (.inr (.inr (.inl rfl))))
  have hz1 : W1.heap.size = w.heap.size + 1 := by rw [hW1, World.size_alloc]
  have hj1 : RawIs W1 w.heap.size s ml ms none 0 := ⟨by rw [hW1]; have h9 := heap_alloc_new w (.cells (rcells s ml ms none 0) 73); unfold rcells at h9; rw [hfi] at h9; unfold rcells; rw [hfi]; exact h9, hi1.2.1, hi1.2.2.1, hi1.2.2.2.1, by omega, by omega, hi1.2.2.2.2.2.2.1, fun g hg => by cases hg⟩
  have HW1 := Lib.hid (And.intro hb1 (And.intro hi1 hj1))
  have HZ1 := Lib.hid hz1
  clear hW1 hb1 hi1 hj1 hl1 hz1
  refine (clone_any W1 ml s.lie HW1.out.2.1.2.1).mono ?_
  rintro r w2 ⟨rfl, hn2, -, hb2⟩
  have hi2 := HW1.out.2.1.below hb2
  have hj2 := HW1.out.2.2.below hb2
  have k2 := hi2.nine.c2
  have k2' := hj2.nine.c1
  have f2 := hj2.unf 1
  have hl2 := hi2.lt
  have hl2' := hj2.lt
  have hj3 := hj2.lieNew hn2 (fun k hk e => by have := HZ1.out; have := HW1.out.2.2.lies k hk; omega)
  have hs3 : (w2.setCell ⟨w.heap.size, 1, none⟩ (.map (some W1.heap.size))).heap.size = w2.heap.size := st_size _ _ _
  have hi3 := hi2.same (w' := w2.setCell ⟨w.heap.size, 1, none⟩ (.map (some W1.heap.size))) (fun k hk => Below.heap_setCell _ _ _ _ (fun e => by have h8 : k = w.heap.size := e; have := HI.out.lies k hk; omega))
  have hb3 : Below w.heap.size w (w2.setCell ⟨w.heap.size, 1, none⟩ (.map (some W1.heap.size))) := (HW1.out.1.trans (hb2.mono (by have := HZ1.out; omega))).setCell (Nat.le_refl _) _
  have hN1 : W1.heap.size < w2.heap.size := hn2.lt
  have HW3 := Lib.hid (And.intro hi3 (And.intro hj3 (And.intro hb3 (And.intro hs3 hN1))))
  clear hi2 hj2 hn2 hb2 hj3 hi3 hb3 HW1 hs3 hN1
  go_wp2_with fail
  refine (clone_any _ ms s.seen HW3.out.1.2.2.1).mono ?_
  rintro r w4 ⟨rfl, hn4, -, hb4⟩
  rw [HW3.out.2.2.2.1] at hn4
  have hi4 := HW3.out.1.below hb4
  have hj4 := HW3.out.2.1.below hb4
  have m4 := hi4.nine.c4
  rw [hfi] at m4
  have m2 := hj4.nine.c2
  have g2 := hj4.unf 2
  have g4 := hj4.unf 4
  have m4' := hj4.nine.c4
  have hl4 := hi4.lt
  have hl4' := hj4.lt
  have hj5 := hj4.seenNew hn4 (fun k hk e => by have := HW3.out.2.1.lies k hk; rw [HW3.out.2.2.2.1] at this; omega)
  have hb5 : Below w.heap.size w (w4.setCell ⟨w.heap.size, 2, none⟩ (.map (some w2.heap.size))) := (HW3.out.2.2.1.trans (hb4.mono (by have := HW3.out.2.2.1.size; omega))).setCell (Nat.le_refl _) _
  have hN1 := HW3.out.2.2.2.2
  have HW5 := Lib.hid (And.intro hj5 hb5)
  have hs4 := HW3.out.2.2.2.1
  clear hi4 hj4 hn4 hb4 hj5 hb5 HW3 k2 k2' f2 hl2 hl2'
  simp only [hs4]
  clear hs4
  go_wp2_with (go_at_call 42; refine (cloneE_nil _).mono ?_; rintro r w9 ⟨rfl, e9⟩; subst e9)
  go_ret
  have hj9 := HW5.out.1.clear
  refine ⟨w.heap.size, rfl, foot w.heap.size W1.heap.size w2.heap.size (.slice none 0 0), ?_, fun k hk => ?_, HW5.out.2.setCell (Nat.le_refl _) _⟩
  · have h9 := hj9.at
    have e9 : ({ s with first := [] } : Raw) = s := by cases s; simp at hfi; subst hfi; rfl
    rw [← e9]
    exact h9
  · have := HZ1.out
    rcases foot_mem.1 hk with rfl | rfl | rfl | hk
    · omega
    · omega
    · omega
    · cases hk
end Go.Proofs.Ytdgfbpkpfmdjjaa.Hk
