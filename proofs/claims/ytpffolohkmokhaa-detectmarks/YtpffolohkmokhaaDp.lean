/-
  Contracts of the program's and the document's Vectors (layer 5): the list lies in memory, three numbers a vector.
-/
import Derived.Test.YtpffolohkmokhaaDn
import Derived.Maps.AppendAt
import Derived.OwnWalk
namespace Go.Proofs.Ytpffolohkmokhaa.Hd
open Go.RowKit Hs Hp
set_option linter.unusedVariables false

/-- vectors as cells -/
def vcells (l : List (Nat × Nat)) : List Value := l.flatMap fun p => [.int .i64 p.1, .int .i64 p.2, .int .i64 0]
theorem vcells_length (l : List (Nat × Nat)) : (vcells l).length = l.length * 3 := by
  induction l with
  | nil => rfl
  | cons p l ih => simp [vcells] at *; omega
theorem vcells_get (l : List (Nat × Nat)) : ∀ (i j : Nat), i < l.length → j < 3 → (vcells l)[3 * i + j]? = (vs (l.getD i (0, 0)).1 (l.getD i (0, 0)).2 0)[j]? := by
  induction l with
  | nil => intro i j h; simp at h
  | cons p l ih =>
    intro i j hi hj
    have hc : vcells (p :: l) = [.int .i64 p.1, .int .i64 p.2, .int .i64 0] ++ vcells l := rfl
    rw [hc]
    cases i with
    | zero => rw [List.getElem?_append_left (by simpa using hj)]; simp [vs]
    | succ i =>
      rw [List.getElem?_append_right (by simp; omega), show 3 * (i + 1) + j - [Value.int .i64 (p.1 : Int), .int .i64 (p.2 : Int), .int .i64 0].length = 3 * i + j by simp; omega, ih i j (by simpa using hi) hj]
      simp
theorem vcells_snoc (l : List (Nat × Nat)) (n : Nat) (p : Nat × Nat) (h : l[n]? = some p) : vcells (l.take (n + 1)) = vcells (l.take n) ++ [.int .i64 p.1, .int .i64 p.2, .int .i64 0] := by
  rw [List.take_add_one, h]
  simp [vcells]
theorem vec_one (n : Nat) (h : n < 9) : Dv.vecs[n]? = some (1, 43 + n) := by
  have h' : ∀ m : Fin 9, Dv.vecs[m.val]? = some (1, 43 + m.val) := by decide +kernel
  exact h' ⟨n, h⟩
theorem vec_two (n : Nat) (h : n < 12) : Dv.vecs[9 + n]? = some (2, 45 + n) := by
  have h' : ∀ m : Fin 12, Dv.vecs[9 + m.val]? = some (2, 45 + m.val) := by decide +kernel
  exact h' ⟨n, h⟩

/-- the vectors lie in a block -/
def Vl (w : World) (g : Nat) : Prop := ∀ j, j < 63 → w.cell? ⟨g, j, none⟩ = (vcells Dv.vecs)[j]?
theorem Vl.below {w w' : World} {g B : Nat} (h : Vl w g) (hb : Below B w w') (hg : g < B) : Vl w' g := fun j hj => by rw [hb.cell (p := ⟨g, j, none⟩) hg]; exact h j hj
theorem Vl.cells {w : World} {g : Nat} (h : Vl w g) (i : Nat) (hi : i < 21) (j : Nat) (v : Value) (hv : (vs (Dv.vecs.getD i (0, 0)).1 (Dv.vecs.getD i (0, 0)).2 0)[j]? = some v) : w.cell? ⟨g, 3 * i + j, none⟩ = some v := by
  have hj : j < 3 := (Array.getElem?_eq_some_iff.1 hv).1
  rw [h _ (by omega), vcells_get Dv.vecs i j hi hj]
  exact hv
theorem Vl.load23 {w : World} {g : Nat} (h : Vl w g) (i : Nat) (hi : i < 21) : (loadVar 23 ⟨g, i * 3, none⟩).run Try.prog w = .ok (.agg (vs (Dv.vecs.getD i (0, 0)).1 (Dv.vecs.getD i (0, 0)).2 0)) w :=
  run_loadVar_sub w g (i * 3) _ _ _ (fun j v hv => by rw [Nat.mul_comm i 3]; exact h.cells i hi j v hv) Try.underlying23 rfl (info23 _ _ _)
theorem info29v (ty K B : Int) : (Try.prog.info? 29).map (·.size) = some (vs ty K B).size := by
  have : (Try.prog.info? 29).map (·.size) = some 3 := by kernel_rfl
  rw [this]; rfl
theorem Vl.load29 {w : World} {g : Nat} (h : Vl w g) (i : Nat) (hi : i < 21) : (loadVar 29 ⟨g, i * 3, none⟩).run Try.prog w = .ok (.agg (vs (Dv.vecs.getD i (0, 0)).1 (Dv.vecs.getD i (0, 0)).2 0)) w :=
  run_loadVar_sub w g (i * 3) _ _ _ (fun j v hv => by rw [Nat.mul_comm i 3]; exact h.cells i hi j v hv) Try.underlying29 rfl (info29v _ _ _)
theorem Vl.of_own {w : World} {base : Nat} {v : Value} (h : w.ownsRow base 23 3 v 21 (vcells Dv.vecs)) : ∃ g cap, v = .slice (some ⟨g, 0, none⟩) 21 cap ∧ base ≤ g ∧ g < w.heap.size ∧ Vl w g := by
  obtain ⟨hl, ⟨_, h0⟩ | ⟨g, cap, cur, rfl, hb, hg, _, _, _, hx⟩⟩ := h
  · omega
  · refine ⟨g, cap, rfl, hb, (Array.getElem?_eq_some_iff.1 hg).1, fun j hj => ?_⟩
    rw [cell_of_row w g j cur _ _ hg, ← hx, List.getElem?_take_of_lt (by omega)]
    simp

set_option maxHeartbeats 2000000 in
set_option maxRecDepth 100000 in
theorem vectors_any (w : World) : Calls Try.prog 7 #[] w fun e w' => ∃ g cap, e = .returned (.slice (some ⟨g, 0, none⟩) 21 cap) ∧ w.heap.size ≤ g ∧ g < w'.heap.size ∧ Vl w' g ∧ Below w.heap.size w w' := by
  have hinf : (Try.prog.info? 23).map (fun i => (i.zero, i.size, i.bytes)) = some (some (.agg #[.int .i64 0, .int .i64 0, .int .i64 0]), 3, 24) := by kernel_rfl
  obtain ⟨i0, hi0, hz0, hs0, hb0⟩ : ∃ i0, Try.prog.info? 23 = some i0 ∧ i0.zero = some (.agg #[.int .i64 0, .int .i64 0, .int .i64 0]) ∧ i0.size = 3 ∧ i0.bytes = 24 := by
    cases hq : Try.prog.info? 23 with
    | none => simp [hq] at hinf
    | some i => simp [hq] at hinf; exact ⟨i, rfl, hinf.1, hinf.2.1, hinf.2.2⟩
  have HI := Lib.hid (And.intro hi0 (And.intro hz0 (And.intro hs0 hb0)))
  clear hinf hi0 hz0 hs0 hb0
  go_enter Try.func7, Try.ntmps7
  go_wp2
  go_loopg [1, 2] 9 (fun g v i wr => ∃ n : Nat, n ≤ 9 ∧ g = 9 - n ∧ i = .int .i64 ((43 + n : Nat) : Int) ∧ Below w.heap.size w wr ∧ wr.ownsRow w.heap.size 23 3 v n (vcells (Dv.vecs.take n)))
  case atStart => exact ⟨0, Nat.zero_le _, rfl, rfl, Below.refl _ _, ⟨rfl, .inl ⟨rfl, rfl⟩⟩⟩
  case round =>
    obtain ⟨n, hn, rfl, rfl, hbl, hown⟩ := hrel
    by_cases hlt : n < 9
    · have hnx := vcells_snoc Dv.vecs n _ (vec_one n hlt)
      have HQ := Lib.hid (show ((43 + n : Nat) : Int) + 1 = ((43 + (n + 1) : Nat) : Int) by omega)
      have h1 : ((43 + n : Nat) : Int) ≤ 51 := by omega
      have hblw := hbl.size
      generalize 43 + n = k at *
      generalize vcells (Dv.vecs.take n) = xs at *
      have HNX := Lib.hid hnx
      have HO := Lib.hid hown
      have HB := Lib.hid hbl
      clear hnx hown hbl
      go_wp2_with (at_builtin; refine wpList_append_own_at _ rfl (.tmp 8) (.tmp 11) 25 rfl w.heap.size 23 i0 _ 3 24 Try.underlying25 HI.out.1 HI.out.2.1 HI.out.2.2.1 HI.out.2.2.2 rfl (by omega) u1 n xs rfl (HO.out.alloc _) ⟨wr.heap.size, 0, none⟩ 1 1 [.int .i64 1, .int .i64 k, .int .i64 0] rfl rfl (World.news_of_block (cs := #[.int .i64 1, .int .i64 k, .int .i64 0]) (t := 23) (fr := (0, 0)) (heap_alloc_new wr _)) (by simp [Value.oneCell']) (by unfold maxLen; omega) (by omega) (by simp; omega) ?_; intro v1 wA hoA hgA hnA hatA)
      have hown2 : wA.ownsRow w.heap.size 23 3 v1 (n + 1) (vcells (Dv.vecs.take (n + 1))) := by
        rw [HNX.out]
        exact hoA
      have hbl2 : Below w.heap.size w wA := (HB.out.alloc hblw _).grown hgA (by simp; omega) (fun i hi => (HO.out.lt i hi).1)
      have HO2 := Lib.hid hown2
      have HB2 := Lib.hid hbl2
      clear hown2 hbl2 hoA hgA hnA hatA
      go_roundg (9 - (n + 1))
      case rel => exact ⟨n + 1, by omega, rfl, by rw [← HQ.out], HB2.out, HO2.out⟩
      case measure => omega
    · obtain rfl : n = 9 := by omega
      have HO := Lib.hid hown
      have HB := Lib.hid hbl
      clear hown hbl
      go_wp2
      go_loopg [1, 3] 12 (fun g v i wr => ∃ n : Nat, n ≤ 12 ∧ g = 12 - n ∧ i = .int .i64 ((45 + n : Nat) : Int) ∧ Below w.heap.size w wr ∧ wr.ownsRow w.heap.size 23 3 v (9 + n) (vcells (Dv.vecs.take (9 + n))))
      case atStart => exact ⟨0, Nat.zero_le _, rfl, rfl, HB.out, HO.out⟩
      case round =>
        obtain ⟨n, hn, rfl, rfl, hbl, hown⟩ := hrel
        clear HO HB
        by_cases hlt : n < 12
        · have hnx := vcells_snoc Dv.vecs (9 + n) _ (vec_two n hlt)
          have HQ := Lib.hid (show ((45 + n : Nat) : Int) + 1 = ((45 + (n + 1) : Nat) : Int) by omega)
          have h1 : ((45 + n : Nat) : Int) ≤ 56 := by omega
          have hblw := hbl.size
          generalize 45 + n = k at *
          generalize vcells (Dv.vecs.take (9 + n)) = xs at *
          have HNX := Lib.hid hnx
          have HO := Lib.hid hown
          have HB := Lib.hid hbl
          clear hnx hown hbl
          go_wp2_with (at_builtin; refine wpList_append_own_at _ rfl (.tmp 17) (.tmp 20) 25 rfl w.heap.size 23 i0 _ 3 24 Try.underlying25 HI.out.1 HI.out.2.1 HI.out.2.2.1 HI.out.2.2.2 rfl (by omega) u1 (9 + n) xs rfl (HO.out.alloc _) ⟨wr.heap.size, 0, none⟩ 1 1 [.int .i64 2, .int .i64 k, .int .i64 0] rfl rfl (World.news_of_block (cs := #[.int .i64 2, .int .i64 k, .int .i64 0]) (t := 23) (fr := (0, 0)) (heap_alloc_new wr _)) (by simp [Value.oneCell']) (by unfold maxLen; omega) (by omega) (by simp; omega) ?_; intro v1 wA hoA hgA hnA hatA)
          have hown2 : wA.ownsRow w.heap.size 23 3 v1 (9 + (n + 1)) (vcells (Dv.vecs.take (9 + (n + 1)))) := by
            rw [show 9 + (n + 1) = 9 + n + 1 by omega, HNX.out]
            exact hoA
          have hbl2 : Below w.heap.size w wA := (HB.out.alloc hblw _).grown hgA (by simp; omega) (fun i hi => (HO.out.lt i hi).1)
          have HO2 := Lib.hid hown2
          have HB2 := Lib.hid hbl2
          clear hown2 hbl2 hoA hgA hnA hatA
          go_roundg (12 - (n + 1))
          case rel => exact ⟨n + 1, by omega, rfl, by rw [← HQ.out], HB2.out, HO2.out⟩
          case measure => omega
        · obtain rfl : n = 12 := by omega
          obtain ⟨g, cap, rfl, hg1, hg2, hvl⟩ := Vl.of_own hown
          have HV := Lib.hid hvl
          have HB := Lib.hid hbl
          clear hown hbl hvl
          go_wp2
          go_ret
          exact ⟨g, cap, rfl, hg1, hg2, HV.out, HB.out⟩

set_option maxHeartbeats 2000000 in
set_option maxRecDepth 100000 in
theorem rvectors_any (w : World) : Calls Try.prog 8 #[] w fun e w' => e = .returned (.slice (some ⟨w.heap.size, 0, none⟩) 21 21) ∧ w.heap.size < w'.heap.size ∧ Vl w' w.heap.size ∧ Below w.heap.size w w' := by
  go_enter Try.func8, Try.ntmps8
  go_wp2
  go_ret
  refine ⟨rfl, by simp, fun j hj => ?_, (Below.refl _ w).alloc (Nat.le_refl _) _⟩
  rw [cell_of_row _ _ j _ _ _ (heap_alloc_new w _)]
  refine (congrArg (fun a : Array Value => a[j]?) (?_ : _ = (vcells Dv.vecs).toArray)).trans (by simp)
  kernel_rfl
end Go.Proofs.Ytpffolohkmokhaa.Hd
