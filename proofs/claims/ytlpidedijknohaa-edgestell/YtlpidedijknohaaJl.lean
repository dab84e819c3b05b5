/-
  Layer 12: the laws' awake.
-/
import Derived.Test.YtlpidedijknohaaJk
namespace Go.Proofs.Ytlpidedijknohaa.Hq
open Go.RowKit Ob Hr Hj Eg
set_option linter.unusedVariables false

theorem rowIn_cell {α : Type} [Inhabited α] {k : Nat} {f : α → List Value} {W : World} {lo up : Nat} {A : Option Addr} {l : List α} (h : RowIn k f W lo up A l) (hl : 0 < l.length) : ∃ g, A = some ⟨g, 0, none⟩ ∧ lo ≤ g ∧ g < up ∧ ∀ i j, i < l.length → j < k → W.cell? ⟨g, i * k + j, none⟩ = (f (l.getD i default))[j]? := by
  rcases h with rfl | ⟨g, cur, t, e, h1, h2, h3, h4⟩
  · exact absurd hl (by simp)
  · exact ⟨g, e, h1, h2, fun i j hi hj => by rw [Hg.cell_of_cells h3, h4 i j hi hj]⟩
def oA : Thing := ⟨3, ⟨#[]⟩, [], ⟨#[116]⟩, [⟨#[112]⟩], ⟨#[]⟩, 0, ⟨#[]⟩, ⟨#[]⟩, 0⟩
def oB : Thing := ⟨3, ⟨#[]⟩, [], ⟨#[116, 116]⟩, [⟨#[112, 112]⟩], ⟨#[]⟩, 0, ⟨#[]⟩, ⟨#[]⟩, 0⟩
theorem edges_A : edgesF oA = [(⟨#[116]⟩, 2), (⟨#[112]⟩, 3)] := rfl
theorem names_A : namesF oA = [⟨#[112]⟩, ⟨#[116]⟩] := by decide +kernel
theorem with_A : withF oA ((List.range (edgesF oA).length).map fun i => ((edgesF oA).getD i default).1 ++ ((edgesF oA).getD i default).1) = oB := by
  have h := range_ids oA (fun s => s ++ s)
  rw [h]
  rfl
theorem lies_A {W : World} {g : Nat} (h : BoxAt W g 9 #[.string ⟨#[112]⟩]) : Lies W W.heap.size oA none (some ⟨g, 0, none⟩) :=
  ⟨recs_nil _ _ _, fun i hi => by
    have hi0 : i = 0 := by simpa [oA] using hi
    subst hi0
    exact ⟨_, rfl, h.lt, h.cell 0⟩⟩
theorem ed_eq (W : World) : (binOp .eql 36 (.agg #[.string ⟨#[116]⟩, .int .i64 2]) (.agg #[.string ⟨#[116]⟩, .int .i64 2])).run Try.prog W = .ok (.bool true) W := by kernel_rfl

/-- what some cells hold -/
def Cells (W : World) (l : List (Addr × Value)) : Prop := ∀ q ∈ l, W.cell? q.1 = some q.2
theorem Cells.step {W W' : World} {l : List (Addr × Value)} (h : Cells W l) (hb : Below W.heap.size W W') : Cells W' l := fun q hq => (hb.cell (World.block_lt_of_cell? _ _ (h q hq))).trans (h q hq)
theorem Cells.more {W : World} {l m : List (Addr × Value)} (h : Cells W l) (k : Cells W m) : Cells W (l ++ m) := fun q hq => (List.mem_append.1 hq).elim (h q) (k q)
theorem mapA (W : World) (g : Nat) (h : BoxAt W g 9 #[.string ⟨#[112]⟩]) : Calls Try.prog 13 #[.agg #[.int .i64 3, .string ⟨#[]⟩, .slice none 0 0, .string ⟨#[116]⟩, .slice (some ⟨g, 0, none⟩) 1 1, .string ⟨#[]⟩, .int .i64 0, .string ⟨#[]⟩, .string ⟨#[]⟩, .int .i64 0], .func (.func 21) #[] #[]] W fun e w' => ∃ A' c' gp d', e = .returned (.tuple #[.agg #[.int .i64 3, .string ⟨#[]⟩, .slice A' 0 c', .string ⟨#[116, 116]⟩, .slice (some ⟨gp, 0, none⟩) 1 d', .string ⟨#[]⟩, .int .i64 0, .string ⟨#[]⟩, .string ⟨#[]⟩, .int .i64 0], .int .i64 0]) ∧ Cells w' [(⟨gp, 0, none⟩, .string ⟨#[112, 112]⟩)] ∧ Below W.heap.size W w' := by
  refine (pMap_any W oA none 0 (some ⟨g, 0, none⟩) 1 (fun i => ((edgesF oA).getD i default).1 ++ ((edgesF oA).getD i default).1) (fun _ => 0) 21 #[] (fun _ V => Below W.heap.size W V)
    (ok_plain (enters_of Try.func21 (by kernel_rfl) rfl) (fun i V _ hi => clTwice V _ _ (by
      have hi2 : i < 2 := hi
      rcases (by omega : i = 0 ∨ i = 1) with rfl | rfl <;> decide))) (Below.refl _ _) (lies_A h) (by decide) (by decide) 2 (by decide) (fun _ _ => rfl) (fun h => absurd h (by decide))).mono ?_
  rintro e w' ⟨_, h1, _⟩
  obtain ⟨A', c', P', d', M, U, he, hs, hr1, hr2, _, _, _⟩ := h1 rfl
  rw [with_A] at he hr1 hr2
  obtain ⟨gp, rfl, _, _, hc⟩ := rowIn_cell hr2 (by decide)
  exact ⟨A', c', gp, d', he, fun q hq => by
    obtain rfl := List.mem_singleton.1 hq
    exact hc 0 0 (by decide) (by decide), hs⟩
theorem mapB (W : World) (g : Nat) (h : BoxAt W g 9 #[.string ⟨#[112]⟩]) : Calls Try.prog 13 #[.agg #[.int .i64 3, .string ⟨#[]⟩, .slice none 0 0, .string ⟨#[116]⟩, .slice (some ⟨g, 0, none⟩) 1 1, .string ⟨#[]⟩, .int .i64 0, .string ⟨#[]⟩, .string ⟨#[]⟩, .int .i64 0], .func (.func 22) #[] #[]] W fun e w' => e = .returned (.tuple #[.agg #[.int .i64 0, .string ⟨#[]⟩, .slice none 0 0, .string ⟨#[]⟩, .slice none 0 0, .string ⟨#[]⟩, .int .i64 0, .string ⟨#[]⟩, .string ⟨#[]⟩, .int .i64 0], .int .i64 6]) ∧ Below W.heap.size W w' := by
  refine (pMap_any W oA none 0 (some ⟨g, 0, none⟩) 1 (fun i => ⟨#[]⟩) (fun _ => 6) 22 #[] (fun _ V => Below W.heap.size W V)
    (ok_plain (enters_of Try.func22 (by kernel_rfl) rfl) (fun i V _ hi => clMiss V _ _)) (Below.refl _ _) (lies_A h) (by decide) (by decide) 0 (by decide) (fun i h => absurd h (by omega)) (fun _ => by decide)).mono ?_
  rintro e w' ⟨_, _, h2⟩
  exact h2 (by decide)
theorem ofA (W : World) (g : Nat) (h : BoxAt W g 9 #[.string ⟨#[112]⟩]) : Calls Try.prog 8 #[.agg #[.int .i64 3, .string ⟨#[]⟩, .slice none 0 0, .string ⟨#[116]⟩, .slice (some ⟨g, 0, none⟩) 1 1, .string ⟨#[]⟩, .int .i64 0, .string ⟨#[]⟩, .string ⟨#[]⟩, .int .i64 0]] W fun e w' => ∃ ge c2, e = .returned (.slice (some ⟨ge, 0, none⟩) 2 c2) ∧ Cells w' [(⟨ge, 0, none⟩, .string ⟨#[116]⟩), (⟨ge, 1, none⟩, .int .i64 2), (⟨ge, 2, none⟩, .string ⟨#[112]⟩), (⟨ge, 3, none⟩, .int .i64 3)] ∧ Below W.heap.size W w' := by
  refine (pOf_any W W.heap.size oA none 0 (some ⟨g, 0, none⟩) 1 (lies_A h) (Nat.le_refl _) (by decide) (by decide)).mono ?_
  rintro e w' ⟨⟨A2, c2, he, ho⟩, hb⟩
  obtain ⟨A, c, e1, hr⟩ := rowIn_own edV_len (by omega) ho
  injection e1 with e1 _ _
  rw [← e1, edges_A] at hr
  obtain ⟨ge, rfl, _, _, hc⟩ := rowIn_cell hr (by decide)
  refine ⟨ge, c2, he, fun q hq => ?_, hb⟩
  simp only [List.mem_cons, List.not_mem_nil, or_false] at hq
  rcases hq with rfl | rfl | rfl | rfl
  · exact hc 0 0 (by decide) (by decide)
  · exact hc 0 1 (by decide) (by decide)
  · exact hc 1 0 (by decide) (by decide)
  · exact hc 1 1 (by decide) (by decide)
theorem namesA (W : World) (g : Nat) (h : BoxAt W g 9 #[.string ⟨#[112]⟩]) : Calls Try.prog 11 #[.agg #[.int .i64 3, .string ⟨#[]⟩, .slice none 0 0, .string ⟨#[116]⟩, .slice (some ⟨g, 0, none⟩) 1 1, .string ⟨#[]⟩, .int .i64 0, .string ⟨#[]⟩, .string ⟨#[]⟩, .int .i64 0]] W fun e w' => ∃ ad c2, e = .returned (.slice (some ad) 2 c2) ∧ Cells w' [(ad, .string ⟨#[112]⟩)] ∧ Below W.heap.size W w' := by
  refine (pNames_any W W.heap.size oA none 0 (some ⟨g, 0, none⟩) 1 (lies_A h) (Nat.le_refl _) (by decide) (by decide)).mono ?_
  rintro e w' ⟨⟨A2, c2, he, ho⟩, hb⟩
  rw [names_A] at he ho
  obtain ⟨ad, rfl, _, hc⟩ := ho 0 (by decide)
  exact ⟨ad, c2, he, fun q hq => by
    obtain rfl := List.mem_singleton.1 hq
    exact hc, hb⟩

set_option maxHeartbeats 8000000 in
set_option maxRecDepth 100000 in
theorem awake12_any (w : World) : Calls Try.prog 6 #[] w fun e w' => e = .returned (.bool true) ∧ Below w.heap.size w w' := by
  have M1 := Lib.hid mapA
  have M2 := Lib.hid mapB
  have OF := Lib.hid ofA
  have NM := Lib.hid namesA
  go_enter Try.func6, Try.ntmps6
  go_upto_region 2 with fail
  have HP := Lib.hid (two_new w 9 25 #[.string ⟨#[112]⟩] #[.int .i64 3, .string ⟨#[]⟩, .slice none 0 0, .string ⟨#[116]⟩, .slice (some ⟨w.heap.size, 0, none⟩) 1 1, .string ⟨#[]⟩, .int .i64 0, .string ⟨#[]⟩, .string ⟨#[]⟩, .int .i64 0])
  generalize (w.alloc (.cells #[.string ⟨#[112]⟩] 9 (0, 0))).alloc (.cells #[.int .i64 3, .string ⟨#[]⟩, .slice none 0 0, .string ⟨#[116]⟩, .slice (some ⟨w.heap.size, 0, none⟩) 1 1, .string ⟨#[]⟩, .int .i64 0, .string ⟨#[]⟩, .string ⟨#[]⟩, .int .i64 0] 25 (0, 0)) = W1 at *
  have HC := Lib.hid (show Cells W1 [(⟨w.heap.size, 0, none⟩, .string ⟨#[112]⟩), (⟨w.heap.size + 1, 0, none⟩, .int .i64 3), (⟨w.heap.size + 1, 1, none⟩, .string ⟨#[]⟩), (⟨w.heap.size + 1, 2, none⟩, .slice none 0 0), (⟨w.heap.size + 1, 3, none⟩, .string ⟨#[116]⟩), (⟨w.heap.size + 1, 4, none⟩, .slice (some ⟨w.heap.size, 0, none⟩) 1 1), (⟨w.heap.size + 1, 5, none⟩, .string ⟨#[]⟩), (⟨w.heap.size + 1, 6, none⟩, .int .i64 0), (⟨w.heap.size + 1, 7, none⟩, .string ⟨#[]⟩), (⟨w.heap.size + 1, 8, none⟩, .string ⟨#[]⟩), (⟨w.heap.size + 1, 9, none⟩, .int .i64 0)] from by
    intro q hq
    simp only [List.mem_cons, List.not_mem_nil, or_false] at hq
    rcases hq with rfl | rfl | rfl | rfl | rfl | rfl | rfl | rfl | rfl | rfl | rfl
    · exact HP.out.a.cell 0
    · exact HP.out.b.cell 0
    · exact HP.out.b.cell 1
    · exact HP.out.b.cell 2
    · exact HP.out.b.cell 3
    · exact HP.out.b.cell 4
    · exact HP.out.b.cell 5
    · exact HP.out.b.cell 6
    · exact HP.out.b.cell 7
    · exact HP.out.b.cell 8
    · exact HP.out.b.cell 9)
  have HQ := Lib.hid (And.intro HP.out.a HP.out.below)
  clear HP
  have hc := HC.out; simp only [Cells, List.forall_mem_cons, List.not_mem_nil, false_implies, implies_true, and_true] at hc; obtain ⟨x0, c0, c1, c2, c3, c4, c5, c6, c7, c8, c9⟩ := hc
  go_upto_region 3 with (go_at_call 8; refine (OF.out _ _ HQ.out.1).mono ?_; rintro r w2 ⟨ge, ce, rfl, hc2, hb2⟩; have HC := Lib.hid ((HC.out.step hb2).more hc2); have HQ := Lib.hid (And.intro (HQ.out.1.step hb2) (HQ.out.2.trans (hb2.mono HQ.out.2.size))); clear hc2 hb2 x0 c0 c1 c2 c3 c4 c5 c6 c7 c8 c9; have hc := HC.out; simp only [Cells, List.cons_append, List.nil_append, List.forall_mem_cons, List.not_mem_nil, false_implies, implies_true, and_true] at hc; obtain ⟨x0, c0, c1, c2, c3, c4, c5, c6, c7, c8, c9, e0, e1, e2, e3⟩ := hc)
  go_upto_region 4 with (go_at_call 13; refine (M1.out _ _ HQ.out.1).mono ?_; rintro r w3 ⟨A', c', gp, d', rfl, hc3, hb3⟩; have HC := Lib.hid ((HC.out.step hb3).more hc3); have HQ := Lib.hid (And.intro (HQ.out.1.step hb3) (HQ.out.2.trans (hb3.mono HQ.out.2.size))); clear hc3 hb3 x0 c0 c1 c2 c3 c4 c5 c6 c7 c8 c9 e0 e1 e2 e3)
  have hb4 : Below w3.heap.size w3 (w3.alloc (.cells #[.int .i64 3, .string ⟨#[]⟩, .slice A' 0 c', .string ⟨#[116, 116]⟩, .slice (some ⟨gp, 0, none⟩) 1 d', .string ⟨#[]⟩, .int .i64 0, .string ⟨#[]⟩, .string ⟨#[]⟩, .int .i64 0] 25 (0, 0))) := (Below.refl _ w3).alloc (Nat.le_refl _) _
  have hx4 := box_new w3 25 #[.int .i64 3, .string ⟨#[]⟩, .slice A' 0 c', .string ⟨#[116, 116]⟩, .slice (some ⟨gp, 0, none⟩) 1 d', .string ⟨#[]⟩, .int .i64 0, .string ⟨#[]⟩, .string ⟨#[]⟩, .int .i64 0]
  have HC := Lib.hid ((HC.out.step hb4).more (m := [(⟨w3.heap.size, 3, none⟩, .string ⟨#[116, 116]⟩), (⟨w3.heap.size, 4, none⟩, .slice (some ⟨gp, 0, none⟩) 1 d')]) (by
    intro q hq
    simp only [List.mem_cons, List.not_mem_nil, or_false] at hq
    rcases hq with rfl | rfl
    · exact hx4.cell 3
    · exact hx4.cell 4))
  have HQ := Lib.hid (And.intro (HQ.out.1.step hb4) (HQ.out.2.trans (hb4.mono HQ.out.2.size)))
  clear hb4 hx4
  generalize w3.alloc (.cells #[.int .i64 3, .string ⟨#[]⟩, .slice A' 0 c', .string ⟨#[116, 116]⟩, .slice (some ⟨gp, 0, none⟩) 1 d', .string ⟨#[]⟩, .int .i64 0, .string ⟨#[]⟩, .string ⟨#[]⟩, .int .i64 0] 25 (0, 0)) = W4 at *
  generalize w3.heap.size = g3 at *
  have hc := HC.out; simp only [Cells, List.cons_append, List.nil_append, List.forall_mem_cons, List.not_mem_nil, false_implies, implies_true, and_true] at hc; obtain ⟨x0, c0, c1, c2, c3, c4, c5, c6, c7, c8, c9, e0, e1, e2, e3, p0, p3, p4⟩ := hc
  go_upto_region 5 with (go_at_call 13; refine (M2.out _ _ HQ.out.1).mono ?_; rintro r w5 ⟨rfl, hb5⟩; have HC := Lib.hid (HC.out.step hb5); have HQ := Lib.hid (And.intro (HQ.out.1.step hb5) (HQ.out.2.trans (hb5.mono HQ.out.2.size))); clear hb5 x0 c0 c1 c2 c3 c4 c5 c6 c7 c8 c9 e0 e1 e2 e3 p0 p3 p4)
  have hb6 : Below w5.heap.size w5 (w5.alloc (.cells #[.int .i64 0, .string ⟨#[]⟩, .slice none 0 0, .string ⟨#[]⟩, .slice none 0 0, .string ⟨#[]⟩, .int .i64 0, .string ⟨#[]⟩, .string ⟨#[]⟩, .int .i64 0] 25 (0, 0))) := (Below.refl _ w5).alloc (Nat.le_refl _) _
  have HC := Lib.hid (HC.out.step hb6)
  have HQ := Lib.hid (And.intro (HQ.out.1.step hb6) (HQ.out.2.trans (hb6.mono HQ.out.2.size)))
  clear hb6
  generalize w5.alloc (.cells #[.int .i64 0, .string ⟨#[]⟩, .slice none 0 0, .string ⟨#[]⟩, .slice none 0 0, .string ⟨#[]⟩, .int .i64 0, .string ⟨#[]⟩, .string ⟨#[]⟩, .int .i64 0] 25 (0, 0)) = W6 at *
  generalize w5.heap.size = g5 at *
  have hc := HC.out; simp only [Cells, List.cons_append, List.nil_append, List.forall_mem_cons, List.not_mem_nil, false_implies, implies_true, and_true] at hc; obtain ⟨x0, c0, c1, c2, c3, c4, c5, c6, c7, c8, c9, e0, e1, e2, e3, p0, p3, p4⟩ := hc
  go_upto_region 6 with (go_at_call 11; refine (NM.out _ _ HQ.out.1).mono ?_; rintro r w7 ⟨ad, cn, rfl, hc7, hb7⟩; have HC := Lib.hid ((HC.out.step hb7).more hc7); have HQ := Lib.hid (And.intro (HQ.out.1.step hb7) (HQ.out.2.trans (hb7.mono HQ.out.2.size))); clear hc7 hb7 x0 c0 c1 c2 c3 c4 c5 c6 c7 c8 c9 e0 e1 e2 e3 p0 p3 p4)
  have hc := HC.out; simp only [Cells, List.cons_append, List.nil_append, List.forall_mem_cons, List.not_mem_nil, false_implies, implies_true, and_true] at hc; obtain ⟨x0, c0, c1, c2, c3, c4, c5, c6, c7, c8, c9, e0, e1, e2, e3, p0, p3, p4, n0⟩ := hc
  have hq1 := ed_eq
  have hq2 : ((⟨#[116, 116]⟩ : ByteArray).toList == (⟨#[116, 116]⟩ : ByteArray).toList) = true := by simp
  have hq3 : ((⟨#[112, 112]⟩ : ByteArray).toList == (⟨#[112, 112]⟩ : ByteArray).toList) = true := by simp
  have hq4 : ((⟨#[112]⟩ : ByteArray).toList == (⟨#[112]⟩ : ByteArray).toList) = true := by simp
  go_wp2
  go_ret
  exact ⟨rfl, HQ.out.2⟩
end Go.Proofs.Ytlpidedijknohaa.Hq
