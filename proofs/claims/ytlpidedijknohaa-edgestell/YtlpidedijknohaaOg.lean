/-
  Layer 11: the document's Same; the laws' Few.
-/
import Derived.Test.YtlpidedijknohaaOe
namespace Go.Proofs.Ytlpidedijknohaa.Hj
open Go.RowKit Ob Hr
set_option linter.unusedVariables false

theorem same_bool (o p : Thing) : same o p = ((o.kind == p.kind) && (o.text.toList == p.text.toList) && entsSame o.ents p.ents && (o.tree.toList == p.tree.toList) && textsSame o.parents p.parents && (o.target.toList == p.target.toList) && (o.ofk == p.ofk) && (o.name.toList == p.name.toList) && (o.who.toList == p.who.toList) && (o.time == p.time)) := by
  simp only [same, str_eqb, int_eqb, textsSame]

set_option maxHeartbeats 8000000 in
set_option maxRecDepth 100000 in
theorem same_any (w : World) (B : Nat) (o p : Thing) (A : Option Addr) (c : Nat) (P : Option Addr) (d : Nat) (A' : Option Addr) (c' : Nat) (P' : Option Addr) (d' : Nat) (h : Lies w B o A P) (h' : Lies w B p A' P') (hB : B ≤ w.heap.size) (hl : o.ents.length ≤ 1000000) (hl2 : o.parents.length ≤ 1000000) :
    Calls Try.prog 15 #[.agg (objC o A c P d), .agg (objC p A' c' P' d')] w fun e w' => e = .returned (.bool (same o p)) ∧ Below w.heap.size w w' := by
  have HE := Lib.hid (fun W (hb : Below w.heap.size w W) => entries_any W B A A' c c' o.ents p.ents (h.ents.below (hb.mono hB)) (h'.ents.below (hb.mono hB)) hl (Nat.le_trans hB hb.size))
  have HT := Lib.hid (fun W (hb : Below w.heap.size w W) => texts_any W B P P' d d' o.parents p.parents (h.pars.below (hb.mono hB)) (h'.pars.below (hb.mono hB)) hl2 (Nat.le_trans hB hb.size))
  have HP := Lib.hid (two_new w 25 25 (objC o A c P d) (objC p A' c' P' d'))
  rw [same_bool]
  generalize entsSame o.ents p.ents = b2 at *
  generalize textsSame o.parents p.parents = b4 at *
  obtain ⟨b0, e0⟩ : ∃ b, (o.kind == p.kind) = b := ⟨_, rfl⟩
  obtain ⟨b1, e1⟩ : ∃ b, (o.text.toList == p.text.toList) = b := ⟨_, rfl⟩
  obtain ⟨b3, e3⟩ : ∃ b, (o.tree.toList == p.tree.toList) = b := ⟨_, rfl⟩
  obtain ⟨b5, e5⟩ : ∃ b, (o.target.toList == p.target.toList) = b := ⟨_, rfl⟩
  obtain ⟨b6, e6⟩ : ∃ b, (o.ofk == p.ofk) = b := ⟨_, rfl⟩
  obtain ⟨b7, e7⟩ : ∃ b, (o.name.toList == p.name.toList) = b := ⟨_, rfl⟩
  obtain ⟨b8, e8⟩ : ∃ b, (o.who.toList == p.who.toList) = b := ⟨_, rfl⟩
  obtain ⟨b9, e9⟩ : ∃ b, (o.time == p.time) = b := ⟨_, rfl⟩
  rw [e0, e1, e3, e5, e6, e7, e8, e9]
  clear h h' hl hl2
  rcases (by cases b0 <;> cases b1 <;> cases b2 <;> cases b3 <;> cases b4 <;> cases b5 <;> cases b6 <;> cases b7 <;> cases b8 <;> cases b9 <;> simp : b0 = false ∨ (b0 = true ∧ b1 = false) ∨ (b0 = true ∧ b1 = true ∧ b2 = false) ∨ (b0 = true ∧ b1 = true ∧ b2 = true ∧ b3 = false) ∨ (b0 = true ∧ b1 = true ∧ b2 = true ∧ b3 = true ∧ b4 = false) ∨ (b0 = true ∧ b1 = true ∧ b2 = true ∧ b3 = true ∧ b4 = true ∧ b5 = false) ∨ (b0 = true ∧ b1 = true ∧ b2 = true ∧ b3 = true ∧ b4 = true ∧ b5 = true ∧ b6 = false) ∨ (b0 = true ∧ b1 = true ∧ b2 = true ∧ b3 = true ∧ b4 = true ∧ b5 = true ∧ b6 = true ∧ b7 = false) ∨ (b0 = true ∧ b1 = true ∧ b2 = true ∧ b3 = true ∧ b4 = true ∧ b5 = true ∧ b6 = true ∧ b7 = true ∧ b8 = false) ∨ (b0 = true ∧ b1 = true ∧ b2 = true ∧ b3 = true ∧ b4 = true ∧ b5 = true ∧ b6 = true ∧ b7 = true ∧ b8 = true)) with rfl | ⟨rfl, rfl⟩ | ⟨rfl, rfl, rfl⟩ | ⟨rfl, rfl, rfl, rfl⟩ | ⟨rfl, rfl, rfl, rfl, rfl⟩ | ⟨rfl, rfl, rfl, rfl, rfl, rfl⟩ | ⟨rfl, rfl, rfl, rfl, rfl, rfl, rfl⟩ | ⟨rfl, rfl, rfl, rfl, rfl, rfl, rfl, rfl⟩ | ⟨rfl, rfl, rfl, rfl, rfl, rfl, rfl, rfl, rfl⟩ | ⟨rfl, rfl, rfl, rfl, rfl, rfl, rfl, rfl, rfl⟩
  all_goals
    simp only [Bool.false_and, Bool.true_and, Bool.and_true, Bool.and_false]
    go_enter Try.func15, Try.ntmps15
    go_wp2_with (first
      | (go_at_call 31; refine (HE.out _ HP.out.below).mono ?_; rintro r w2 ⟨rfl, hb2⟩; have HP := Lib.hid (HP.out.step hb2); obtain ⟨c0, c1, c2, c3, c4, c5, c6, c7, c8, c9⟩ := HP.out.a.ten; obtain ⟨d0, d1, d2, d3, d4, d5, d6, d7, d8, d9⟩ := HP.out.b.ten; clear hb2)
      | (go_at_call 10; refine (HT.out _ HP.out.below).mono ?_; rintro r w3 ⟨rfl, hb3⟩; have HP := Lib.hid (HP.out.step hb3); obtain ⟨c0, c1, c2, c3, c4, c5, c6, c7, c8, c9⟩ := HP.out.a.ten; obtain ⟨d0, d1, d2, d3, d4, d5, d6, d7, d8, d9⟩ := HP.out.b.ten; clear hb3))
    go_ret
    exact ⟨rfl, HP.out.below⟩
end Go.Proofs.Ytlpidedijknohaa.Hj
