/-
  Layer 11: an object is right in one space at most (ObjectSpaces), by what the program's object is to answer.
-/
import Derived.Test.YtapjgdhdgpakhaaGreatDoorOk
namespace Go.Proofs.YtapjgdhdgpakhaaGreatDoor.Hj
open Go.RowKit Ob Hr
set_option linter.unusedVariables false

set_option maxHeartbeats 8000000 in
set_option maxRecDepth 100000 in
theorem spaces_any {K : World → Prop} (F : Faces K) (o : Thing) (A : Option Addr) (c : Nat) (P : Option Addr) (d : Nat) (w : World) (hK : K w) (hl : Lies w w.heap.size o A P) (hr : Reach o) (hd : o.parents.length ≤ d) :
    Calls Tryz.prog 5 #[.agg (objC o A c P d)] w fun e w' => e = .returned (.bool true) ∧ Below w.heap.size w w' := by
  have HK := Lib.hid hK
  have HF := Lib.hid F
  have HD := Lib.hid hd
  clear hd
  have HA := Lib.hid (fun W h => awake11_any F W h)
  have HW := Lib.hid (fun W (h : Lies W W.heap.size o A P) => few_any W W.heap.size o A c P d h (Nat.le_refl _) hr)
  have HP := Lib.hid (one_new w 25 (objC o A c P d))
  have HL := Lib.hid (hl.step ((Below.refl _ w).alloc (Nat.le_refl _) (.cells (objC o A c P d) 25)))
  have HX := Lib.hid (fun h1 h2 => right_both (o := o) h1 h2)
  clear hK F hl hr
  cases hf : few o with
  | false =>
    rw [hf] at HW
    clear hf
    go_enter Tryz.func5, Tryz.ntmps5
    go_wp2_with (first
      | (go_at_call 8; refine (HA.out _ (HF.out.under _ _ HK.out HP.out.below)).mono ?_; rintro r w5 ⟨rfl, hb5⟩; have HP := Lib.hid (HP.out.step hb5); have HL := Lib.hid (HL.out.step hb5); obtain ⟨c0, c1, c2, c3, c4, c5, c6, c7, c8, c9⟩ := HP.out.a.ten; clear hb5)
      | (go_at_call 9; refine (HW.out _ HL.out).mono ?_; rintro r w5 ⟨rfl, hb5⟩; have HP := Lib.hid (HP.out.step hb5); have HL := Lib.hid (HL.out.step hb5); obtain ⟨c0, c1, c2, c3, c4, c5, c6, c7, c8, c9⟩ := HP.out.a.ten; clear hb5))
    go_ret
    exact ⟨rfl, HP.out.below⟩
  | true =>
    have hs := few_small hf
    rw [hf] at HW
    clear hf
    have R1 := Lib.hid (fun W h (hl : Lies W W.heap.size o A P) => HF.out.right o A c P d 1 W h hl hs HD.out)
    have R2 := Lib.hid (fun W h (hl : Lies W W.heap.size o A P) => HF.out.right o A c P d 2 W h hl hs HD.out)
    have R0 := Lib.hid (fun W h (hl : Lies W W.heap.size o A P) => HF.out.right o A c P d 0 W h hl hs HD.out)
    have R3 := Lib.hid (fun W h (hl : Lies W W.heap.size o A P) => HF.out.right o A c P d 3 W h hl hs HD.out)
    rw [right_space (by decide) (by decide)] at R0 R3
    have hX := HX.out
    clear HX hs
    generalize Ob.right o 1 = r1 at *
    generalize Ob.right o 2 = r2 at *
    have hcase : (o.kind = 1) ∨ (o.kind = 2 ∧ o.ents.length = 0) ∨ (o.kind ≠ 1 ∧ o.kind = 2 ∧ o.ents.length ≠ 0 ∧ (r1 && r2) = false) ∨ (o.kind ≠ 1 ∧ o.kind ≠ 2 ∧ (r1 && r2) = false) := by
      by_cases k1 : o.kind = 1
      · exact .inl k1
      · by_cases k2 : o.kind = 2
        · by_cases k3 : o.ents.length = 0
          · exact .inr (.inl ⟨k2, k3⟩)
          · refine .inr (.inr (.inl ⟨k1, k2, k3, ?_⟩))
            cases r1 <;> cases r2 <;> first | rfl | (have := hX rfl rfl; omega)
        · refine .inr (.inr (.inr ⟨k1, k2, ?_⟩))
          cases r1 <;> cases r2 <;> first | rfl | (have := hX rfl rfl; omega)
    clear hX
    rcases hcase with h | ⟨h, h2⟩ | ⟨h, h2, h3, h4⟩ | ⟨h, h2, h4⟩
    · have q1 : (o.kind == 1) = true := beq_iff_eq.2 h
      clear h
      cases r1 <;> cases r2
      all_goals
        go_enter Tryz.func5, Tryz.ntmps5
        go_wp2_with (first
      | (go_at_call 8; refine (HA.out _ (HF.out.under _ _ HK.out HP.out.below)).mono ?_; rintro r w5 ⟨rfl, hb5⟩; have HP := Lib.hid (HP.out.step hb5); have HL := Lib.hid (HL.out.step hb5); obtain ⟨c0, c1, c2, c3, c4, c5, c6, c7, c8, c9⟩ := HP.out.a.ten; clear hb5)
      | (go_at_call 9; refine (HW.out _ HL.out).mono ?_; rintro r w5 ⟨rfl, hb5⟩; have HP := Lib.hid (HP.out.step hb5); have HL := Lib.hid (HL.out.step hb5); obtain ⟨c0, c1, c2, c3, c4, c5, c6, c7, c8, c9⟩ := HP.out.a.ten; clear hb5)
      | (go_at_call 15; with_reducible refine (R1.out _ (HF.out.under _ _ HK.out HP.out.below) HL.out).mono ?_; rintro r w5 ⟨rfl, hb5⟩; have HP := Lib.hid (HP.out.step hb5); have HL := Lib.hid (HL.out.step hb5); obtain ⟨c0, c1, c2, c3, c4, c5, c6, c7, c8, c9⟩ := HP.out.a.ten; clear hb5)
      | (go_at_call 15; with_reducible refine (R2.out _ (HF.out.under _ _ HK.out HP.out.below) HL.out).mono ?_; rintro r w5 ⟨rfl, hb5⟩; have HP := Lib.hid (HP.out.step hb5); have HL := Lib.hid (HL.out.step hb5); obtain ⟨c0, c1, c2, c3, c4, c5, c6, c7, c8, c9⟩ := HP.out.a.ten; clear hb5)
      | (go_at_call 15; with_reducible refine (R0.out _ (HF.out.under _ _ HK.out HP.out.below) HL.out).mono ?_; rintro r w5 ⟨rfl, hb5⟩; have HP := Lib.hid (HP.out.step hb5); have HL := Lib.hid (HL.out.step hb5); obtain ⟨c0, c1, c2, c3, c4, c5, c6, c7, c8, c9⟩ := HP.out.a.ten; clear hb5)
      | (go_at_call 15; with_reducible refine (R3.out _ (HF.out.under _ _ HK.out HP.out.below) HL.out).mono ?_; rintro r w5 ⟨rfl, hb5⟩; have HP := Lib.hid (HP.out.step hb5); have HL := Lib.hid (HL.out.step hb5); obtain ⟨c0, c1, c2, c3, c4, c5, c6, c7, c8, c9⟩ := HP.out.a.ten; clear hb5))
        go_ret
        exact ⟨rfl, HP.out.below⟩
    · have q1 : (o.kind == 1) = false := beq_eq_false_iff_ne.2 (by omega)
      have q2 : (o.kind == 2) = true := beq_iff_eq.2 h
      have q3 : ((o.ents.length : Int) == 0) = true := beq_iff_eq.2 (by omega)
      clear h h2
      cases r1 <;> cases r2
      all_goals
        go_enter Tryz.func5, Tryz.ntmps5
        go_wp2_with (first
      | (go_at_call 8; refine (HA.out _ (HF.out.under _ _ HK.out HP.out.below)).mono ?_; rintro r w5 ⟨rfl, hb5⟩; have HP := Lib.hid (HP.out.step hb5); have HL := Lib.hid (HL.out.step hb5); obtain ⟨c0, c1, c2, c3, c4, c5, c6, c7, c8, c9⟩ := HP.out.a.ten; clear hb5)
      | (go_at_call 9; refine (HW.out _ HL.out).mono ?_; rintro r w5 ⟨rfl, hb5⟩; have HP := Lib.hid (HP.out.step hb5); have HL := Lib.hid (HL.out.step hb5); obtain ⟨c0, c1, c2, c3, c4, c5, c6, c7, c8, c9⟩ := HP.out.a.ten; clear hb5)
      | (go_at_call 15; with_reducible refine (R1.out _ (HF.out.under _ _ HK.out HP.out.below) HL.out).mono ?_; rintro r w5 ⟨rfl, hb5⟩; have HP := Lib.hid (HP.out.step hb5); have HL := Lib.hid (HL.out.step hb5); obtain ⟨c0, c1, c2, c3, c4, c5, c6, c7, c8, c9⟩ := HP.out.a.ten; clear hb5)
      | (go_at_call 15; with_reducible refine (R2.out _ (HF.out.under _ _ HK.out HP.out.below) HL.out).mono ?_; rintro r w5 ⟨rfl, hb5⟩; have HP := Lib.hid (HP.out.step hb5); have HL := Lib.hid (HL.out.step hb5); obtain ⟨c0, c1, c2, c3, c4, c5, c6, c7, c8, c9⟩ := HP.out.a.ten; clear hb5)
      | (go_at_call 15; with_reducible refine (R0.out _ (HF.out.under _ _ HK.out HP.out.below) HL.out).mono ?_; rintro r w5 ⟨rfl, hb5⟩; have HP := Lib.hid (HP.out.step hb5); have HL := Lib.hid (HL.out.step hb5); obtain ⟨c0, c1, c2, c3, c4, c5, c6, c7, c8, c9⟩ := HP.out.a.ten; clear hb5)
      | (go_at_call 15; with_reducible refine (R3.out _ (HF.out.under _ _ HK.out HP.out.below) HL.out).mono ?_; rintro r w5 ⟨rfl, hb5⟩; have HP := Lib.hid (HP.out.step hb5); have HL := Lib.hid (HL.out.step hb5); obtain ⟨c0, c1, c2, c3, c4, c5, c6, c7, c8, c9⟩ := HP.out.a.ten; clear hb5))
        go_ret
        exact ⟨rfl, HP.out.below⟩
    · have q1 : (o.kind == 1) = false := beq_eq_false_iff_ne.2 h
      have q2 : (o.kind == 2) = true := beq_iff_eq.2 h2
      have q3 : ((o.ents.length : Int) == 0) = false := beq_eq_false_iff_ne.2 (by omega)
      clear h h2 h3
      cases r1 <;> cases r2
      all_goals first | (exact absurd h4 (by decide)) | skip
      all_goals
        clear h4
        go_enter Tryz.func5, Tryz.ntmps5
        go_wp2_with (first
      | (go_at_call 8; refine (HA.out _ (HF.out.under _ _ HK.out HP.out.below)).mono ?_; rintro r w5 ⟨rfl, hb5⟩; have HP := Lib.hid (HP.out.step hb5); have HL := Lib.hid (HL.out.step hb5); obtain ⟨c0, c1, c2, c3, c4, c5, c6, c7, c8, c9⟩ := HP.out.a.ten; clear hb5)
      | (go_at_call 9; refine (HW.out _ HL.out).mono ?_; rintro r w5 ⟨rfl, hb5⟩; have HP := Lib.hid (HP.out.step hb5); have HL := Lib.hid (HL.out.step hb5); obtain ⟨c0, c1, c2, c3, c4, c5, c6, c7, c8, c9⟩ := HP.out.a.ten; clear hb5)
      | (go_at_call 15; with_reducible refine (R1.out _ (HF.out.under _ _ HK.out HP.out.below) HL.out).mono ?_; rintro r w5 ⟨rfl, hb5⟩; have HP := Lib.hid (HP.out.step hb5); have HL := Lib.hid (HL.out.step hb5); obtain ⟨c0, c1, c2, c3, c4, c5, c6, c7, c8, c9⟩ := HP.out.a.ten; clear hb5)
      | (go_at_call 15; with_reducible refine (R2.out _ (HF.out.under _ _ HK.out HP.out.below) HL.out).mono ?_; rintro r w5 ⟨rfl, hb5⟩; have HP := Lib.hid (HP.out.step hb5); have HL := Lib.hid (HL.out.step hb5); obtain ⟨c0, c1, c2, c3, c4, c5, c6, c7, c8, c9⟩ := HP.out.a.ten; clear hb5)
      | (go_at_call 15; with_reducible refine (R0.out _ (HF.out.under _ _ HK.out HP.out.below) HL.out).mono ?_; rintro r w5 ⟨rfl, hb5⟩; have HP := Lib.hid (HP.out.step hb5); have HL := Lib.hid (HL.out.step hb5); obtain ⟨c0, c1, c2, c3, c4, c5, c6, c7, c8, c9⟩ := HP.out.a.ten; clear hb5)
      | (go_at_call 15; with_reducible refine (R3.out _ (HF.out.under _ _ HK.out HP.out.below) HL.out).mono ?_; rintro r w5 ⟨rfl, hb5⟩; have HP := Lib.hid (HP.out.step hb5); have HL := Lib.hid (HL.out.step hb5); obtain ⟨c0, c1, c2, c3, c4, c5, c6, c7, c8, c9⟩ := HP.out.a.ten; clear hb5))
        go_ret
        exact ⟨rfl, HP.out.below⟩
    · have q1 : (o.kind == 1) = false := beq_eq_false_iff_ne.2 h
      have q2 : (o.kind == 2) = false := beq_eq_false_iff_ne.2 h2
      clear h h2
      cases r1 <;> cases r2
      all_goals first | (exact absurd h4 (by decide)) | skip
      all_goals
        clear h4
        go_enter Tryz.func5, Tryz.ntmps5
        go_wp2_with (first
      | (go_at_call 8; refine (HA.out _ (HF.out.under _ _ HK.out HP.out.below)).mono ?_; rintro r w5 ⟨rfl, hb5⟩; have HP := Lib.hid (HP.out.step hb5); have HL := Lib.hid (HL.out.step hb5); obtain ⟨c0, c1, c2, c3, c4, c5, c6, c7, c8, c9⟩ := HP.out.a.ten; clear hb5)
      | (go_at_call 9; refine (HW.out _ HL.out).mono ?_; rintro r w5 ⟨rfl, hb5⟩; have HP := Lib.hid (HP.out.step hb5); have HL := Lib.hid (HL.out.step hb5); obtain ⟨c0, c1, c2, c3, c4, c5, c6, c7, c8, c9⟩ := HP.out.a.ten; clear hb5)
      | (go_at_call 15; with_reducible refine (R1.out _ (HF.out.under _ _ HK.out HP.out.below) HL.out).mono ?_; rintro r w5 ⟨rfl, hb5⟩; have HP := Lib.hid (HP.out.step hb5); have HL := Lib.hid (HL.out.step hb5); obtain ⟨c0, c1, c2, c3, c4, c5, c6, c7, c8, c9⟩ := HP.out.a.ten; clear hb5)
      | (go_at_call 15; with_reducible refine (R2.out _ (HF.out.under _ _ HK.out HP.out.below) HL.out).mono ?_; rintro r w5 ⟨rfl, hb5⟩; have HP := Lib.hid (HP.out.step hb5); have HL := Lib.hid (HL.out.step hb5); obtain ⟨c0, c1, c2, c3, c4, c5, c6, c7, c8, c9⟩ := HP.out.a.ten; clear hb5)
      | (go_at_call 15; with_reducible refine (R0.out _ (HF.out.under _ _ HK.out HP.out.below) HL.out).mono ?_; rintro r w5 ⟨rfl, hb5⟩; have HP := Lib.hid (HP.out.step hb5); have HL := Lib.hid (HL.out.step hb5); obtain ⟨c0, c1, c2, c3, c4, c5, c6, c7, c8, c9⟩ := HP.out.a.ten; clear hb5)
      | (go_at_call 15; with_reducible refine (R3.out _ (HF.out.under _ _ HK.out HP.out.below) HL.out).mono ?_; rintro r w5 ⟨rfl, hb5⟩; have HP := Lib.hid (HP.out.step hb5); have HL := Lib.hid (HL.out.step hb5); obtain ⟨c0, c1, c2, c3, c4, c5, c6, c7, c8, c9⟩ := HP.out.a.ten; clear hb5))
        go_ret
        exact ⟨rfl, HP.out.below⟩
end Go.Proofs.YtapjgdhdgpakhaaGreatDoor.Hj
