/-
  Layer 11: what a commit or a tag says is any bytes (ObjectTexts), by what the program's object is to answer.
-/
import Derived.Test.YtapjgdhdgpakhaaGreatDoorOk
namespace Go.Proofs.YtapjgdhdgpakhaaGreatDoor.Hj
open Go.RowKit Ob Hr
set_option linter.unusedVariables false

theorem OneB.put {w W : World} {g t : Nat} {x : Array Value} (h : OneB w W g t x) (hg : w.heap.size ≤ g) (i : Nat) (v : Value) : OneB w (W.setCell ⟨g, i, none⟩ v) g t (x.setIfInBounds i v) :=
  ⟨Hg.heap_setCell_cells h.a i v, h.below.setCell (p := ⟨g, i, none⟩) hg v⟩
theorem lies_put {W : World} {o p : Thing} {A P : Option Addr} {B g i : Nat} {v : Value} (h : Lies W B o A P) (hg : B ≤ g) (h1 : p.ents = o.ents) (h2 : p.parents = o.parents) : Lies (W.setCell ⟨g, i, none⟩ v) B p A P := by
  have hb : Below B W (W.setCell ⟨g, i, none⟩ v) := (Below.refl B W).setCell (p := ⟨g, i, none⟩) hg v
  exact ⟨by rw [h1]; exact h.ents.below hb, by rw [h2]; exact h.pars.below hb⟩

set_option maxHeartbeats 8000000 in
set_option maxRecDepth 100000 in
theorem textsLaw_any {K : World → Prop} (F : Faces K) (o : Thing) (A : Option Addr) (c : Nat) (P : Option Addr) (d : Nat) (sp : Int) (t : ByteArray) (w : World) (hK : K w) (hl : Lies w w.heap.size o A P) (hr : Reach o) (hd : o.parents.length ≤ d) :
    Calls Tryz.prog 6 #[.agg (objC o A c P d), .int .i64 sp, .string t] w fun e w' => e = .returned (.bool true) ∧ Below w.heap.size w w' := by
  have HK := Lib.hid hK
  have HF := Lib.hid F
  have HD := Lib.hid hd
  clear hd
  have HA := Lib.hid (fun W h => awake11_any F W h)
  have HW := Lib.hid (fun W (h : Lies W W.heap.size o A P) => few_any W W.heap.size o A c P d h (Nat.le_refl _) hr)
  have HP := Lib.hid (one_new w 25 (objC o A c P d))
  have HL := Lib.hid (hl.step ((Below.refl _ w).alloc (Nat.le_refl _) (.cells (objC o A c P d) 25)))
  have HB := Lib.hid hl
  clear hK F hl hr
  cases hf : few o with
  | false =>
    rw [hf] at HW
    clear hf
    go_enter Tryz.func6, Tryz.ntmps6
    go_wp2_with (first | (go_at_call 8; refine (HA.out _ (HF.out.under _ _ HK.out HP.out.below)).mono ?_; rintro r w5 ⟨rfl, hb5⟩; have HP := Lib.hid (HP.out.step hb5); have HL := Lib.hid (HL.out.step hb5); obtain ⟨c0, c1, c2, c3, c4, c5, c6, c7, c8, c9⟩ := HP.out.a.ten; have f1 := HP.out.a.free 1; clear hb5) | (go_at_call 9; refine (HW.out _ HL.out).mono ?_; rintro r w5 ⟨rfl, hb5⟩; have HP := Lib.hid (HP.out.step hb5); have HL := Lib.hid (HL.out.step hb5); obtain ⟨c0, c1, c2, c3, c4, c5, c6, c7, c8, c9⟩ := HP.out.a.ten; have f1 := HP.out.a.free 1; clear hb5))
    go_ret
    exact ⟨rfl, HP.out.below⟩
  | true =>
    have hs := few_small hf
    rw [hf] at HW
    clear hf
    have HR := Lib.hid (fun W h (hl : Lies W W.heap.size o A P) => HF.out.right o A c P d sp W h hl hs HD.out)
    by_cases ht : 5000 < t.size
    · have hti : decide ((5000 : Int) < t.size) = true := decide_eq_true (by omega)
      clear hs HR ht
      go_enter Tryz.func6, Tryz.ntmps6
      go_wp2_with (first | (go_at_call 8; refine (HA.out _ (HF.out.under _ _ HK.out HP.out.below)).mono ?_; rintro r w5 ⟨rfl, hb5⟩; have HP := Lib.hid (HP.out.step hb5); have HL := Lib.hid (HL.out.step hb5); obtain ⟨c0, c1, c2, c3, c4, c5, c6, c7, c8, c9⟩ := HP.out.a.ten; have f1 := HP.out.a.free 1; clear hb5) | (go_at_call 9; refine (HW.out _ HL.out).mono ?_; rintro r w5 ⟨rfl, hb5⟩; have HP := Lib.hid (HP.out.step hb5); have HL := Lib.hid (HL.out.step hb5); obtain ⟨c0, c1, c2, c3, c4, c5, c6, c7, c8, c9⟩ := HP.out.a.ten; have f1 := HP.out.a.free 1; clear hb5))
      go_ret
      exact ⟨rfl, HP.out.below⟩
    · have hti : decide ((5000 : Int) < t.size) = false := decide_eq_false (by omega)
      cases hrt : Ob.right o sp with
      | false =>
        rw [hrt] at HR
        clear hs ht hrt
        go_enter Tryz.func6, Tryz.ntmps6
        go_wp2_with (first | (go_at_call 8; refine (HA.out _ (HF.out.under _ _ HK.out HP.out.below)).mono ?_; rintro r w5 ⟨rfl, hb5⟩; have HP := Lib.hid (HP.out.step hb5); have HL := Lib.hid (HL.out.step hb5); obtain ⟨c0, c1, c2, c3, c4, c5, c6, c7, c8, c9⟩ := HP.out.a.ten; have f1 := HP.out.a.free 1; clear hb5) | (go_at_call 9; refine (HW.out _ HL.out).mono ?_; rintro r w5 ⟨rfl, hb5⟩; have HP := Lib.hid (HP.out.step hb5); have HL := Lib.hid (HL.out.step hb5); obtain ⟨c0, c1, c2, c3, c4, c5, c6, c7, c8, c9⟩ := HP.out.a.ten; have f1 := HP.out.a.free 1; clear hb5) | (go_at_call 15; refine (HR.out _ (HF.out.under _ _ HK.out HP.out.below) HL.out).mono ?_; rintro r w5 ⟨rfl, hb5⟩; have HP := Lib.hid (HP.out.step hb5); have HL := Lib.hid (HL.out.step hb5); obtain ⟨c0, c1, c2, c3, c4, c5, c6, c7, c8, c9⟩ := HP.out.a.ten; have f1 := HP.out.a.free 1; clear hb5))
        go_ret
        exact ⟨rfl, HP.out.below⟩
      | true =>
        rw [hrt] at HR
        by_cases hk2 : o.kind = 2
        · have q2 : (o.kind == 2) = true := beq_iff_eq.2 hk2
          clear hs ht hrt hk2
          go_enter Tryz.func6, Tryz.ntmps6
          go_wp2_with (first | (go_at_call 8; refine (HA.out _ (HF.out.under _ _ HK.out HP.out.below)).mono ?_; rintro r w5 ⟨rfl, hb5⟩; have HP := Lib.hid (HP.out.step hb5); have HL := Lib.hid (HL.out.step hb5); obtain ⟨c0, c1, c2, c3, c4, c5, c6, c7, c8, c9⟩ := HP.out.a.ten; have f1 := HP.out.a.free 1; clear hb5) | (go_at_call 9; refine (HW.out _ HL.out).mono ?_; rintro r w5 ⟨rfl, hb5⟩; have HP := Lib.hid (HP.out.step hb5); have HL := Lib.hid (HL.out.step hb5); obtain ⟨c0, c1, c2, c3, c4, c5, c6, c7, c8, c9⟩ := HP.out.a.ten; have f1 := HP.out.a.free 1; clear hb5) | (go_at_call 15; refine (HR.out _ (HF.out.under _ _ HK.out HP.out.below) HL.out).mono ?_; rintro r w5 ⟨rfl, hb5⟩; have HP := Lib.hid (HP.out.step hb5); have HL := Lib.hid (HL.out.step hb5); obtain ⟨c0, c1, c2, c3, c4, c5, c6, c7, c8, c9⟩ := HP.out.a.ten; have f1 := HP.out.a.free 1; clear hb5))
          go_ret
          exact ⟨rfl, HP.out.below⟩
        · have q2 : (o.kind == 2) = false := beq_eq_false_iff_ne.2 hk2
          have hre := right_text hrt hk2 ⟨#[]⟩ (by decide)
          have hrw := right_text hrt hk2 t (by omega)
          have O1 := Lib.hid (fun W h (hl : Lies W W.heap.size (textless o) A P) => show Calls Tryz.prog 10 #[.agg (objC (textless o) A c P d), .int .i64 sp] W fun e w' => e = .returned (.tuple #[.string (str (content (textless o))), .int .i64 0]) ∧ Below W.heap.size W w' from by
            have := HF.out.print (textless o) A c P d sp W h hl (right_small hre.1) HD.out
            rwa [print_ok (o := textless o) hre.1] at this)
          have O2 := Lib.hid (fun W h (hl : Lies W W.heap.size (withText o t) A P) => show Calls Tryz.prog 10 #[.agg (objC (withText o t) A c P d), .int .i64 sp] W fun e w' => e = .returned (.tuple #[.string (str (content (withText o t))), .int .i64 0]) ∧ Below W.heap.size W w' from by
            have := HF.out.print (withText o t) A c P d sp W h hl (right_small hrw.1) HD.out
            rwa [print_ok hrw.1] at this)
          have hcs := (right_parts hrw.1).2.2
          have hhs := (right_parts hre.1).2.2
          have O3 := Lib.hid (fun W h => show Calls Tryz.prog 12 #[.int .i64 o.kind, .string (str (content (withText o t))), .int .i64 sp] W fun e w' => ∃ A c P d, e = .returned (.tuple #[.agg (objC (withText o t) A c P d), .int .i64 0]) ∧ Lies w' w'.heap.size (withText o t) A P ∧ Below W.heap.size W w' from by
            have := HF.out.parse' o.kind (str (content (withText o t))) sp W h (by rw [str_size]; omega)
            rwa [bl_str, show parseF o.kind (content (withText o t)) sp = (withText o t, 0) from parse_of hrw.1] at this)
          have hE : str (content (withText o t)) = str (content (textless o)) ++ t := bl_inj (by rw [bl_str, hrw.2]; simp [bl, str])
          have h1E : o.kind = 1 → str (content (withText o t)) = t := fun h => bl_inj (by rw [bl_str]; simp [content, withText, h])
          have hsz : (str (content (textless o))).size ≤ 65536 := by rw [str_size]; exact hhs
          have HT := Lib.hid (show textless o = withText o ⟨#[]⟩ from rfl)
          generalize str (content (textless o)) = H at *
          generalize hS : str (content (withText o t)) = S at *
          have qS : (S.toList == (H ++ t).toList) = true := by rw [hE]; simp
          have qT : (t.toList == t.toList) = true := by simp
          have hcat : ¬ 9223372036854775807 < H.size + t.size := by omega
          have hk1 : ((o.kind != 1) = true ∧ (o.kind == 1) = false) ∨ (((o.kind != 1) = false ∧ (o.kind == 1) = true) ∧ (S.toList == t.toList) = true) := by
            by_cases h : o.kind = 1
            · exact .inr ⟨⟨by simp [h], by simp [h]⟩, by rw [h1E h]; simp⟩
            · exact .inl ⟨by simp [h], by simp [h]⟩
          clear hs ht hrt hk2 hre hrw hcs hhs hE h1E hsz hS
          go_enter Tryz.func6, Tryz.ntmps6
          go_upto_region 6 with (first | (go_at_call 8; refine (HA.out _ (HF.out.under _ _ HK.out HP.out.below)).mono ?_; rintro r w5 ⟨rfl, hb5⟩; have HP := Lib.hid (HP.out.step hb5); have HL := Lib.hid (HL.out.step hb5); obtain ⟨c0, c1, c2, c3, c4, c5, c6, c7, c8, c9⟩ := HP.out.a.ten; have f1 := HP.out.a.free 1; clear hb5) | (go_at_call 9; refine (HW.out _ HL.out).mono ?_; rintro r w5 ⟨rfl, hb5⟩; have HP := Lib.hid (HP.out.step hb5); have HL := Lib.hid (HL.out.step hb5); obtain ⟨c0, c1, c2, c3, c4, c5, c6, c7, c8, c9⟩ := HP.out.a.ten; have f1 := HP.out.a.free 1; clear hb5) | (go_at_call 15; refine (HR.out _ (HF.out.under _ _ HK.out HP.out.below) HL.out).mono ?_; rintro r w5 ⟨rfl, hb5⟩; have HP := Lib.hid (HP.out.step hb5); have HL := Lib.hid (HL.out.step hb5); obtain ⟨c0, c1, c2, c3, c4, c5, c6, c7, c8, c9⟩ := HP.out.a.ten; have f1 := HP.out.a.free 1; clear hb5))
          have HL := Lib.hid (show Lies (w5.setCell ⟨w.heap.size, 1, none⟩ (.string ⟨#[]⟩)) (w5.setCell ⟨w.heap.size, 1, none⟩ (.string ⟨#[]⟩)).heap.size (textless o) A P from (lies_put (p := textless o) (HB.out.below HP.out.below) (Nat.le_refl _) rfl rfl).mono (HP.out.put (Nat.le_refl _) 1 (.string ⟨#[]⟩)).below.size)
          have HP := Lib.hid (show OneB w (w5.setCell ⟨w.heap.size, 1, none⟩ (.string ⟨#[]⟩)) w.heap.size 25 (objC (textless o) A c P d) from HP.out.put (Nat.le_refl _) 1 _)
          generalize w5.setCell ⟨w.heap.size, 1, none⟩ (.string ⟨#[]⟩) = W5 at *
          obtain ⟨c0, c1, c2, c3, c4, c5, c6, c7, c8, c9⟩ := HP.out.a.ten
          have f1 := HP.out.a.free 1
          go_upto_region 7 with (go_at_call 10; refine (O1.out _ (HF.out.under _ _ HK.out HP.out.below) HL.out).mono ?_; rintro r w6 ⟨rfl, hb6⟩; have HP := Lib.hid (HP.out.step hb6); obtain ⟨c0, c1, c2, c3, c4, c5, c6, c7, c8, c9⟩ := HP.out.a.ten; have f1 := HP.out.a.free 1; clear hb6)
          go_upto_region 8 with fail
          have HL := Lib.hid (show Lies (w6.setCell ⟨w.heap.size, 1, none⟩ (.string t)) (w6.setCell ⟨w.heap.size, 1, none⟩ (.string t)).heap.size (withText o t) A P from (lies_put (p := withText o t) (HB.out.below HP.out.below) (Nat.le_refl _) rfl rfl).mono (HP.out.put (Nat.le_refl _) 1 (.string t)).below.size)
          have HP := Lib.hid (show OneB w (w6.setCell ⟨w.heap.size, 1, none⟩ (.string t)) w.heap.size 25 (objC (withText o t) A c P d) from HP.out.put (Nat.le_refl _) 1 _)
          generalize w6.setCell ⟨w.heap.size, 1, none⟩ (.string t) = W6 at *
          obtain ⟨c0, c1, c2, c3, c4, c5, c6, c7, c8, c9⟩ := HP.out.a.ten
          go_upto_region 9 with (go_at_call 10; refine (O2.out _ (HF.out.under _ _ HK.out HP.out.below) HL.out).mono ?_; rintro r w7 ⟨rfl, hb7⟩; have HP := Lib.hid (HP.out.step hb7); obtain ⟨c0, c1, c2, c3, c4, c5, c6, c7, c8, c9⟩ := HP.out.a.ten; clear hb7)
          go_upto_region 10 with (go_at_call 12; refine (O3.out _ (HF.out.under _ _ HK.out HP.out.below)).mono ?_; rintro r w8 ⟨A', c', P', d', rfl, hl8, hb8⟩)
          have HP := Lib.hid (show Two w (w8.alloc (.cells (objC (withText o t) A' c' P' d') 25)) w.heap.size 25 (objC (withText o t) A c P d) w8.heap.size 25 (objC (withText o t) A' c' P' d') from ⟨(HP.out.a.step hb8).alloc _, box_new w8 _ _, (HP.out.below.trans (hb8.mono HP.out.below.size)).alloc (Nat.le_trans HP.out.below.size hb8.size) _⟩)
          generalize w8.alloc (.cells (objC (withText o t) A' c' P' d') 25) = W8 at *
          generalize w8.heap.size = g8 at *
          clear hl8 hb8
          obtain ⟨c0, c1, c2, c3, c4, c5, c6, c7, c8, c9⟩ := HP.out.a.ten
          obtain ⟨d0, d1, d2, d3, d4, d5, d6, d7, d8, d9⟩ := HP.out.b.ten
          replace c0 : W8.cell? ⟨w.heap.size, 0, none⟩ = some (.int .i64 o.kind) := c0
          replace d1 : W8.cell? ⟨g8, 1, none⟩ = some (.string t) := d1
          rcases hk1 with ⟨q1, q0⟩ | ⟨⟨q1, q0⟩, q3⟩
          · go_wp2
            go_ret
            exact ⟨rfl, HP.out.below⟩
          · go_wp2
            go_ret
            first | exact ⟨rfl, HP.out.below⟩ | exact ⟨ret_bool q3, HP.out.below⟩
end Go.Proofs.YtapjgdhdgpakhaaGreatDoor.Hj
