/-
  Layer 11, the program's side: two objects are the same, by the library's Equal.
-/
import Derived.Test.YtapjgdhdgpakhaaGreatDoorOg

namespace Go.Proofs.YtapjgdhdgpakhaaGreatDoor.Hj
open Go.RowKit Ob Hr
set_option linter.unusedVariables false

set_option maxHeartbeats 4000000 in
set_option maxRecDepth 100000 in
theorem pents_any (w : World) (B : Nat) (A A' : Option Addr) (c c' : Nat) (l l' : List Ent) (h : Ents w B A l) (h' : Ents w B A' l') (hl : l.length ≤ 1000000) (hB : B ≤ w.heap.size) :
    Calls Tryz.prog 33 #[.slice A l.length c, .slice A' l'.length c'] w fun e w' => e = .returned (.bool (entsSame l l')) ∧ Below w.heap.size w w' := by
  have HI := Lib.hid h
  have HJ := Lib.hid h'
  clear h h'
  by_cases hll : l.length = l'.length
  · have hi : ((l.length : Int) != l'.length) = false := by simp [hll]
    have HL := Lib.hid hll
    clear hll
    go_enter Tryz.func33, Tryz.ntmps33
    go_wp2_with fail
    go_loopg [13] l.length (fun g i wr => ∃ k : Nat, k ≤ l.length ∧ g = l.length - k ∧ i = .int .i64 k ∧ Below w.heap.size w wr ∧ ∀ j, j < k → entSame (l.getD j default) (l'.getD j default) = true)
    case atStart => exact ⟨0, Nat.zero_le _, rfl, rfl, Below.refl _ _, fun j hj => by omega⟩
    case round =>
      obtain ⟨k, hk, rfl, rfl, hbw, hno⟩ := hrel
      have HBW := Lib.hid hbw
      have HI := Lib.hid (HI.out.below (hbw.mono hB))
      have HJ := Lib.hid (HJ.out.below (hbw.mono hB))
      clear hbw
      have HN := Lib.hid hno
      clear hno
      by_cases hlt : k < l.length
      · have h1 : (k : Int) < l.length := by omega
        have h0 : (0 : Int) ≤ k := by omega
        have h2 : (k : Int) < l'.length := by rw [← HL.out]; exact h1
        obtain ⟨ad, rfl, hB1, hc⟩ := HI.out k hlt
        obtain ⟨ad', rfl, hB', hc'⟩ := HJ.out k (by rw [← HL.out]; exact hlt)
        have c0 : wr.cell? (ad.add (k * 3)) = some (.int .i64 (l.getD k default).mode) := by have := hc 0 (by omega); rwa [show (ad.add (k * 3)).add 0 = ad.add (k * 3) from rfl] at this
        have c1 : wr.cell? ⟨(ad.add (k * 3)).block, (ad.add (k * 3)).off + 1, none⟩ = some (.string (l.getD k default).name) := hc 1 (by omega)
        have c2 : wr.cell? ⟨(ad.add (k * 3)).block, (ad.add (k * 3)).off + 2, none⟩ = some (.string (l.getD k default).id) := hc 2 (by omega)
        have d0 : wr.cell? (ad'.add (k * 3)) = some (.int .i64 (l'.getD k default).mode) := by have := hc' 0 (by omega); rwa [show (ad'.add (k * 3)).add 0 = ad'.add (k * 3) from rfl] at this
        have d1 : wr.cell? ⟨(ad'.add (k * 3)).block, (ad'.add (k * 3)).off + 1, none⟩ = some (.string (l'.getD k default).name) := hc' 1 (by omega)
        have d2 : wr.cell? ⟨(ad'.add (k * 3)).block, (ad'.add (k * 3)).off + 2, none⟩ = some (.string (l'.getD k default).id) := hc' 2 (by omega)
        have hq := fun W => neq_ent (l.getD k default) (l'.getD k default) W
        cases he : entSame (l.getD k default) (l'.getD k default) with
        | false =>
          have HX := Lib.hid (ents_diff hlt he)
          rw [he] at hq
          generalize l.getD k default = x at *
          generalize l'.getD k default = y at *
          clear hc hc' he
          go_wp2
          refine wp_region_still_lit (by kernel_rfl) (by kernel_rfl) ?_
          change wpStill _ _ (World.drew _) (fun a' => Exit.then _ _ _ a' (World.drew _)) _ _
          iterate 9 still_step
          refine wpStill_nil ?_
          go_wp2
          go_ret
          exact ⟨ret_bool HX.out.symm, HBW.out.drew⟩
        | true =>
          have HX := Lib.hid (show ∀ j, j < k + 1 → entSame (l.getD j default) (l'.getD j default) = true from fun j hj => by
            by_cases e : j = k
            · rw [e]; exact he
            · exact HN.out j (by omega))
          rw [he] at hq
          generalize l.getD k default = x at *
          generalize l'.getD k default = y at *
          clear hc hc' he
          go_wp2
          refine wp_region_still_lit (by kernel_rfl) (by kernel_rfl) ?_
          change wpStill _ _ (World.drew _) (fun a' => Exit.then _ _ _ a' (World.drew _)) _ _
          iterate 9 still_step
          refine wpStill_nil ?_
          go_wp2
          go_roundg (l.length - (k + 1))
          case rel => exact ⟨k + 1, by omega, rfl, by go_num, HBW.out.drew, HX.out⟩
          case measure => omega
      · have h1 : ¬ (k : Int) < l.length := by omega
        have HX := Lib.hid (ents_same HL.out fun j hj => HN.out j (by omega))
        go_wp2
        go_ret
        exact ⟨ret_bool HX.out.symm, HBW.out⟩
  · have hi : ((l.length : Int) != l'.length) = true := by simp; omega
    have HX := Lib.hid (ents_len hll)
    clear hll
    go_enter Tryz.func33, Tryz.ntmps33
    go_wp2_with fail
    go_ret
    exact ⟨ret_bool HX.out.symm, Below.refl _ _⟩

set_option maxHeartbeats 4000000 in
set_option maxRecDepth 100000 in
theorem ptexts_any (w : World) (B : Nat) (A A' : Option Addr) (c c' : Nat) (l l' : List ByteArray) (h : Strs w B A l) (h' : Strs w B A' l') (hl : l.length ≤ 1000000) (hB : B ≤ w.heap.size) :
    Calls Tryz.prog 34 #[.slice A l.length c, .slice A' l'.length c'] w fun e w' => e = .returned (.bool (textsSame l l')) ∧ Below w.heap.size w w' := by
  have HI := Lib.hid h
  have HJ := Lib.hid h'
  clear h h'
  by_cases hll : l.length = l'.length
  · have hi : ((l.length : Int) != l'.length) = false := by simp [hll]
    have HL := Lib.hid hll
    clear hll
    go_enter Tryz.func34, Tryz.ntmps34
    go_wp2_with fail
    go_loopg [13] l.length (fun g i wr => ∃ k : Nat, k ≤ l.length ∧ g = l.length - k ∧ i = .int .i64 k ∧ Below w.heap.size w wr ∧ ∀ j, j < k → l.getD j ByteArray.empty = l'.getD j ByteArray.empty)
    case atStart => exact ⟨0, Nat.zero_le _, rfl, rfl, Below.refl _ _, fun j hj => by omega⟩
    case round =>
      obtain ⟨k, hk, rfl, rfl, hbw, hno⟩ := hrel
      have HBW := Lib.hid hbw
      have HI := Lib.hid (HI.out.below (hbw.mono hB))
      have HJ := Lib.hid (HJ.out.below (hbw.mono hB))
      clear hbw
      have HN := Lib.hid hno
      clear hno
      by_cases hlt : k < l.length
      · have h1 : (k : Int) < l.length := by omega
        have h0 : (0 : Int) ≤ k := by omega
        have h2 : (k : Int) < l'.length := by rw [← HL.out]; exact h1
        obtain ⟨ad, rfl, hB1, c0⟩ := HI.out k hlt
        obtain ⟨ad', rfl, hB', d0⟩ := HJ.out k (by rw [← HL.out]; exact hlt)
        by_cases he : l.getD k ByteArray.empty = l'.getD k ByteArray.empty
        · have HX := Lib.hid (show ∀ j, j < k + 1 → l.getD j ByteArray.empty = l'.getD j ByteArray.empty from fun j hj => by
            by_cases e : j = k
            · rw [e]; exact he
            · exact HN.out j (by omega))
          have hq := str_beq he
          generalize l.getD k ByteArray.empty = x at *
          generalize l'.getD k ByteArray.empty = y at *
          clear he
          go_wp2
          refine wp_region_still_lit (by kernel_rfl) (by kernel_rfl) ?_
          change wpStill _ _ (World.drew _) (fun a' => Exit.then _ _ _ a' (World.drew _)) _ _
          iterate 9 still_step
          refine wpStill_nil ?_
          go_wp2
          go_roundg (l.length - (k + 1))
          case rel => exact ⟨k + 1, by omega, rfl, by go_num, HBW.out.drew, HX.out⟩
          case measure => omega
        · have HX := Lib.hid (texts_diff hlt he)
          have hq := str_bne he
          generalize l.getD k ByteArray.empty = x at *
          generalize l'.getD k ByteArray.empty = y at *
          clear he
          go_wp2
          refine wp_region_still_lit (by kernel_rfl) (by kernel_rfl) ?_
          change wpStill _ _ (World.drew _) (fun a' => Exit.then _ _ _ a' (World.drew _)) _ _
          iterate 9 still_step
          refine wpStill_nil ?_
          go_wp2
          go_ret
          exact ⟨ret_bool HX.out.symm, HBW.out.drew⟩
      · have h1 : ¬ (k : Int) < l.length := by omega
        have HX := Lib.hid (texts_same HL.out fun j hj => HN.out j (by omega))
        go_wp2
        go_ret
        exact ⟨ret_bool HX.out.symm, HBW.out⟩
  · have hi : ((l.length : Int) != l'.length) = true := by simp; omega
    have HX := Lib.hid (show decide (l = l') = false from decide_eq_false fun e => hll (by rw [e]))
    clear hll
    go_enter Tryz.func34, Tryz.ntmps34
    go_wp2_with fail
    go_ret
    exact ⟨ret_bool HX.out.symm, Below.refl _ _⟩

set_option maxHeartbeats 8000000 in
set_option maxRecDepth 100000 in
theorem psame_any (w : World) (B : Nat) (o p : Thing) (A : Option Addr) (c : Nat) (P : Option Addr) (d : Nat) (A' : Option Addr) (c' : Nat) (P' : Option Addr) (d' : Nat) (h : Lies w B o A P) (h' : Lies w B p A' P') (hB : B ≤ w.heap.size) (hl : o.ents.length ≤ 1000000) (hl2 : o.parents.length ≤ 1000000) :
    Calls Tryz.prog 17 #[.agg (objC o A c P d), .agg (objC p A' c' P' d')] w fun e w' => e = .returned (.bool (same o p)) ∧ Below w.heap.size w w' := by
  have HE := Lib.hid (fun W (hb : Below w.heap.size w W) => pents_any W B A A' c c' o.ents p.ents (h.ents.below (hb.mono hB)) (h'.ents.below (hb.mono hB)) hl (Nat.le_trans hB hb.size))
  have HT := Lib.hid (fun W (hb : Below w.heap.size w W) => ptexts_any W B P P' d d' o.parents p.parents (h.pars.below (hb.mono hB)) (h'.pars.below (hb.mono hB)) hl2 (Nat.le_trans hB hb.size))
  have HP := Lib.hid (two_new w 25 25 (objC o A c P d) (objC p A' c' P' d'))
  rw [same_bool]
  generalize entsSame o.ents p.ents = b2 at *
  generalize textsSame o.parents p.parents = b4 at *
  obtain ⟨b0, e0⟩ : ∃ b, (o.kind == p.kind) = b := ⟨_, rfl⟩
  obtain ⟨b1, e1⟩ : ∃ b, (o.text.toList == p.text.toList) = b := ⟨_, rfl⟩
  obtain ⟨b3, e3⟩ : ∃ b, (o.tree.toList == p.tree.toList) = b := ⟨_, rfl⟩
  obtain ⟨b5, e5⟩ : ∃ b, (o.target.toList == p.target.toList) = b := ⟨_, rfl⟩
  obtain ⟨b6, e6⟩ : ∃ b, (o.ofk == p.ofk) = b := ⟨_, rfl⟩
  obtain ⟨b7, e7⟩ : ∃ b, (o.name.toList == p.name.toList) = b := ⟨_, rfl⟩
  obtain ⟨b8, e8⟩ : ∃ b, (o.who.toList == p.who.toList) = b := ⟨_, rfl⟩
  obtain ⟨b9, e9⟩ : ∃ b, (o.time == p.time) = b := ⟨_, rfl⟩
  rw [e0, e1, e3, e5, e6, e7, e8, e9]
  clear h h' hl hl2
  rcases (by cases b0 <;> cases b1 <;> cases b2 <;> cases b3 <;> cases b4 <;> cases b5 <;> cases b6 <;> cases b7 <;> cases b8 <;> cases b9 <;> simp : b0 = false ∨ (b0 = true ∧ b1 = false) ∨ (b0 = true ∧ b1 = true ∧ b2 = false) ∨ (b0 = true ∧ b1 = true ∧ b2 = true ∧ b3 = false) ∨ (b0 = true ∧ b1 = true ∧ b2 = true ∧ b3 = true ∧ b4 = false) ∨ (b0 = true ∧ b1 = true ∧ b2 = true ∧ b3 = true ∧ b4 = true ∧ b5 = false) ∨ (b0 = true ∧ b1 = true ∧ b2 = true ∧ b3 = true ∧ b4 = true ∧ b5 = true ∧ b6 = false) ∨ (b0 = true ∧ b1 = true ∧ b2 = true ∧ b3 = true ∧ b4 = true ∧ b5 = true ∧ b6 = true ∧ b7 = false) ∨ (b0 = true ∧ b1 = true ∧ b2 = true ∧ b3 = true ∧ b4 = true ∧ b5 = true ∧ b6 = true ∧ b7 = true ∧ b8 = false) ∨ (b0 = true ∧ b1 = true ∧ b2 = true ∧ b3 = true ∧ b4 = true ∧ b5 = true ∧ b6 = true ∧ b7 = true ∧ b8 = true)) with rfl | ⟨rfl, rfl⟩ | ⟨rfl, rfl, rfl⟩ | ⟨rfl, rfl, rfl, rfl⟩ | ⟨rfl, rfl, rfl, rfl, rfl⟩ | ⟨rfl, rfl, rfl, rfl, rfl, rfl⟩ | ⟨rfl, rfl, rfl, rfl, rfl, rfl, rfl⟩ | ⟨rfl, rfl, rfl, rfl, rfl, rfl, rfl, rfl⟩ | ⟨rfl, rfl, rfl, rfl, rfl, rfl, rfl, rfl, rfl⟩ | ⟨rfl, rfl, rfl, rfl, rfl, rfl, rfl, rfl, rfl⟩
  all_goals
    simp only [Bool.false_and, Bool.true_and, Bool.and_true, Bool.and_false]
    go_enter Tryz.func17, Tryz.ntmps17
    go_wp2_with (first
      | (go_at_call 33; refine (HE.out _ HP.out.below).mono ?_; rintro r w2 ⟨rfl, hb2⟩; have HP := Lib.hid (HP.out.step hb2); obtain ⟨c0, c1, c2, c3, c4, c5, c6, c7, c8, c9⟩ := HP.out.a.ten; obtain ⟨d0, d1, d2, d3, d4, d5, d6, d7, d8, d9⟩ := HP.out.b.ten; clear hb2)
      | (go_at_call 34; refine (HT.out _ HP.out.below).mono ?_; rintro r w3 ⟨rfl, hb3⟩; have HP := Lib.hid (HP.out.step hb3); obtain ⟨c0, c1, c2, c3, c4, c5, c6, c7, c8, c9⟩ := HP.out.a.ten; obtain ⟨d0, d1, d2, d3, d4, d5, d6, d7, d8, d9⟩ := HP.out.b.ten; clear hb3))
    go_ret
    exact ⟨rfl, HP.out.below⟩
end Go.Proofs.YtapjgdhdgpakhaaGreatDoor.Hj
