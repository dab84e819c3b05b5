/-
  Layer 11, the program's side: is all right but the length of the content (formed).
-/
import Derived.Test.YtapjgdhdgpakhaaGreatDoorO3
import Derived.Test.YtapjgdhdgpakhaaGreatDoorOz
import Derived.Test.YtapjgdhdgpakhaaGreatDoorHeld
import Derived.Test.YtapjgdhdgpakhaaGreatDoorOj
namespace Go.Proofs.YtapjgdhdgpakhaaGreatDoor.Hj
open Go.RowKit Ob Hr
set_option linter.unusedVariables false

/-- formed's own two blocks -/
structure Fm (w W : World) (o : Thing) (A : Option Addr) (c : Nat) (P : Option Addr) (d : Nat) (N : Nat) : Prop where
  box : BoxAt W w.heap.size 25 (objC o A c P d)
  cell : W.cell? ⟨w.heap.size + 1, 0, none⟩ = some (.int .i64 N)
  lt : w.heap.size + 1 < W.heap.size
  below : Below w.heap.size w W
theorem Fm.step {w W W' : World} {o : Thing} {A : Option Addr} {c : Nat} {P : Option Addr} {d : Nat} {N : Nat} (h : Fm w W o A c P d N) (hb : Below W.heap.size W W') : Fm w W' o A c P d N :=
  ⟨h.box.step hb, cell_step h.cell h.lt hb, Nat.lt_of_lt_of_le h.lt hb.size, h.below.trans (hb.mono h.below.size)⟩
theorem Fm.drew {w W : World} {o : Thing} {A : Option Addr} {c : Nat} {P : Option Addr} {d : Nat} {N : Nat} (h : Fm w W o A c P d N) : Fm w W.drew o A c P d N := h.step (Below.refl _ W).drew
theorem fm_new (w : World) (o : Thing) (A : Option Addr) (c : Nat) (P : Option Addr) (d : Nat) (N : Nat) : Fm w ((w.alloc (.cells (objC o A c P d) 25 (0, 0))).alloc (.cells #[.int .i64 N] 3 (0, 0))) o A c P d N := by
  have h := two_new w 25 3 (objC o A c P d) #[.int .i64 N]
  exact ⟨h.a, h.b.cell 0, h.b.lt, h.below⟩
theorem word_empty (k : Int) : ((Idf.word k).toList == []) = !(decide (1 ≤ k) && decide (k ≤ 4)) := by
  by_cases h : 1 ≤ k ∧ k ≤ 4
  · rw [decide_eq_true h.1, decide_eq_true h.2]
    rcases Idf.kind_cases h with rfl | rfl | rfl | rfl <;> rw [toList_bl] <;> rfl
  · rw [Idf.word_no h]
    have : (decide (1 ≤ k) && decide (k ≤ 4)) = false := by rw [← Bool.not_eq_true, Bool.and_eq_true, decide_eq_true_eq, decide_eq_true_eq]; exact h
    rw [this, toList_bl]; rfl

set_option maxHeartbeats 16000000 in
set_option maxRecDepth 100000 in
theorem formed_any (o : Thing) (A : Option Addr) (c : Nat) (P : Option Addr) (d : Nat) (sp : Int) (w : World) (hL : Lies w w.heap.size o A P) (hF : Fit o) (hcap : o.parents.length ≤ d) :
    Calls Tryz.prog 24 #[.agg (objC o A c P d), .int .i64 sp] w fun e w' => e = .returned (.bool (decide (sp = 1 ∨ sp = 2) && Ob.formed o (spSize sp))) ∧ Below w.heap.size w w' := by
  have hmf : ∀ (fn : Fn) (first cap : Array Value) (w : World), (Instr.makeFunc fn first cap).run Tryz.prog w = .ok (.func fn first cap) w := fun _ _ _ _ => rfl
  by_cases hsp : sp = 1 ∨ sp = 2
  · have hpos : 0 < spSize sp := by rw [spSize]; split <;> omega
    have HZ := Lib.hid (fun W => show Calls Tryz.prog 22 #[.int .i64 sp] W fun e w' => e = .returned (.int .i64 (spSize sp)) ∧ W = w' from by
      have := Size_any sp W
      rcases hsp with rfl | rfl
      · exact this
      · exact this)
    rw [decide_eq_true hsp, Bool.true_and]
    clear hsp
    generalize spSize sp = N at *
    have hN : ((N : Int) == 0) = false := beq_eq_false_iff_ne.2 (by omega)
    have HW := Lib.hid (fun W (h : Fm w W o A c P d N) => without_any o A c P d w.heap.size W (hL.below h.below) h.below.size)
    have HS := Lib.hid (fun W A5 c5 P5 d5 (h : Fm w W o A c P d N) (h5 : Lies W w.heap.size (Ob.without o) A5 P5) => psame_any W w.heap.size (Ob.without o) { zero with kind := o.kind } A5 c5 P5 d5 none 0 none 0 h5 (lies_nil W w.heap.size { zero with kind := o.kind } rfl rfl none none) h.below.size (without_ents hF) (without_pars hF))
    have HRE := Lib.hid (fun W (h : Fm w W o A c P d N) => rightEntries_any W w.heap.size A c o.ents N (w.heap.size + 1) (hL.below h.below).ents h.below.size h.lt h.cell)
    have HRP := Lib.hid (fun W (h : Fm w W o A c P d N) => rightParents_any W w.heap.size P d o.parents N (w.heap.size + 1) (hL.below h.below).pars hcap h.cell)
    have HSG := Lib.hid (fun W => psigned_any o A c P d W)
    have HWD := Lib.hid (fun W => pword_any o.ofk W)
    have HTG := Lib.hid (fun W => ptagName_any o.name W)
    have hwe : (Idf.word o.ofk).toList.isEmpty = !(decide (1 ≤ o.ofk) && decide (o.ofk ≤ 4)) := by rw [← word_empty]; cases (Idf.word o.ofk).toList <;> rfl
    have HNT := Lib.hid (fun W h => named_any o.tree N (w.heap.size + 1) W h)
    have HNG := Lib.hid (fun W h => named_any o.target N (w.heap.size + 1) W h)
    have HP0 := Lib.hid (fm_new w o A c P d N)
    clear hL hF hcap hpos
    generalize Idf.word o.ofk = wd at *
    have HFO := Lib.hid (show Ob.formed o N = (Ob.same (Ob.without o) { zero with kind := o.kind } && (if o.kind = 1 then true else if o.kind = 2 then (decide (o.ents.length ≤ 512) && entsOk N o.ents none) else if o.kind = 3 then (decide (o.tree.size = N) && (decide (o.parents.length ≤ 8) && parsOk N o.parents) && Ob.signed o) else if o.kind = 4 then (decide (o.target.size = N) && (decide (1 ≤ o.ofk) && decide (o.ofk ≤ 4)) && tagName (bl o.name) && Ob.signed o) else false)) from rfl)
    rw [HFO.out]
    clear HFO
    generalize Ob.same (Ob.without o) { zero with kind := o.kind } = bs at *
    generalize (decide (o.ents.length ≤ 512) && entsOk N o.ents none) = be at *
    generalize (decide (o.parents.length ≤ 8) && parsOk N o.parents) = bp at *
    generalize Ob.signed o = bg at *
    generalize tagName (bl o.name) = bt at *
    generalize (decide (1 ≤ o.ofk) && decide (o.ofk ≤ 4)) = bw at *
    generalize decide (o.tree.size = N) = bn at *
    generalize decide (o.target.size = N) = bm at *
    cases bs with
    | false =>
      rw [Bool.false_and]
      have hT : (!false) = true := rfl
      go_enter Tryz.func24, Tryz.ntmps24
      go_upto_region 2 with (go_at_call 22; refine (HZ.out _).mono ?_; rintro r w2 ⟨rfl, rfl⟩)
      have HP1 := HP0
      clear HP0
      generalize (w.alloc (.cells (objC o A c P d) 25 (0, 0))).alloc (.cells #[.int .i64 N] 3 (0, 0)) = W1 at *
      refine wp_region_seq (fun W => Fm w W o A c P d N) [(0, false, 0), (1, false, 1), (2, false, 3), (3, false, 7), (5, false, 15), (6, false, 47), (7, false, 111), (4, true, 239), (8, true, 255), (9, false, 511), (10, false, 1023)]
        11 (by kernel_rfl) (by kernel_rfl) (by kernel_rfl) (fun d _ _ _ _ h => by cases d <;> exact h) (by kernel_rfl) (by kernel_rfl) (HP1.out.drew) ?_
      have HP := Lib.hid HP1.out.drew
      clear HP1
      generalize W1.drew = W2 at *
      refine seqH_take (.int .i64 N) rfl (Or.inl ⟨by rfl, fun W hW => by obtain ⟨c0, c1, c2, c3, c4, c5, c6, c7, c8, c9⟩ := hW.box.ten; have hcl := hW.cell; clear hW; go_simp⟩) ?_
      go_simp
      refine seqH_take (.bool false) rfl (Or.inl ⟨by rfl, fun W hW => by go_simp⟩) ?_
      go_simp
      refine seqH_take (.bool false) rfl (Or.inl ⟨by rfl, fun W hW => by go_simp⟩) ?_
      go_simp
      refine seqH_take (.agg (objC o A c P d)) rfl (Or.inl ⟨by rfl, fun W hW => by obtain ⟨c0, c1, c2, c3, c4, c5, c6, c7, c8, c9⟩ := hW.box.ten; have hcl := hW.cell; clear hW; go_simp⟩) ?_
      go_simp
      refine seqH_take (.pointer (some ⟨w.heap.size, 0, none⟩)) rfl (Or.inl ⟨by rfl, fun W hW => by go_simp⟩) ?_
      go_simp
      refine seqH_take (.int .i64 o.kind) rfl (Or.inl ⟨by rfl, fun W hW => by obtain ⟨c0, c1, c2, c3, c4, c5, c6, c7, c8, c9⟩ := hW.box.ten; have hcl := hW.cell; clear hW; go_simp⟩) ?_
      go_simp
      refine seqH_take (.agg #[.int .i64 o.kind, .string ⟨#[]⟩, .slice none 0 0, .string ⟨#[]⟩, .slice none 0 0, .string ⟨#[]⟩, .int .i64 0, .string ⟨#[]⟩, .string ⟨#[]⟩, .int .i64 0]) rfl (Or.inl ⟨by rfl, fun W hW => by go_simp⟩) ?_
      go_simp
      refine seqH_call rfl (by rfl) (fun K hK => ?_)
      have HKK := Lib.hid hK
      clear hK
      go_simp
      refine (HW.out _ HP.out).mono ?_
      rintro r w5 ⟨A5, c5, P5, d5, rfl, hl5, hb5⟩
      have HL5 := Lib.hid hl5
      have HP := Lib.hid (HP.out.step hb5)
      clear hl5 hb5
      refine HKK.out _ _ HP.out ?_
      clear HKK K
      go_simp
      refine seqH_call rfl (by rfl) (fun K hK => ?_)
      have HKK := Lib.hid hK
      clear hK
      go_simp
      refine (HS.out _ _ _ _ _ HP.out HL5.out).mono ?_
      rintro r w6 ⟨rfl, hb6⟩
      have HP := Lib.hid (HP.out.step hb6)
      clear hb6
      refine HKK.out _ _ HP.out ?_
      clear HKK K
      go_simp
      refine seqH_take (.bool (!false)) rfl (Or.inl ⟨by rfl, fun W hW => by go_simp⟩) ?_
      go_simp
      refine seqH_take (.bool (!false)) rfl (Or.inl ⟨by rfl, fun W hW => by go_simp⟩) ?_
      go_simp
      refine seqH_done ?_
      obtain ⟨c0, c1, c2, c3, c4, c5, c6, c7, c8, c9⟩ := HP.out.box.ten
      go_wp2
      go_ret
      exact ⟨rfl, HP.out.below⟩
    | true =>
      rw [Bool.true_and]
      have hT : (!true) = false := rfl
      by_cases k1 : o.kind = 1
      · rw [if_pos k1]
        have q1 : (o.kind == 1) = true := by rw [k1]; rfl
        clear k1
        go_enter Tryz.func24, Tryz.ntmps24
        go_upto_region 2 with (go_at_call 22; refine (HZ.out _).mono ?_; rintro r w2 ⟨rfl, rfl⟩)
        have HP1 := HP0
        clear HP0
        generalize (w.alloc (.cells (objC o A c P d) 25 (0, 0))).alloc (.cells #[.int .i64 N] 3 (0, 0)) = W1 at *
        refine wp_region_seq (fun W => Fm w W o A c P d N) [(0, false, 0), (1, false, 1), (2, false, 3), (3, false, 7), (5, false, 15), (6, false, 47), (7, false, 111), (4, true, 239), (8, true, 255), (9, false, 511), (10, false, 1023)]
          11 (by kernel_rfl) (by kernel_rfl) (by kernel_rfl) (fun d _ _ _ _ h => by cases d <;> exact h) (by kernel_rfl) (by kernel_rfl) (HP1.out.drew) ?_
        have HP := Lib.hid HP1.out.drew
        clear HP1
        generalize W1.drew = W2 at *
        refine seqH_take (.int .i64 N) rfl (Or.inl ⟨by rfl, fun W hW => by obtain ⟨c0, c1, c2, c3, c4, c5, c6, c7, c8, c9⟩ := hW.box.ten; have hcl := hW.cell; clear hW; go_simp⟩) ?_
        go_simp
        refine seqH_take (.bool false) rfl (Or.inl ⟨by rfl, fun W hW => by go_simp⟩) ?_
        go_simp
        refine seqH_take (.bool false) rfl (Or.inl ⟨by rfl, fun W hW => by go_simp⟩) ?_
        go_simp
        refine seqH_take (.agg (objC o A c P d)) rfl (Or.inl ⟨by rfl, fun W hW => by obtain ⟨c0, c1, c2, c3, c4, c5, c6, c7, c8, c9⟩ := hW.box.ten; have hcl := hW.cell; clear hW; go_simp⟩) ?_
        go_simp
        refine seqH_take (.pointer (some ⟨w.heap.size, 0, none⟩)) rfl (Or.inl ⟨by rfl, fun W hW => by go_simp⟩) ?_
        go_simp
        refine seqH_take (.int .i64 o.kind) rfl (Or.inl ⟨by rfl, fun W hW => by obtain ⟨c0, c1, c2, c3, c4, c5, c6, c7, c8, c9⟩ := hW.box.ten; have hcl := hW.cell; clear hW; go_simp⟩) ?_
        go_simp
        refine seqH_take (.agg #[.int .i64 o.kind, .string ⟨#[]⟩, .slice none 0 0, .string ⟨#[]⟩, .slice none 0 0, .string ⟨#[]⟩, .int .i64 0, .string ⟨#[]⟩, .string ⟨#[]⟩, .int .i64 0]) rfl (Or.inl ⟨by rfl, fun W hW => by go_simp⟩) ?_
        go_simp
        refine seqH_call rfl (by rfl) (fun K hK => ?_)
        have HKK := Lib.hid hK
        clear hK
        go_simp
        refine (HW.out _ HP.out).mono ?_
        rintro r w5 ⟨A5, c5, P5, d5, rfl, hl5, hb5⟩
        have HL5 := Lib.hid hl5
        have HP := Lib.hid (HP.out.step hb5)
        clear hl5 hb5
        refine HKK.out _ _ HP.out ?_
        clear HKK K
        go_simp
        refine seqH_call rfl (by rfl) (fun K hK => ?_)
        have HKK := Lib.hid hK
        clear hK
        go_simp
        refine (HS.out _ _ _ _ _ HP.out HL5.out).mono ?_
        rintro r w6 ⟨rfl, hb6⟩
        have HP := Lib.hid (HP.out.step hb6)
        clear hb6
        refine HKK.out _ _ HP.out ?_
        clear HKK K
        go_simp
        refine seqH_take (.bool (!true)) rfl (Or.inl ⟨by rfl, fun W hW => by go_simp⟩) ?_
        go_simp
        refine seqH_take (.bool (!true)) rfl (Or.inl ⟨by rfl, fun W hW => by go_simp⟩) ?_
        go_simp
        refine seqH_done ?_
        obtain ⟨c0, c1, c2, c3, c4, c5, c6, c7, c8, c9⟩ := HP.out.box.ten
        go_wp2
        go_ret
        exact ⟨rfl, HP.out.below⟩
      · rw [if_neg k1]
        have q1 : (o.kind == 1) = false := beq_eq_false_iff_ne.2 k1
        clear k1
        by_cases k2 : o.kind = 2
        · rw [if_pos k2]
          have q2 : (o.kind == 2) = true := by rw [k2]; rfl
          clear k2
          go_enter Tryz.func24, Tryz.ntmps24
          go_upto_region 2 with (go_at_call 22; refine (HZ.out _).mono ?_; rintro r w2 ⟨rfl, rfl⟩)
          have HP1 := HP0
          clear HP0
          generalize (w.alloc (.cells (objC o A c P d) 25 (0, 0))).alloc (.cells #[.int .i64 N] 3 (0, 0)) = W1 at *
          refine wp_region_seq (fun W => Fm w W o A c P d N) [(0, false, 0), (1, false, 1), (2, false, 3), (3, false, 7), (5, false, 15), (6, false, 47), (7, false, 111), (4, true, 239), (8, true, 255), (9, false, 511), (10, false, 1023)]
            11 (by kernel_rfl) (by kernel_rfl) (by kernel_rfl) (fun d _ _ _ _ h => by cases d <;> exact h) (by kernel_rfl) (by kernel_rfl) (HP1.out.drew) ?_
          have HP := Lib.hid HP1.out.drew
          clear HP1
          generalize W1.drew = W2 at *
          refine seqH_take (.int .i64 N) rfl (Or.inl ⟨by rfl, fun W hW => by obtain ⟨c0, c1, c2, c3, c4, c5, c6, c7, c8, c9⟩ := hW.box.ten; have hcl := hW.cell; clear hW; go_simp⟩) ?_
          go_simp
          refine seqH_take (.bool false) rfl (Or.inl ⟨by rfl, fun W hW => by go_simp⟩) ?_
          go_simp
          refine seqH_take (.bool false) rfl (Or.inl ⟨by rfl, fun W hW => by go_simp⟩) ?_
          go_simp
          refine seqH_take (.agg (objC o A c P d)) rfl (Or.inl ⟨by rfl, fun W hW => by obtain ⟨c0, c1, c2, c3, c4, c5, c6, c7, c8, c9⟩ := hW.box.ten; have hcl := hW.cell; clear hW; go_simp⟩) ?_
          go_simp
          refine seqH_take (.pointer (some ⟨w.heap.size, 0, none⟩)) rfl (Or.inl ⟨by rfl, fun W hW => by go_simp⟩) ?_
          go_simp
          refine seqH_take (.int .i64 o.kind) rfl (Or.inl ⟨by rfl, fun W hW => by obtain ⟨c0, c1, c2, c3, c4, c5, c6, c7, c8, c9⟩ := hW.box.ten; have hcl := hW.cell; clear hW; go_simp⟩) ?_
          go_simp
          refine seqH_take (.agg #[.int .i64 o.kind, .string ⟨#[]⟩, .slice none 0 0, .string ⟨#[]⟩, .slice none 0 0, .string ⟨#[]⟩, .int .i64 0, .string ⟨#[]⟩, .string ⟨#[]⟩, .int .i64 0]) rfl (Or.inl ⟨by rfl, fun W hW => by go_simp⟩) ?_
          go_simp
          refine seqH_call rfl (by rfl) (fun K hK => ?_)
          have HKK := Lib.hid hK
          clear hK
          go_simp
          refine (HW.out _ HP.out).mono ?_
          rintro r w5 ⟨A5, c5, P5, d5, rfl, hl5, hb5⟩
          have HL5 := Lib.hid hl5
          have HP := Lib.hid (HP.out.step hb5)
          clear hl5 hb5
          refine HKK.out _ _ HP.out ?_
          clear HKK K
          go_simp
          refine seqH_call rfl (by rfl) (fun K hK => ?_)
          have HKK := Lib.hid hK
          clear hK
          go_simp
          refine (HS.out _ _ _ _ _ HP.out HL5.out).mono ?_
          rintro r w6 ⟨rfl, hb6⟩
          have HP := Lib.hid (HP.out.step hb6)
          clear hb6
          refine HKK.out _ _ HP.out ?_
          clear HKK K
          go_simp
          refine seqH_take (.bool (!true)) rfl (Or.inl ⟨by rfl, fun W hW => by go_simp⟩) ?_
          go_simp
          refine seqH_take (.bool (!true)) rfl (Or.inl ⟨by rfl, fun W hW => by go_simp⟩) ?_
          go_simp
          refine seqH_done ?_
          obtain ⟨c0, c1, c2, c3, c4, c5, c6, c7, c8, c9⟩ := HP.out.box.ten
          go_wp2_with (first
            | (go_at_call 22; refine (HZ.out _).mono ?_; rintro r w2 ⟨rfl, rfl⟩)
            | (go_at_call 42; refine (HNT.out _ HP.out.cell).mono ?_; rintro r w7 ⟨rfl, rfl⟩)
            | (go_at_call 43; refine (HRE.out _ HP.out).mono ?_; rintro r w8 ⟨rfl, hb8⟩; have HP := Lib.hid (HP.out.step hb8); obtain ⟨c0, c1, c2, c3, c4, c5, c6, c7, c8, c9⟩ := HP.out.box.ten; clear hb8)
            | (go_at_call 44; refine (HRP.out _ HP.out).mono ?_; rintro r w9 ⟨rfl, rfl⟩)
            | (go_at_call 45; refine (HSG.out _).mono ?_; rintro r w10 ⟨rfl, hb10⟩; have HP := Lib.hid (HP.out.step hb10); obtain ⟨c0, c1, c2, c3, c4, c5, c6, c7, c8, c9⟩ := HP.out.box.ten; clear hb10)
            | (go_at_call 23; refine (HWD.out _).mono ?_; rintro r w11 ⟨rfl, rfl⟩)
            | (go_at_call 18; refine (HTG.out _).mono ?_; rintro r w12 ⟨rfl, hb12⟩; have HP := Lib.hid (HP.out.step hb12); obtain ⟨c0, c1, c2, c3, c4, c5, c6, c7, c8, c9⟩ := HP.out.box.ten; clear hb12))
          go_ret
          exact ⟨rfl, HP.out.below⟩
        · rw [if_neg k2]
          have q2 : (o.kind == 2) = false := beq_eq_false_iff_ne.2 k2
          clear k2
          by_cases k3 : o.kind = 3
          · rw [if_pos k3]
            have q3 : (o.kind == 3) = true := by rw [k3]; rfl
            clear k3
            go_enter Tryz.func24, Tryz.ntmps24
            go_upto_region 2 with (go_at_call 22; refine (HZ.out _).mono ?_; rintro r w2 ⟨rfl, rfl⟩)
            have HP1 := HP0
            clear HP0
            generalize (w.alloc (.cells (objC o A c P d) 25 (0, 0))).alloc (.cells #[.int .i64 N] 3 (0, 0)) = W1 at *
            refine wp_region_seq (fun W => Fm w W o A c P d N) [(0, false, 0), (1, false, 1), (2, false, 3), (3, false, 7), (5, false, 15), (6, false, 47), (7, false, 111), (4, true, 239), (8, true, 255), (9, false, 511), (10, false, 1023)]
              11 (by kernel_rfl) (by kernel_rfl) (by kernel_rfl) (fun d _ _ _ _ h => by cases d <;> exact h) (by kernel_rfl) (by kernel_rfl) (HP1.out.drew) ?_
            have HP := Lib.hid HP1.out.drew
            clear HP1
            generalize W1.drew = W2 at *
            refine seqH_take (.int .i64 N) rfl (Or.inl ⟨by rfl, fun W hW => by obtain ⟨c0, c1, c2, c3, c4, c5, c6, c7, c8, c9⟩ := hW.box.ten; have hcl := hW.cell; clear hW; go_simp⟩) ?_
            go_simp
            refine seqH_take (.bool false) rfl (Or.inl ⟨by rfl, fun W hW => by go_simp⟩) ?_
            go_simp
            refine seqH_take (.bool false) rfl (Or.inl ⟨by rfl, fun W hW => by go_simp⟩) ?_
            go_simp
            refine seqH_take (.agg (objC o A c P d)) rfl (Or.inl ⟨by rfl, fun W hW => by obtain ⟨c0, c1, c2, c3, c4, c5, c6, c7, c8, c9⟩ := hW.box.ten; have hcl := hW.cell; clear hW; go_simp⟩) ?_
            go_simp
            refine seqH_take (.pointer (some ⟨w.heap.size, 0, none⟩)) rfl (Or.inl ⟨by rfl, fun W hW => by go_simp⟩) ?_
            go_simp
            refine seqH_take (.int .i64 o.kind) rfl (Or.inl ⟨by rfl, fun W hW => by obtain ⟨c0, c1, c2, c3, c4, c5, c6, c7, c8, c9⟩ := hW.box.ten; have hcl := hW.cell; clear hW; go_simp⟩) ?_
            go_simp
            refine seqH_take (.agg #[.int .i64 o.kind, .string ⟨#[]⟩, .slice none 0 0, .string ⟨#[]⟩, .slice none 0 0, .string ⟨#[]⟩, .int .i64 0, .string ⟨#[]⟩, .string ⟨#[]⟩, .int .i64 0]) rfl (Or.inl ⟨by rfl, fun W hW => by go_simp⟩) ?_
            go_simp
            refine seqH_call rfl (by rfl) (fun K hK => ?_)
            have HKK := Lib.hid hK
            clear hK
            go_simp
            refine (HW.out _ HP.out).mono ?_
            rintro r w5 ⟨A5, c5, P5, d5, rfl, hl5, hb5⟩
            have HL5 := Lib.hid hl5
            have HP := Lib.hid (HP.out.step hb5)
            clear hl5 hb5
            refine HKK.out _ _ HP.out ?_
            clear HKK K
            go_simp
            refine seqH_call rfl (by rfl) (fun K hK => ?_)
            have HKK := Lib.hid hK
            clear hK
            go_simp
            refine (HS.out _ _ _ _ _ HP.out HL5.out).mono ?_
            rintro r w6 ⟨rfl, hb6⟩
            have HP := Lib.hid (HP.out.step hb6)
            clear hb6
            refine HKK.out _ _ HP.out ?_
            clear HKK K
            go_simp
            refine seqH_take (.bool (!true)) rfl (Or.inl ⟨by rfl, fun W hW => by go_simp⟩) ?_
            go_simp
            refine seqH_take (.bool (!true)) rfl (Or.inl ⟨by rfl, fun W hW => by go_simp⟩) ?_
            go_simp
            refine seqH_done ?_
            obtain ⟨c0, c1, c2, c3, c4, c5, c6, c7, c8, c9⟩ := HP.out.box.ten
            cases bn <;> cases bp <;> cases bg
            all_goals
              go_wp2_with (first
                | (go_at_call 22; refine (HZ.out _).mono ?_; rintro r w2 ⟨rfl, rfl⟩)
                | (go_at_call 42; refine (HNT.out _ HP.out.cell).mono ?_; rintro r w7 ⟨rfl, rfl⟩)
                | (go_at_call 43; refine (HRE.out _ HP.out).mono ?_; rintro r w8 ⟨rfl, hb8⟩; have HP := Lib.hid (HP.out.step hb8); obtain ⟨c0, c1, c2, c3, c4, c5, c6, c7, c8, c9⟩ := HP.out.box.ten; clear hb8)
                | (go_at_call 44; refine (HRP.out _ HP.out).mono ?_; rintro r w9 ⟨rfl, rfl⟩)
                | (go_at_call 45; refine (HSG.out _).mono ?_; rintro r w10 ⟨rfl, hb10⟩; have HP := Lib.hid (HP.out.step hb10); obtain ⟨c0, c1, c2, c3, c4, c5, c6, c7, c8, c9⟩ := HP.out.box.ten; clear hb10)
                | (go_at_call 23; refine (HWD.out _).mono ?_; rintro r w11 ⟨rfl, rfl⟩)
                | (go_at_call 18; refine (HTG.out _).mono ?_; rintro r w12 ⟨rfl, hb12⟩; have HP := Lib.hid (HP.out.step hb12); obtain ⟨c0, c1, c2, c3, c4, c5, c6, c7, c8, c9⟩ := HP.out.box.ten; clear hb12))
              go_ret
              exact ⟨rfl, HP.out.below⟩
          · rw [if_neg k3]
            have q3 : (o.kind == 3) = false := beq_eq_false_iff_ne.2 k3
            clear k3
            by_cases k4 : o.kind = 4
            · rw [if_pos k4]
              have q4 : (o.kind == 4) = true := by rw [k4]; rfl
              clear k4
              go_enter Tryz.func24, Tryz.ntmps24
              go_upto_region 2 with (go_at_call 22; refine (HZ.out _).mono ?_; rintro r w2 ⟨rfl, rfl⟩)
              have HP1 := HP0
              clear HP0
              generalize (w.alloc (.cells (objC o A c P d) 25 (0, 0))).alloc (.cells #[.int .i64 N] 3 (0, 0)) = W1 at *
              refine wp_region_seq (fun W => Fm w W o A c P d N) [(0, false, 0), (1, false, 1), (2, false, 3), (3, false, 7), (5, false, 15), (6, false, 47), (7, false, 111), (4, true, 239), (8, true, 255), (9, false, 511), (10, false, 1023)]
                11 (by kernel_rfl) (by kernel_rfl) (by kernel_rfl) (fun d _ _ _ _ h => by cases d <;> exact h) (by kernel_rfl) (by kernel_rfl) (HP1.out.drew) ?_
              have HP := Lib.hid HP1.out.drew
              clear HP1
              generalize W1.drew = W2 at *
              refine seqH_take (.int .i64 N) rfl (Or.inl ⟨by rfl, fun W hW => by obtain ⟨c0, c1, c2, c3, c4, c5, c6, c7, c8, c9⟩ := hW.box.ten; have hcl := hW.cell; clear hW; go_simp⟩) ?_
              go_simp
              refine seqH_take (.bool false) rfl (Or.inl ⟨by rfl, fun W hW => by go_simp⟩) ?_
              go_simp
              refine seqH_take (.bool false) rfl (Or.inl ⟨by rfl, fun W hW => by go_simp⟩) ?_
              go_simp
              refine seqH_take (.agg (objC o A c P d)) rfl (Or.inl ⟨by rfl, fun W hW => by obtain ⟨c0, c1, c2, c3, c4, c5, c6, c7, c8, c9⟩ := hW.box.ten; have hcl := hW.cell; clear hW; go_simp⟩) ?_
              go_simp
              refine seqH_take (.pointer (some ⟨w.heap.size, 0, none⟩)) rfl (Or.inl ⟨by rfl, fun W hW => by go_simp⟩) ?_
              go_simp
              refine seqH_take (.int .i64 o.kind) rfl (Or.inl ⟨by rfl, fun W hW => by obtain ⟨c0, c1, c2, c3, c4, c5, c6, c7, c8, c9⟩ := hW.box.ten; have hcl := hW.cell; clear hW; go_simp⟩) ?_
              go_simp
              refine seqH_take (.agg #[.int .i64 o.kind, .string ⟨#[]⟩, .slice none 0 0, .string ⟨#[]⟩, .slice none 0 0, .string ⟨#[]⟩, .int .i64 0, .string ⟨#[]⟩, .string ⟨#[]⟩, .int .i64 0]) rfl (Or.inl ⟨by rfl, fun W hW => by go_simp⟩) ?_
              go_simp
              refine seqH_call rfl (by rfl) (fun K hK => ?_)
              have HKK := Lib.hid hK
              clear hK
              go_simp
              refine (HW.out _ HP.out).mono ?_
              rintro r w5 ⟨A5, c5, P5, d5, rfl, hl5, hb5⟩
              have HL5 := Lib.hid hl5
              have HP := Lib.hid (HP.out.step hb5)
              clear hl5 hb5
              refine HKK.out _ _ HP.out ?_
              clear HKK K
              go_simp
              refine seqH_call rfl (by rfl) (fun K hK => ?_)
              have HKK := Lib.hid hK
              clear hK
              go_simp
              refine (HS.out _ _ _ _ _ HP.out HL5.out).mono ?_
              rintro r w6 ⟨rfl, hb6⟩
              have HP := Lib.hid (HP.out.step hb6)
              clear hb6
              refine HKK.out _ _ HP.out ?_
              clear HKK K
              go_simp
              refine seqH_take (.bool (!true)) rfl (Or.inl ⟨by rfl, fun W hW => by go_simp⟩) ?_
              go_simp
              refine seqH_take (.bool (!true)) rfl (Or.inl ⟨by rfl, fun W hW => by go_simp⟩) ?_
              go_simp
              refine seqH_done ?_
              obtain ⟨c0, c1, c2, c3, c4, c5, c6, c7, c8, c9⟩ := HP.out.box.ten
              cases bm <;> cases bw <;> cases bt <;> cases bg
              all_goals
                go_wp2_with (first
                  | (go_at_call 22; refine (HZ.out _).mono ?_; rintro r w2 ⟨rfl, rfl⟩)
                  | (go_at_call 42; refine (HNG.out _ HP.out.cell).mono ?_; rintro r w7 ⟨rfl, rfl⟩)
                  | (go_at_call 43; refine (HRE.out _ HP.out).mono ?_; rintro r w8 ⟨rfl, hb8⟩; have HP := Lib.hid (HP.out.step hb8); obtain ⟨c0, c1, c2, c3, c4, c5, c6, c7, c8, c9⟩ := HP.out.box.ten; clear hb8)
                  | (go_at_call 44; refine (HRP.out _ HP.out).mono ?_; rintro r w9 ⟨rfl, rfl⟩)
                  | (go_at_call 45; refine (HSG.out _).mono ?_; rintro r w10 ⟨rfl, hb10⟩; have HP := Lib.hid (HP.out.step hb10); obtain ⟨c0, c1, c2, c3, c4, c5, c6, c7, c8, c9⟩ := HP.out.box.ten; clear hb10)
                  | (go_at_call 23; refine (HWD.out _).mono ?_; rintro r w11 ⟨rfl, rfl⟩)
                  | (go_at_call 18; refine (HTG.out _).mono ?_; rintro r w12 ⟨rfl, hb12⟩; have HP := Lib.hid (HP.out.step hb12); obtain ⟨c0, c1, c2, c3, c4, c5, c6, c7, c8, c9⟩ := HP.out.box.ten; clear hb12))
                go_ret
                exact ⟨rfl, HP.out.below⟩
            · rw [if_neg k4]
              have q4 : (o.kind == 4) = false := beq_eq_false_iff_ne.2 k4
              clear k4
              go_enter Tryz.func24, Tryz.ntmps24
              go_upto_region 2 with (go_at_call 22; refine (HZ.out _).mono ?_; rintro r w2 ⟨rfl, rfl⟩)
              have HP1 := HP0
              clear HP0
              generalize (w.alloc (.cells (objC o A c P d) 25 (0, 0))).alloc (.cells #[.int .i64 N] 3 (0, 0)) = W1 at *
              refine wp_region_seq (fun W => Fm w W o A c P d N) [(0, false, 0), (1, false, 1), (2, false, 3), (3, false, 7), (5, false, 15), (6, false, 47), (7, false, 111), (4, true, 239), (8, true, 255), (9, false, 511), (10, false, 1023)]
                11 (by kernel_rfl) (by kernel_rfl) (by kernel_rfl) (fun d _ _ _ _ h => by cases d <;> exact h) (by kernel_rfl) (by kernel_rfl) (HP1.out.drew) ?_
              have HP := Lib.hid HP1.out.drew
              clear HP1
              generalize W1.drew = W2 at *
              refine seqH_take (.int .i64 N) rfl (Or.inl ⟨by rfl, fun W hW => by obtain ⟨c0, c1, c2, c3, c4, c5, c6, c7, c8, c9⟩ := hW.box.ten; have hcl := hW.cell; clear hW; go_simp⟩) ?_
              go_simp
              refine seqH_take (.bool false) rfl (Or.inl ⟨by rfl, fun W hW => by go_simp⟩) ?_
              go_simp
              refine seqH_take (.bool false) rfl (Or.inl ⟨by rfl, fun W hW => by go_simp⟩) ?_
              go_simp
              refine seqH_take (.agg (objC o A c P d)) rfl (Or.inl ⟨by rfl, fun W hW => by obtain ⟨c0, c1, c2, c3, c4, c5, c6, c7, c8, c9⟩ := hW.box.ten; have hcl := hW.cell; clear hW; go_simp⟩) ?_
              go_simp
              refine seqH_take (.pointer (some ⟨w.heap.size, 0, none⟩)) rfl (Or.inl ⟨by rfl, fun W hW => by go_simp⟩) ?_
              go_simp
              refine seqH_take (.int .i64 o.kind) rfl (Or.inl ⟨by rfl, fun W hW => by obtain ⟨c0, c1, c2, c3, c4, c5, c6, c7, c8, c9⟩ := hW.box.ten; have hcl := hW.cell; clear hW; go_simp⟩) ?_
              go_simp
              refine seqH_take (.agg #[.int .i64 o.kind, .string ⟨#[]⟩, .slice none 0 0, .string ⟨#[]⟩, .slice none 0 0, .string ⟨#[]⟩, .int .i64 0, .string ⟨#[]⟩, .string ⟨#[]⟩, .int .i64 0]) rfl (Or.inl ⟨by rfl, fun W hW => by go_simp⟩) ?_
              go_simp
              refine seqH_call rfl (by rfl) (fun K hK => ?_)
              have HKK := Lib.hid hK
              clear hK
              go_simp
              refine (HW.out _ HP.out).mono ?_
              rintro r w5 ⟨A5, c5, P5, d5, rfl, hl5, hb5⟩
              have HL5 := Lib.hid hl5
              have HP := Lib.hid (HP.out.step hb5)
              clear hl5 hb5
              refine HKK.out _ _ HP.out ?_
              clear HKK K
              go_simp
              refine seqH_call rfl (by rfl) (fun K hK => ?_)
              have HKK := Lib.hid hK
              clear hK
              go_simp
              refine (HS.out _ _ _ _ _ HP.out HL5.out).mono ?_
              rintro r w6 ⟨rfl, hb6⟩
              have HP := Lib.hid (HP.out.step hb6)
              clear hb6
              refine HKK.out _ _ HP.out ?_
              clear HKK K
              go_simp
              refine seqH_take (.bool (!true)) rfl (Or.inl ⟨by rfl, fun W hW => by go_simp⟩) ?_
              go_simp
              refine seqH_take (.bool (!true)) rfl (Or.inl ⟨by rfl, fun W hW => by go_simp⟩) ?_
              go_simp
              refine seqH_done ?_
              obtain ⟨c0, c1, c2, c3, c4, c5, c6, c7, c8, c9⟩ := HP.out.box.ten
              go_wp2
              go_ret
              exact ⟨rfl, HP.out.below⟩
  · have HZ := Lib.hid (fun W => show Calls Tryz.prog 22 #[.int .i64 sp] W fun e w' => e = .returned (.int .i64 0) ∧ W = w' from by
      have := Size_any sp W
      rw [if_neg (fun h => hsp (.inl h)), if_neg (fun h => hsp (.inr h))] at this
      exact this)
    rw [decide_eq_false hsp, Bool.false_and]
    have HB := Lib.hid (fm_new w o A c P d 0).below
    clear hsp hL hF hcap
    go_enter Tryz.func24, Tryz.ntmps24
    go_upto_region 2 with (go_at_call 22; refine (HZ.out _).mono ?_; rintro r w2 ⟨rfl, rfl⟩)
    refine wp_region_still_lit (by kernel_rfl) (by kernel_rfl) ?_
    change wpStill _ _ (World.drew _) (fun a' => Exit.then _ _ _ a' (World.drew _)) _ _
    iterate 3 still_step
    iterate 7 ((with_reducible refine Hw.wpStill_skip ?_ ?_); rfl; go_simp)
    still_step
    refine wpStill_nil ?_
    go_wp2
    go_ret
    exact ⟨rfl, HB.out.drew⟩
end Go.Proofs.YtapjgdhdgpakhaaGreatDoor.Hj
