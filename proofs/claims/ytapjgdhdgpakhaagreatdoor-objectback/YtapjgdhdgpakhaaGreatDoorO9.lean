/-
  Layer 11, the program's side: Right and Print.
-/
import Derived.Test.YtapjgdhdgpakhaaGreatDoorO8
import Derived.Test.YtapjgdhdgpakhaaGreatDoorO4
namespace Go.Proofs.YtapjgdhdgpakhaaGreatDoor.Hj
open Go.RowKit Ob Hr
set_option linter.unusedVariables false

theorem head_any (o : Thing) (A : Option Addr) (c : Nat) (P : Option Addr) (d N : Nat) (w : World) (hL : Lies w w.heap.size o A P) (hK : Kw w) (hN : N ≤ 32) (hs : shaped o N = true) :
    Calls Tryz.prog 25 #[.agg (objC o A c P d)] w fun e w' => e = .returned (.string (str (headF o))) ∧ Below w.heap.size w w' := by
  have hkk := shaped_kind hs
  unfold shaped at hs
  by_cases k1 : o.kind = 1
  · rw [headF, if_neg (by omega), if_neg (by omega), if_neg (by omega)]
    exact headBlob_any o A c P d w k1
  · rw [if_neg k1] at hs
    by_cases k2 : o.kind = 2
    · rw [if_pos k2] at hs
      simp only [Bool.and_eq_true, decide_eq_true_eq] at hs
      rw [headF, if_pos k2]
      exact headTree_any o A c P d N w hL k2 hN hs.1.2 (ents_facts hs.2)
    · rw [if_neg k2] at hs
      by_cases k3 : o.kind = 3
      · rw [if_pos k3] at hs
        simp only [signed, noTag, Bool.and_eq_true, decide_eq_true_eq, List.all_eq_true] at hs
        obtain ⟨⟨⟨⟨⟨⟨⟨⟨h1, h2⟩, h3⟩, _⟩, h7⟩, h8⟩, h9⟩, h10⟩, h11⟩ := hs
        rw [headF, if_neg k2, if_pos k3]
        exact headCommit_any o A c P d N w hL hK k3 hN h8 h9 h10 (who_plain h1).2.2 h2 h3
      · rw [if_neg k3] at hs
        have k4 : o.kind = 4 := by omega
        rw [if_pos k4] at hs
        simp only [signed, noCommit, Bool.and_eq_true, decide_eq_true_eq] at hs
        obtain ⟨⟨⟨⟨⟨⟨⟨⟨⟨h1, h2⟩, h3⟩, _⟩, h6⟩, _⟩, h7⟩, h8⟩, h9⟩, h10⟩ := hs
        rw [headF, if_neg k2, if_neg k3, if_pos k4]
        have := (tag_plain h10).2.2
        rw [bl_length] at this
        exact headTag_any o A c P d N w hK k4 hN h7 this (who_plain h1).2.2 h2 h3

set_option maxHeartbeats 1000000 in
set_option maxRecDepth 100000 in
theorem fits_any (a b : ByteArray) (w : World) (ha : a.size ≤ 10000000) (hb : b.size ≤ 10000000) : Calls Tryz.prog 26 #[.string a, .string b] w fun e w' => e = .returned (.bool (decide (a.size + b.size ≤ 65536))) ∧ w = w' := by
  by_cases h : a.size + b.size ≤ 65536
  · rw [decide_eq_true h]
    have i1 : (a.size : Int) + b.size ≤ 65536 := by omega
    go_enter Tryz.func26, Tryz.ntmps26
    go_wp2
    go_ret
    exact ⟨rfl, rfl⟩
  · rw [decide_eq_false h]
    have i1 : ¬ (a.size : Int) + b.size ≤ 65536 := by omega
    go_enter Tryz.func26, Tryz.ntmps26
    go_wp2
    go_ret
    exact ⟨rfl, rfl⟩
theorem sp_le (sp : Int) : spSize sp ≤ 32 := by rw [spSize]; split <;> omega
theorem head_size {o : Thing} {N : Nat} (hN : N ≤ 32) (hs : shaped o N = true) : (headF o).length ≤ 100000 := by
  have hkk := shaped_kind hs
  unfold shaped at hs
  by_cases k1 : o.kind = 1
  · rw [headF, if_neg (by omega), if_neg (by omega), if_neg (by omega)]; exact Nat.zero_le _
  · rw [if_neg k1] at hs
    by_cases k2 : o.kind = 2
    · rw [if_pos k2] at hs
      simp only [Bool.and_eq_true, decide_eq_true_eq] at hs
      rw [headF, if_pos k2]
      have := treeC_size (ents_facts hs.2) hN
      have := hs.1.2
      omega
    · rw [if_neg k2] at hs
      by_cases k3 : o.kind = 3
      · rw [if_pos k3] at hs
        simp only [signed, noTag, Bool.and_eq_true, decide_eq_true_eq, List.all_eq_true] at hs
        obtain ⟨⟨⟨⟨⟨⟨⟨⟨h1, h2⟩, h3⟩, _⟩, h7⟩, h8⟩, h9⟩, h10⟩, h11⟩ := hs
        have a1 := parC_size h10 hN
        have a2 := (who_plain h1).2.2
        have a3 := Idf.dec_len o.time.toNat 9 (by omega)
        rw [headF, if_neg k2, if_pos k3]
        simp only [line, wTree, wAuthor, signC, List.length_append, List.length_cons, List.length_nil, digs_size, bl_length]
        omega
      · rw [if_neg k3] at hs
        have k4 : o.kind = 4 := by omega
        rw [if_pos k4] at hs
        simp only [signed, noCommit, Bool.and_eq_true, decide_eq_true_eq] at hs
        obtain ⟨⟨⟨⟨⟨⟨⟨⟨⟨h1, h2⟩, h3⟩, _⟩, h6⟩, _⟩, h7⟩, h8⟩, h9⟩, h10⟩ := hs
        have a0 := (tag_plain h10).2.2
        have a2 := (who_plain h1).2.2
        have a3 := Idf.dec_len o.time.toNat 9 (by omega)
        have a4 := Idf.word_size o.ofk
        rw [headF, if_neg k2, if_neg k3, if_pos k4]
        simp only [line, wObject, wType, wTag, wTagger, signC, List.length_append, List.length_cons, List.length_nil, digs_size, bl_length] at a0 ⊢
        omega

theorem right_parts2 (o : Thing) (sp : Int) : Ob.right o sp = (decide (sp = 1 ∨ sp = 2) && Ob.formed o (spSize sp) && decide ((headF o).length + o.text.size ≤ 65536)) := by
  rw [Ob.right, formed_eq]
  cases hs : shaped o (spSize sp) with
  | false => simp
  | true => rw [content_head hs, List.length_append, bl_length]
set_option maxHeartbeats 8000000 in
set_option maxRecDepth 100000 in
theorem pright_any (o : Thing) (A : Option Addr) (c : Nat) (P : Option Addr) (d : Nat) (sp : Int) (w : World) (hK : Kw w) (hL : Lies w w.heap.size o A P) (hF : Fit o) (hcap : o.parents.length ≤ d) :
    Calls Tryz.prog 15 #[.agg (objC o A c P d), .int .i64 sp] w fun e w' => e = .returned (.bool (Ob.right o sp)) ∧ Below w.heap.size w w' := by
  have HP := Lib.hid (one_new w 25 (objC o A c P d))
  rw [right_parts2]
  have HF : Hid (∀ W, OneB w W w.heap.size 25 (objC o A c P d) → Calls Tryz.prog 24 #[.agg (objC o A c P d), .int .i64 sp] W fun e w' => e = .returned (.bool (decide (sp = 1 ∨ sp = 2) && Ob.formed o (spSize sp))) ∧ Below W.heap.size W w') := Lib.hid (fun W h => formed_any o A c P d sp W (hL.step h.below) hF hcap)
  cases hfo : (decide (sp = 1 ∨ sp = 2) && Ob.formed o (spSize sp)) with
  | false =>
    rw [hfo] at HF
    rw [Bool.false_and]
    clear hK hL hF hcap hfo
    go_enter Tryz.func15, Tryz.ntmps15
    go_upto_region 1 with fail
    refine wp_region_seq (fun W' => OneB w W' w.heap.size 25 (objC o A c P d)) [(0, false, 0), (1, false, 1), (2, true, 3), (3, false, 7), (4, false, 15), (5, false, 31), (6, false, 63), (7, false, 127), (8, false, 255), (9, false, 511), (10, false, 1023)]
      11 (by kernel_rfl) (by kernel_rfl) (by kernel_rfl) (fun d _ _ _ _ h => by cases d <;> exact h) (by kernel_rfl) (by kernel_rfl) (HP.out.drew) ?_
    have HP := Lib.hid HP.out.drew
    generalize (w.alloc (.cells (objC o A c P d) 25 (0, 0))).drew = W1 at *
    refine seqH_take (.agg (objC o A c P d)) rfl (Or.inl ⟨by rfl, fun W hW => by obtain ⟨c0, c1, c2, c3, c4, c5, c6, c7, c8, c9⟩ := hW.a.ten; clear hW; go_simp⟩) ?_
    go_simp
    refine seqH_take (.int .i64 sp) rfl (Or.inl ⟨by rfl, fun W hW => by go_simp⟩) ?_
    go_simp
    refine seqH_call rfl (by rfl) (fun K hK => ?_)
    have HKK := Lib.hid hK
    clear hK
    go_simp
    refine (HF.out _ HP.out).mono ?_
    rintro r w2 ⟨rfl, hb2⟩
    have HP := Lib.hid (HP.out.step hb2)
    clear hb2
    refine HKK.out _ _ HP.out ?_
    clear HKK K
    go_simp
    refine seqH_take (.bool false) rfl (Or.inl ⟨by rfl, fun W hW => by go_simp⟩) ?_
    go_simp
    refine seqH_take undef rfl (Or.inr ⟨by rfl, rfl⟩) ?_
    go_simp
    refine seqH_take undef rfl (Or.inr ⟨by rfl, rfl⟩) ?_
    go_simp
    refine seqH_take undef rfl (Or.inr ⟨by rfl, rfl⟩) ?_
    go_simp
    refine seqH_take undef rfl (Or.inr ⟨by rfl, rfl⟩) ?_
    go_simp
    refine seqH_take undef rfl (Or.inr ⟨by rfl, rfl⟩) ?_
    go_simp
    refine seqH_take (.bool false) rfl (Or.inl ⟨by rfl, fun W hW => by go_simp⟩) ?_
    go_simp
    refine seqH_take (.bool false) rfl (Or.inl ⟨by rfl, fun W hW => by go_simp⟩) ?_
    go_simp
    refine seqH_done ?_
    go_wp2
    go_ret
    exact ⟨rfl, HP.out.below⟩
  | true =>
    rw [hfo] at HF
    rw [Bool.true_and]
    have hs : shaped o (spSize sp) = true := by rw [← formed_eq]; exact (Bool.and_eq_true _ _ |>.mp hfo).2
    have hz := head_size (sp_le sp) hs
    have hx := hF.text
    have HH := Lib.hid (fun W (h : OneB w W w.heap.size 25 (objC o A c P d)) => head_any o A c P d (spSize sp) W (hL.step h.below) (hK.under h.below) (sp_le sp) hs)
    have HT := Lib.hid (fun W => show Calls Tryz.prog 26 #[.string (str (headF o)), .string o.text] W fun e w' => e = .returned (.bool (decide ((headF o).length + o.text.size ≤ 65536))) ∧ W = w' from by
      have := fits_any (str (headF o)) o.text W (by rw [str_size]; omega) (by omega)
      rwa [str_size] at this)
    clear hK hL hF hcap hfo hs hz hx
    generalize decide ((headF o).length + o.text.size ≤ 65536) = bf at *
    generalize str (headF o) = hd at *
    go_enter Tryz.func15, Tryz.ntmps15
    go_upto_region 1 with fail
    refine wp_region_seq (fun W' => OneB w W' w.heap.size 25 (objC o A c P d)) [(0, false, 0), (1, false, 1), (2, true, 3), (3, false, 7), (4, false, 15), (6, false, 31), (7, false, 95), (5, true, 223), (8, true, 255), (9, false, 511), (10, false, 1023)]
      11 (by kernel_rfl) (by kernel_rfl) (by kernel_rfl) (fun d _ _ _ _ h => by cases d <;> exact h) (by kernel_rfl) (by kernel_rfl) (HP.out.drew) ?_
    have HP := Lib.hid HP.out.drew
    generalize (w.alloc (.cells (objC o A c P d) 25 (0, 0))).drew = W1 at *
    refine seqH_take (.agg (objC o A c P d)) rfl (Or.inl ⟨by rfl, fun W hW => by obtain ⟨c0, c1, c2, c3, c4, c5, c6, c7, c8, c9⟩ := hW.a.ten; clear hW; go_simp⟩) ?_
    go_simp
    refine seqH_take (.int .i64 sp) rfl (Or.inl ⟨by rfl, fun W hW => by go_simp⟩) ?_
    go_simp
    refine seqH_call rfl (by rfl) (fun K hK => ?_)
    have HKK := Lib.hid hK
    clear hK
    go_simp
    refine (HF.out _ HP.out).mono ?_
    rintro r w2 ⟨rfl, hb2⟩
    have HP := Lib.hid (HP.out.step hb2)
    clear hb2
    refine HKK.out _ _ HP.out ?_
    clear HKK K
    go_simp
    refine seqH_take (.bool true) rfl (Or.inl ⟨by rfl, fun W hW => by go_simp⟩) ?_
    go_simp
    refine seqH_take (.agg (objC o A c P d)) rfl (Or.inl ⟨by rfl, fun W hW => by obtain ⟨c0, c1, c2, c3, c4, c5, c6, c7, c8, c9⟩ := hW.a.ten; clear hW; go_simp⟩) ?_
    go_simp
    refine seqH_take (.pointer (some ⟨w.heap.size, 1, none⟩)) rfl (Or.inl ⟨by rfl, fun W hW => by go_simp⟩) ?_
    go_simp
    refine seqH_take (.string o.text) rfl (Or.inl ⟨by rfl, fun W hW => by obtain ⟨c0, c1, c2, c3, c4, c5, c6, c7, c8, c9⟩ := hW.a.ten; clear hW; go_simp⟩) ?_
    go_simp
    refine seqH_call rfl (by rfl) (fun K hK => ?_)
    have HKK := Lib.hid hK
    clear hK
    go_simp
    refine (HH.out _ HP.out).mono ?_
    rintro r w3 ⟨rfl, hb3⟩
    have HP := Lib.hid (HP.out.step hb3)
    clear hb3
    refine HKK.out _ _ HP.out ?_
    clear HKK K
    go_simp
    refine seqH_call rfl (by rfl) (fun K hK => ?_)
    have HKK := Lib.hid hK
    clear hK
    go_simp
    refine (HT.out _).mono ?_
    rintro r w4 ⟨rfl, rfl⟩
    refine HKK.out _ _ HP.out ?_
    clear HKK K
    go_simp
    refine seqH_take (.bool bf) rfl (Or.inl ⟨by rfl, fun W hW => by go_simp⟩) ?_
    go_simp
    refine seqH_take (.bool bf) rfl (Or.inl ⟨by rfl, fun W hW => by go_simp⟩) ?_
    go_simp
    refine seqH_done ?_
    go_wp2
    go_ret
    exact ⟨rfl, HP.out.below⟩

set_option maxHeartbeats 8000000 in
set_option maxRecDepth 100000 in
theorem pprint_any (o : Thing) (A : Option Addr) (c : Nat) (P : Option Addr) (d : Nat) (sp : Int) (w : World) (hK : Kw w) (hL : Lies w w.heap.size o A P) (hF : Fit o) (hcap : o.parents.length ≤ d) :
    Calls Tryz.prog 10 #[.agg (objC o A c P d), .int .i64 sp] w fun e w' => e = .returned (.tuple #[.string (printF o sp).1, .int .i64 (printF o sp).2]) ∧ Below w.heap.size w w' := by
  have HP := Lib.hid (one_new w 25 (objC o A c P d))
  have HZ := Lib.hid (fun W => Size_any sp W)
  have HW := Lib.hid (fun W => pword_any o.kind W)
  have hwe : (Idf.word o.kind).toList.isEmpty = !(decide (1 ≤ o.kind) && decide (o.kind ≤ 4)) := by rw [← word_empty]; cases (Idf.word o.kind).toList <;> rfl
  have HF : Hid (∀ W, OneB w W w.heap.size 25 (objC o A c P d) → Calls Tryz.prog 24 #[.agg (objC o A c P d), .int .i64 sp] W fun e w' => e = .returned (.bool (decide (sp = 1 ∨ sp = 2) && Ob.formed o (spSize sp))) ∧ Below W.heap.size W w') := Lib.hid (fun W h => formed_any o A c P d sp W (hL.step h.below) hF hcap)
  by_cases hsp : sp = 1 ∨ sp = 2
  · rw [show (if sp = 1 then (20 : Int) else if sp = 2 then 32 else 0) = (spSize sp : Nat) from by rcases hsp with rfl | rfl <;> rfl] at HZ
    have hN : ((spSize sp : Nat) : Int) ≠ 0 := by rcases hsp with rfl | rfl <;> decide
    have q0 : (((spSize sp : Nat) : Int) == 0) = false := beq_eq_false_iff_ne.2 hN
    by_cases hkk : 1 ≤ o.kind ∧ o.kind ≤ 4
    · rw [decide_eq_true hkk.1, decide_eq_true hkk.2] at hwe
      rw [decide_eq_true hsp, Bool.true_and, formed_eq] at HF
      cases hfo : shaped o (spSize sp) with
      | false =>
        rw [hfo] at HF
        have HR := Lib.hid (show printF o sp = (⟨#[]⟩, 3) from by rw [printF, if_neg (not_not_intro hsp), if_neg (not_not_intro hkk), if_pos hfo])
        rw [HR.out]
        clear hK hL hF hcap hfo hN hkk hsp
        generalize ((spSize sp : Nat) : Int) = sz at *
        generalize Idf.word o.kind = wd at *
        go_enter Tryz.func10, Tryz.ntmps10
        go_wp2_with (first
            | (go_at_call 22; refine (HZ.out _).mono ?_; rintro r w2 ⟨rfl, rfl⟩)
            | (go_at_call 23; refine (HW.out _).mono ?_; rintro r w3 ⟨rfl, rfl⟩)
            | (go_at_call 24; refine (HF.out _ HP.out).mono ?_; rintro r w4 ⟨rfl, hb4⟩; have HP := Lib.hid (HP.out.step hb4); obtain ⟨c0, c1, c2, c3, c4, c5, c6, c7, c8, c9⟩ := HP.out.a.ten; clear hb4)
            | (go_at_call 25; refine (HH.out _ HP.out).mono ?_; rintro r w5 ⟨rfl, hb5⟩; have HP := Lib.hid (HP.out.step hb5); obtain ⟨c0, c1, c2, c3, c4, c5, c6, c7, c8, c9⟩ := HP.out.a.ten; clear hb5)
            | (go_at_call 26; refine (HT.out _).mono ?_; rintro r w6 ⟨rfl, rfl⟩))
        go_ret2
        exact ⟨rfl, HP.out.below⟩
      | true =>
        rw [hfo] at HF
        have hz := head_size (sp_le sp) hfo
        have hx := hF.text
        have HH := Lib.hid (fun W (h : OneB w W w.heap.size 25 (objC o A c P d)) => head_any o A c P d (spSize sp) W (hL.step h.below) (hK.under h.below) (sp_le sp) hfo)
        have hch := content_head hfo
        have hcl : (content o).length = (headF o).length + o.text.size := by rw [hch, List.length_append, bl_length]
        have HT := Lib.hid (fun W => show Calls Tryz.prog 26 #[.string (str (headF o)), .string o.text] W fun e w' => e = .returned (.bool (decide ((headF o).length + o.text.size ≤ 65536))) ∧ W = w' from by
          have := fits_any (str (headF o)) o.text W (by rw [str_size]; omega) (by omega)
          rwa [str_size] at this)
        by_cases hft : (headF o).length + o.text.size ≤ 65536
        · rw [decide_eq_true hft] at HT
          have HR := Lib.hid (show printF o sp = (str (headF o) ++ o.text, 0) from by
            rw [printF, if_neg (not_not_intro hsp), if_neg (not_not_intro hkk), if_neg (by rw [hfo]; decide), if_neg (by omega), hch]
            exact congrArg (fun x => (x, (0 : Int))) (bl_inj (by rw [bl_str, bl_append, bl_str])))
          rw [HR.out]
          have hcat : ¬ 9223372036854775807 < (str (headF o)).size + o.text.size := by rw [str_size]; omega
          have hcat2 : (str (headF o)).size + o.text.size ≤ 9223372036854775807 := by rw [str_size]; omega
          clear hK hL hF hcap hfo hN hkk hsp hz hx hch hcl hft HR
          generalize ((spSize sp : Nat) : Int) = sz at *
          generalize Idf.word o.kind = wd at *
          generalize str (headF o) = hd at *
          go_enter Tryz.func10, Tryz.ntmps10
          go_wp2_with (first
            | (go_at_call 22; refine (HZ.out _).mono ?_; rintro r w2 ⟨rfl, rfl⟩)
            | (go_at_call 23; refine (HW.out _).mono ?_; rintro r w3 ⟨rfl, rfl⟩)
            | (go_at_call 24; refine (HF.out _ HP.out).mono ?_; rintro r w4 ⟨rfl, hb4⟩; have HP := Lib.hid (HP.out.step hb4); obtain ⟨c0, c1, c2, c3, c4, c5, c6, c7, c8, c9⟩ := HP.out.a.ten; clear hb4)
            | (go_at_call 25; refine (HH.out _ HP.out).mono ?_; rintro r w5 ⟨rfl, hb5⟩; have HP := Lib.hid (HP.out.step hb5); obtain ⟨c0, c1, c2, c3, c4, c5, c6, c7, c8, c9⟩ := HP.out.a.ten; clear hb5)
            | (go_at_call 26; refine (HT.out _).mono ?_; rintro r w6 ⟨rfl, rfl⟩))
          go_ret2
          exact ⟨rfl, HP.out.below⟩
        · rw [decide_eq_false hft] at HT
          have HR := Lib.hid (show printF o sp = (⟨#[]⟩, 9) from by
            rw [printF, if_neg (not_not_intro hsp), if_neg (not_not_intro hkk), if_neg (by rw [hfo]; decide), if_pos (by omega)])
          rw [HR.out]
          clear hK hL hF hcap hfo hN hkk hsp hz hx hch hcl hft HR
          generalize ((spSize sp : Nat) : Int) = sz at *
          generalize Idf.word o.kind = wd at *
          generalize str (headF o) = hd at *
          go_enter Tryz.func10, Tryz.ntmps10
          go_wp2_with (first
            | (go_at_call 22; refine (HZ.out _).mono ?_; rintro r w2 ⟨rfl, rfl⟩)
            | (go_at_call 23; refine (HW.out _).mono ?_; rintro r w3 ⟨rfl, rfl⟩)
            | (go_at_call 24; refine (HF.out _ HP.out).mono ?_; rintro r w4 ⟨rfl, hb4⟩; have HP := Lib.hid (HP.out.step hb4); obtain ⟨c0, c1, c2, c3, c4, c5, c6, c7, c8, c9⟩ := HP.out.a.ten; clear hb4)
            | (go_at_call 25; refine (HH.out _ HP.out).mono ?_; rintro r w5 ⟨rfl, hb5⟩; have HP := Lib.hid (HP.out.step hb5); obtain ⟨c0, c1, c2, c3, c4, c5, c6, c7, c8, c9⟩ := HP.out.a.ten; clear hb5)
            | (go_at_call 26; refine (HT.out _).mono ?_; rintro r w6 ⟨rfl, rfl⟩))
          go_ret2
          exact ⟨rfl, HP.out.below⟩
    · have hw2 : (decide (1 ≤ o.kind) && decide (o.kind ≤ 4)) = false := by rw [← Bool.not_eq_true, Bool.and_eq_true, decide_eq_true_eq, decide_eq_true_eq]; exact hkk
      rw [hw2] at hwe
      have HR := Lib.hid (show printF o sp = (⟨#[]⟩, 4) from by rw [printF, if_neg (not_not_intro hsp), if_pos hkk])
      rw [HR.out]
      clear hK hL hF hcap hN hkk hsp hw2 HF
      generalize ((spSize sp : Nat) : Int) = sz at *
      generalize Idf.word o.kind = wd at *
      go_enter Tryz.func10, Tryz.ntmps10
      go_wp2_with (first
            | (go_at_call 22; refine (HZ.out _).mono ?_; rintro r w2 ⟨rfl, rfl⟩)
            | (go_at_call 23; refine (HW.out _).mono ?_; rintro r w3 ⟨rfl, rfl⟩)
            | (go_at_call 24; refine (HF.out _ HP.out).mono ?_; rintro r w4 ⟨rfl, hb4⟩; have HP := Lib.hid (HP.out.step hb4); obtain ⟨c0, c1, c2, c3, c4, c5, c6, c7, c8, c9⟩ := HP.out.a.ten; clear hb4)
            | (go_at_call 25; refine (HH.out _ HP.out).mono ?_; rintro r w5 ⟨rfl, hb5⟩; have HP := Lib.hid (HP.out.step hb5); obtain ⟨c0, c1, c2, c3, c4, c5, c6, c7, c8, c9⟩ := HP.out.a.ten; clear hb5)
            | (go_at_call 26; refine (HT.out _).mono ?_; rintro r w6 ⟨rfl, rfl⟩))
      go_ret2
      exact ⟨rfl, HP.out.below⟩
  · rw [if_neg (fun h => hsp (.inl h)), if_neg (fun h => hsp (.inr h))] at HZ
    have HR := Lib.hid (show printF o sp = (⟨#[]⟩, 1) from by rw [printF, if_pos hsp])
    rw [HR.out]
    clear hK hL hF hcap hsp HF HW
    go_enter Tryz.func10, Tryz.ntmps10
    go_wp2_with (go_at_call 22; refine (HZ.out _).mono ?_; rintro r w2 ⟨rfl, rfl⟩)
    go_ret2
    exact ⟨rfl, HP.out.below⟩
end Go.Proofs.YtapjgdhdgpakhaaGreatDoor.Hj
