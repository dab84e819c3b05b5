/-
  Proved: DiskPlays returns true for every room and every row of calls, and changes nothing that was there.
  Conditions: none beside the row's own.
-/
import Derived.Test.YtdgfbpkpfmdjjaaKv
import Derived.Test.YtdgfbpkpfmdjjaaP
import Derived.Test.YtdgfbpkpfmdjjaaHeld
import Derived.Test.YtdgfbpkpfmdjjaaSt
namespace Go.Proofs.Ytdgfbpkpfmdjjaa.diskPlays
open Go.ChangeShapes Go.WideShapes Go.ChangeAt Go.RowKit Hr Hw Ht Hk
open Go.ChangeMaps (open_string)
set_option linter.unusedVariables false

set_option maxHeartbeats 16000000 in
set_option maxRecDepth 100000 in
theorem walk (room : Int) (A : Option Addr) (c : Nat) (l : List Ac) (w : World) (hwf : (Lit.int .i64 room).wf = true) (hr : Acs w w.heap.size A l) (hz : ∀ a ∈ l, AcOk a) :
    Calls Try.prog 3 #[.int .i64 room, .slice A l.length c] w fun e w' => e = .returned (.bool true) ∧ Below w.heap.size w w' := by
  have HP := Lib.hid hr
  have HZ := Lib.hid hz
  clear hr hz hwf
  go_enter Try.func3, Try.ntmps3
  go_wp2_with fail
  refine (awake_any w).mono ?_
  rintro r w1 ⟨rfl, hb1⟩
  have HF := Lib.hid (few_any w1 A c l w.heap.size (HP.out.below hb1) hb1.size HZ.out)
  have HB1 := Lib.hid hb1
  clear hb1
  go_wp2_with fail
  refine HF.out.mono ?_
  rintro r w2 ⟨rfl, hb2⟩
  have hb02 := HB1.out.trans (hb2.mono HB1.out.size)
  have HB2 := Lib.hid hb02
  clear HB1 hb2 hb02 HF
  by_cases hs : sumF l ≤ 300
  · have hsd : decide (sumF l ≤ 300) = true := decide_eq_true hs
    by_cases h0 : 0 ≤ room ∧ room ≤ 16777216
    · have HN := Lib.hid (h_new ((holds_start w).below emp_part HB2.out) emp_part room h0.1 h0.2)
      simp only [hsd]
      go_wp2_with fail
      refine HN.out.mono ?_
      rintro r w3 ⟨b, rfl, h3⟩
      have H3 := Lib.hid h3
      have hbb : (decide (0 ≤ room) && decide (room ≤ 16777216)) = true := by simp; omega
      have HM := Lib.hid (show Calls Try.prog 11 #[.int .i64 room] w3 (fun r w' => (∃ Al cl Ar cr, r = .returned (.tuple #[.agg #[.int .i64 room, .slice Al 0 cl, .slice Ar 0 cr, .bool false, .int .i64 0, .int .u64 0, .int .i64 0], .bool true])) ∧ Below w3.heap.size w3 w') from (new_any w3 room).mono fun r w' hr => by
        obtain ⟨⟨v, e, Al, cl, Ar, cr, e2, _⟩, hb⟩ := hr
        exact ⟨⟨Al, cl, Ar, cr, by rw [e, hbb, e2]; rfl⟩, hb⟩)
      clear h3 HN hbb h0
      go_wp2_with fail
      refine HM.out.mono ?_
      rintro r w4 ⟨⟨Al0, cl0, Ar0, cr0, rfl⟩, hb4⟩
      have H5 := Lib.hid (show Holds w (Star (Dk b (newD room)) (Star (Dm (dV Al0 cl0 Ar0 cr0 (newD room)) (newD room)) (Star (Bx w4.heap.size (.cells (dcells Al0 cl0 Ar0 cr0 (newD room)) 35)) Emp))) (w4.alloc (.cells #[.int .i64 room, .slice Al0 0 cl0, .slice Ar0 0 cr0, .bool false, .int .i64 0, .int .u64 0, .int .i64 0] 35)) from start_of H3.out hb4 Al0 cl0 Ar0 cr0)
      clear hb4 HM H3
      have hln := len_sum l
      go_wp2_with fail
      generalize hbm : w4.heap.size = bm at *
      go_loopg [9] l.length (fun g i wr => ∃ (j : Nat) (d : Dsk) (Al : Option Addr) (cl : Nat) (Ar : Option Addr) (cr : Nat), j ≤ l.length ∧ g = l.length - j ∧ i = .int .i64 j ∧ Holds w (Star (Dk b d) (Star (Dm (dV Al cl Ar cr d) d) (Star (Bx bm (.cells (dcells Al cl Ar cr d) 35)) Emp))) wr ∧ Sml j (15000 * j) d)
      case atStart => exact ⟨0, newD room, Al0, cl0, Ar0, cr0, Nat.zero_le _, rfl, rfl, H5.out, sml_new room⟩
      case round =>
        clear H5 hbm
        obtain ⟨j, d, Al, cl, Ar, cr, hj, rfl, rfl, hh, hsm⟩ := hrel
        by_cases hlt : j < l.length
        · have h1 : (j : Int) < l.length := by omega
          have hj0 : (0 : Int) ≤ j := by omega
          obtain ⟨ad, rfl, hB1, hcc⟩ := (HP.out.below hh.top) j hlt
          obtain ⟨hok, h15⟩ := act_ok hlt hs HZ.out
          have hat := (HZ.out _ (show l.getD j default ∈ l by rw [List.getD_eq_getElem?_getD, List.getElem?_eq_getElem hlt]; simp)).at_
          obtain ⟨a, ha⟩ : ∃ a, l.getD j default = a := ⟨_, rfl⟩
          rw [ha] at hcc hok h15 hat
          obtain ⟨k, p, t, at_, keep⟩ := a
          simp only at h15 hat
          have hat2 : at_ ≤ 9223372036854775807 := (bounds_i64 hat).2
          have e0 : wr.cell? (ad.add (j * 5)) = some (.int .i64 k) := hcc 0 (by omega)
          have e1 : wr.cell? ⟨(ad.add (j * 5)).block, (ad.add (j * 5)).off + 1, none⟩ = some (.string p) := hcc 1 (by omega)
          have e2 : wr.cell? ⟨(ad.add (j * 5)).block, (ad.add (j * 5)).off + 2, none⟩ = some (.string t) := hcc 2 (by omega)
          have e3 : wr.cell? ⟨(ad.add (j * 5)).block, (ad.add (j * 5)).off + 3, none⟩ = some (.int .i64 at_) := hcc 3 (by omega)
          have e4 : wr.cell? ⟨(ad.add (j * 5)).block, (ad.add (j * 5)).off + 4, none⟩ = some (.int .u64 keep) := hcc 4 (by omega)
          have hl300 : l.length ≤ 300 := by omega
          have hj300 : j ≤ 300 := by omega
          have fit1 : Fit d := hsm.fit (by omega) (by omega)
          have hfin := sml_act hsm k p t at_ keep h15 hat2 hok.k0 hok.k1
          have HD := Lib.hid (do_p (act_of hh (.cells #[.int .i64 k, .string p, .string t, .int .i64 at_, .int .u64 keep] 39)) act_part fit1 (k, p, t, at_, keep) hok)
          have HSM := Lib.hid (And.intro hsm (And.intro hok h15))
          have HIN := Lib.hid hh
          unfold acV at HD
          simp only at HD
          obtain ⟨E, hE⟩ : ∃ E, actE d (k, p, t, at_, keep) = E := ⟨_, rfl⟩
          obtain ⟨d2, hd2⟩ : ∃ d2, actF d (k, p, t, at_, keep) = d2 := ⟨_, rfl⟩
          obtain ⟨S5, hS5⟩ : ∃ S5, actS d (k, p, t, at_, keep) = S5 := ⟨_, rfl⟩
          obtain ⟨L5, hL5⟩ : ∃ L5, actL d (k, p, t, at_, keep) = L5 := ⟨_, rfl⟩
          obtain ⟨N5, hN5⟩ : ∃ N5, L5.length = N5 := ⟨_, rfl⟩
          rw [hE, hd2, hS5, hL5, hN5] at HD
          rw [hd2] at hfin
          have HE := Lib.hid (And.intro hE (And.intro hd2 (And.intro hS5 (And.intro hL5 hN5))))
          have HFIN := Lib.hid hfin
          clear hcc ha hh hsm hok h15 hat fit1 hfin hE hd2 hS5 hL5 hN5 hat2
          obtain ⟨kk, hkk⟩ : ∃ kk, wr.heap.size = kk := ⟨_, rfl⟩
          go_wp2_with fail
          refine HD.out.mono ?_
          rintro r w5 ⟨A5, c5, rfl, h5⟩
          rw [hkk] at h5
          have H5 := Lib.hid (all_of h5)
          clear h5 HD e0 e1 e2 e3 e4 hB1 HIN
          have q0 : w5.cell? ⟨kk, 0, none⟩ = some (.int .i64 k) := cell_of_cells (all_k H5.out) 0
          have q1 : w5.cell? ⟨kk, 1, none⟩ = some (.string p) := cell_of_cells (all_k H5.out) 1
          have q2 : w5.cell? ⟨kk, 2, none⟩ = some (.string t) := cell_of_cells (all_k H5.out) 2
          have q3 : w5.cell? ⟨kk, 3, none⟩ = some (.int .i64 at_) := cell_of_cells (all_k H5.out) 3
          have q4 : w5.cell? ⟨kk, 4, none⟩ = some (.int .u64 keep) := cell_of_cells (all_k H5.out) 4
          have m3 : w5.cell? ⟨bm, 3, none⟩ = some (.bool d.down) := cell_of_cells (all_bm H5.out) 3
          have HROW := Lib.hid (all_bm H5.out)
          clear hkk
          go_upto_block 2 with fail
          go_cut [14, 15, 16, 17, 18] from 49 to 164 (fun s14 s15 s16 s17 s18 wx => s14 = .string S5 ∧ s15 = .int .i64 E ∧ ∃ Al cl Ar cr A6 c6, s16 = .slice A6 N5 c6 ∧ Holds w (All (dV Al cl Ar cr d2) d2 bm (.cells (dcells Al cl Ar cr d2) 35) (.slice A5 N5 c5) L5 b d2 kk (.cells #[.int .i64 k, .string p, .string t, .int .i64 at_, .int .u64 keep] 39)) wx ∧ Sts wx wx.heap.size A6 L5)
          case first =>
            by_cases k1 : k = 1
            · subst k1
              have hF : d2 = (doF d (1, p, t)).1 ∧ E = (doF d (1, p, t)).2 ∧ S5 = ByteArray.empty ∧ N5 = 0 ∧ L5 = [] := ⟨by rw [← HE.out.2.1]; simp [actF], by rw [← HE.out.1]; simp [actE], by rw [← HE.out.2.2.1]; simp [actS], by rw [← HE.out.2.2.2.2, ← HE.out.2.2.2.1]; simp [actL], by rw [← HE.out.2.2.2.1]; simp [actL]⟩
              have HC := Lib.hid (all_do H5.out HSM.out.1 (by omega) (by omega) 1 p t HSM.out.2.2)
              rw [← hF.1, ← hF.2.1] at HC
              have HF := Lib.hid hF
              clear hF
              go_wp2_with (with_reducible refine wpList_load_row rfl 35 (.tmp 7) rfl bm rfl 35 (dcells Al cl Ar cr d) (0, 0) _ HROW.out Try.underlying35 rfl (info_d _ _ _ _ _) ?_)
              refine HC.out.mono ?_
              rintro r w6 ⟨Al6, cl6, Ar6, cr6, rfl, h6⟩
              have H6 := Lib.hid h6
              clear h6 HC q0 q1 q2 q3 q4 m3
              go_wp2_with (with_reducible refine wpList_store_row rfl 35 (.tmp 7) (.tmp 82) rfl bm (dcells Al6 cl6 Ar6 cr6 d2) rfl rfl 35 _ (all_bm H6.out) (info_d _ _ _ _ _) (size_d _ _ _ _ _ _ _ _ _ _) (one_d _ _ _ _ _) ?_)
              have H7 := Lib.hid (all_put H6.out (dcells Al6 cl6 Ar6 cr6 d2))
              generalize w6.setRow bm (dcells Al6 cl6 Ar6 cr6 d2) = w7 at *
              go_meet
              exact ⟨by rw [HF.out.2.2.1]; rfl, rfl, Al6, cl6, Ar6, cr6, none, 0, by rw [HF.out.2.2.2.1], H7.out, by rw [HF.out.2.2.2.2]; exact sts_nil _ _ _⟩
            by_cases k2 : k = 2
            · subst k2
              have hF : d2 = (doF d (2, p, t)).1 ∧ E = (doF d (2, p, t)).2 ∧ S5 = ByteArray.empty ∧ N5 = 0 ∧ L5 = [] := ⟨by rw [← HE.out.2.1]; simp [actF], by rw [← HE.out.1]; simp [actE], by rw [← HE.out.2.2.1]; simp [actS], by rw [← HE.out.2.2.2.2, ← HE.out.2.2.2.1]; simp [actL], by rw [← HE.out.2.2.2.1]; simp [actL]⟩
              have HC := Lib.hid (all_do H5.out HSM.out.1 (by omega) (by omega) 2 p t HSM.out.2.2)
              rw [← hF.1, ← hF.2.1] at HC
              have HF := Lib.hid hF
              clear hF
              go_wp2_with (with_reducible refine wpList_load_row rfl 35 (.tmp 7) rfl bm rfl 35 (dcells Al cl Ar cr d) (0, 0) _ HROW.out Try.underlying35 rfl (info_d _ _ _ _ _) ?_)
              refine HC.out.mono ?_
              rintro r w6 ⟨Al6, cl6, Ar6, cr6, rfl, h6⟩
              have H6 := Lib.hid h6
              clear h6 HC q0 q1 q2 q3 q4 m3
              go_wp2_with (with_reducible refine wpList_store_row rfl 35 (.tmp 7) (.tmp 82) rfl bm (dcells Al6 cl6 Ar6 cr6 d2) rfl rfl 35 _ (all_bm H6.out) (info_d _ _ _ _ _) (size_d _ _ _ _ _ _ _ _ _ _) (one_d _ _ _ _ _) ?_)
              have H7 := Lib.hid (all_put H6.out (dcells Al6 cl6 Ar6 cr6 d2))
              generalize w6.setRow bm (dcells Al6 cl6 Ar6 cr6 d2) = w7 at *
              go_meet
              exact ⟨by rw [HF.out.2.2.1]; rfl, rfl, Al6, cl6, Ar6, cr6, none, 0, by rw [HF.out.2.2.2.1], H7.out, by rw [HF.out.2.2.2.2]; exact sts_nil _ _ _⟩
            by_cases k3 : k = 3
            · subst k3
              have hF : d2 = (doF d (3, p, t)).1 ∧ E = (doF d (3, p, t)).2 ∧ S5 = ByteArray.empty ∧ N5 = 0 ∧ L5 = [] := ⟨by rw [← HE.out.2.1]; simp [actF], by rw [← HE.out.1]; simp [actE], by rw [← HE.out.2.2.1]; simp [actS], by rw [← HE.out.2.2.2.2, ← HE.out.2.2.2.1]; simp [actL], by rw [← HE.out.2.2.2.1]; simp [actL]⟩
              have HC := Lib.hid (all_do H5.out HSM.out.1 (by omega) (by omega) 3 p t HSM.out.2.2)
              rw [← hF.1, ← hF.2.1] at HC
              have HF := Lib.hid hF
              clear hF
              go_wp2_with (with_reducible refine wpList_load_row rfl 35 (.tmp 7) rfl bm rfl 35 (dcells Al cl Ar cr d) (0, 0) _ HROW.out Try.underlying35 rfl (info_d _ _ _ _ _) ?_)
              refine HC.out.mono ?_
              rintro r w6 ⟨Al6, cl6, Ar6, cr6, rfl, h6⟩
              have H6 := Lib.hid h6
              clear h6 HC q0 q1 q2 q3 q4 m3
              go_wp2_with (with_reducible refine wpList_store_row rfl 35 (.tmp 7) (.tmp 82) rfl bm (dcells Al6 cl6 Ar6 cr6 d2) rfl rfl 35 _ (all_bm H6.out) (info_d _ _ _ _ _) (size_d _ _ _ _ _ _ _ _ _ _) (one_d _ _ _ _ _) ?_)
              have H7 := Lib.hid (all_put H6.out (dcells Al6 cl6 Ar6 cr6 d2))
              generalize w6.setRow bm (dcells Al6 cl6 Ar6 cr6 d2) = w7 at *
              go_meet
              exact ⟨by rw [HF.out.2.2.1]; rfl, rfl, Al6, cl6, Ar6, cr6, none, 0, by rw [HF.out.2.2.2.1], H7.out, by rw [HF.out.2.2.2.2]; exact sts_nil _ _ _⟩
            by_cases k4 : k = 4
            · subst k4
              have hF : d2 = (syncF d).1 ∧ E = (syncF d).2 ∧ S5 = ByteArray.empty ∧ N5 = 0 ∧ L5 = [] := ⟨by rw [← HE.out.2.1]; simp [actF], by rw [← HE.out.1]; simp [actE], by rw [← HE.out.2.2.1]; simp [actS], by rw [← HE.out.2.2.2.2, ← HE.out.2.2.2.1]; simp [actL], by rw [← HE.out.2.2.2.1]; simp [actL]⟩
              have HC := Lib.hid (all_sync H5.out HSM.out.1 (by omega))
              rw [← hF.1, ← hF.2.1] at HC
              have HF := Lib.hid hF
              clear hF
              go_wp2_with (with_reducible refine wpList_load_row rfl 35 (.tmp 7) rfl bm rfl 35 (dcells Al cl Ar cr d) (0, 0) _ HROW.out Try.underlying35 rfl (info_d _ _ _ _ _) ?_)
              refine HC.out.mono ?_
              rintro r w6 ⟨Al6, cl6, Ar6, cr6, rfl, h6⟩
              have H6 := Lib.hid h6
              clear h6 HC q0 q1 q2 q3 q4 m3
              go_wp2_with (with_reducible refine wpList_store_row rfl 35 (.tmp 7) (.tmp 89) rfl bm (dcells Al6 cl6 Ar6 cr6 d2) rfl rfl 35 _ (all_bm H6.out) (info_d _ _ _ _ _) (size_d _ _ _ _ _ _ _ _ _ _) (one_d _ _ _ _ _) ?_)
              have H7 := Lib.hid (all_put H6.out (dcells Al6 cl6 Ar6 cr6 d2))
              generalize w6.setRow bm (dcells Al6 cl6 Ar6 cr6 d2) = w7 at *
              go_meet
              exact ⟨by rw [HF.out.2.2.1]; rfl, rfl, Al6, cl6, Ar6, cr6, none, 0, by rw [HF.out.2.2.2.1], H7.out, by rw [HF.out.2.2.2.2]; exact sts_nil _ _ _⟩
            by_cases k5 : k = 5
            · subst k5
              have hF : d2 = armF d at_ keep ∧ E = 0 ∧ S5 = ByteArray.empty ∧ N5 = 0 ∧ L5 = [] := ⟨by rw [← HE.out.2.1]; simp [actF], by rw [← HE.out.1]; simp [actE], by rw [← HE.out.2.2.1]; simp [actS], by rw [← HE.out.2.2.2.2, ← HE.out.2.2.2.1]; simp [actL], by rw [← HE.out.2.2.2.1]; simp [actL]⟩
              have HC := Lib.hid (all_arm H5.out at_ keep)
              rw [← hF.1] at HC
              have HF := Lib.hid hF
              clear hF
              go_wp2_with (with_reducible refine wpList_load_row rfl 35 (.tmp 7) rfl bm rfl 35 (dcells Al cl Ar cr d) (0, 0) _ HROW.out Try.underlying35 rfl (info_d _ _ _ _ _) ?_)
              refine HC.out.mono ?_
              rintro r w6 ⟨Al6, cl6, Ar6, cr6, rfl, h6⟩
              have H6 := Lib.hid h6
              clear h6 HC q0 q1 q2 q3 q4 m3
              go_wp2_with (with_reducible refine wpList_store_row rfl 35 (.tmp 7) (.tmp 96) rfl bm (dcells Al6 cl6 Ar6 cr6 d2) rfl rfl 35 _ (all_bm H6.out) (info_d _ _ _ _ _) (size_d _ _ _ _ _ _ _ _ _ _) (one_d _ _ _ _ _) ?_)
              have H7 := Lib.hid (all_put H6.out (dcells Al6 cl6 Ar6 cr6 d2))
              generalize w6.setRow bm (dcells Al6 cl6 Ar6 cr6 d2) = w7 at *
              go_meet
              exact ⟨by rw [HF.out.2.2.1]; rfl, by rw [HF.out.2.1], Al6, cl6, Ar6, cr6, none, 0, by rw [HF.out.2.2.2.1], H7.out, by rw [HF.out.2.2.2.2]; exact sts_nil _ _ _⟩
            by_cases k6 : k = 6
            · subst k6
              have hF : d2 = { d with down := false } ∧ E = 0 ∧ S5 = ByteArray.empty ∧ N5 = 0 ∧ L5 = [] := ⟨by rw [← HE.out.2.1]; simp [actF], by rw [← HE.out.1]; simp [actE], by rw [← HE.out.2.2.1]; simp [actS], by rw [← HE.out.2.2.2.2, ← HE.out.2.2.2.1]; simp [actL], by rw [← HE.out.2.2.2.1]; simp [actL]⟩
              have HF := Lib.hid hF
              have f3 : w5.frozen? ⟨bm, 3, none⟩ = false := unfrozen_of_cells (all_bm H5.out) 3
              have h7 := all_up H5.out
              rw [← hF.1] at h7
              have H7 := Lib.hid h7
              clear hF h7 q0 q1 q2 q3 q4
              go_wp2
              go_meet
              exact ⟨by rw [HF.out.2.2.1]; rfl, by rw [HF.out.2.1], Al, cl, Ar, cr, none, 0, by rw [HF.out.2.2.2.1], H7.out, by rw [HF.out.2.2.2.2]; exact sts_nil _ _ _⟩
            by_cases k7 : k = 7
            · subst k7
              cases hdn : d.down
              · rw [hdn] at m3
                have hF : d2 = d ∧ E = (if (findF (seenF d.lies d.rows) p).isSome then 0 else 5) ∧ S5 = texOf (findF (seenF d.lies d.rows) p) ∧ N5 = 0 ∧ L5 = [] := ⟨by rw [← HE.out.2.1]; simp [actF], by rw [← HE.out.1]; simp [actE, hdn], by rw [← HE.out.2.2.1]; simp [actS, hdn], by rw [← HE.out.2.2.2.2, ← HE.out.2.2.2.1]; simp [actL], by rw [← HE.out.2.2.2.1]; simp [actL]⟩
                have HF := Lib.hid hF
                clear hF
                go_wp2_with fail
                have hrow : w5.drew.heap[bm]? = some (.cells (dcells Al cl Ar cr d) 35 (0, 0)) := HROW.out
                have hp1 : w5.drew.cell? ⟨kk, 1, none⟩ = some (.string p) := q1
                refine wp_region_seq (fun W => W.heap[bm]? = some (.cells (dcells Al cl Ar cr d) 35 (0, 0)) ∧ W.cell? ⟨kk, 1, none⟩ = some (.string p)) [(0, false, 0), (2, false, 1), (3, false, 5), (1, true, 13), (4, true, 15), (5, false, 31), (6, false, 63), (7, false, 127), (8, false, 255), (9, false, 511)]
                  10 (by kernel_rfl) (by kernel_rfl) (by kernel_rfl) (fun d _ _ _ _ h => by cases d <;> exact h) (by kernel_rfl) (by kernel_rfl) ⟨hrow, hp1⟩ ?_
                have H5d := Lib.hid (H5.out.below all_part (Below.refl _ w5).drew)
                clear q0 q1 q2 q3 q4 m3 hrow hp1
                generalize w5.drew = w6 at *
                have HC := Lib.hid (doc_seen H5d.out HSM.out.1 (by omega))
                refine seqH_take (.agg (dcells Al cl Ar cr d)) rfl (yields_load 35 (.tmp 7) rfl (by rfl) bm rfl 35 (dcells Al cl Ar cr d) (0, 0) _ (fun W hW => hW.1) Try.underlying35 rfl (info_d _ _ _ _ _)) ?_
                go_simp
                refine seqH_take (.pointer (some ⟨kk, 1, none⟩)) rfl (Or.inl ⟨by rfl, fun W _ => by go_simp⟩) ?_
                go_simp
                refine seqH_take (.string p) rfl (Or.inl ⟨by rfl, fun W hW => by have hcell := hW.2; clear hW; go_simp⟩) ?_
                go_simp
                refine seqH_call rfl (by rfl) (fun K hK => ?_)
                have HK := Lib.hid hK
                clear hK
                go_simp
                refine HC.out.mono ?_
                rintro r w7 ⟨A7, c7, rfl, hfl, h7, hb7⟩
                have H7 := Lib.hid h7
                refine HK.out _ _ ⟨all_bm H7.out, cell_of_cells (all_k H7.out) 1⟩ ?_
                clear HK K HC h7 hb7
                go_simp
                have HFD := Lib.hid (find_any w7 w7.heap.size A7 c7 (seenF d.lies d.rows) p hfl (by have := (seen_small HSM.out.1 (by omega) (by omega)).1; omega))
                clear hfl
                obtain ⟨fo, hfo⟩ : ∃ fo, (findF (seenF d.lies d.rows) p) = fo := ⟨_, rfl⟩
                rw [hfo] at HFD HF
                clear hfo
                refine seqH_call rfl (by rfl) (fun K hK => ?_)
                have HK := Lib.hid hK
                clear hK
                go_simp
                refine HFD.out.mono ?_
                rintro r w8 ⟨rfl, rfl⟩
                refine HK.out _ _ ⟨all_bm H7.out, cell_of_cells (all_k H7.out) 1⟩ ?_
                clear HK K HFD
                go_simp
                obtain ⟨tx, htx⟩ : ∃ tx, texOf fo = tx := ⟨_, rfl⟩
                obtain ⟨fs, hfs⟩ : ∃ fs, fo.isSome = fs := ⟨_, rfl⟩
                rw [htx, hfs]
                have HX := Lib.hid (And.intro htx hfs)
                clear htx hfs
                refine seqH_take (.tuple #[.string tx, .bool fs]) rfl (Or.inl ⟨by rfl, fun W _ => by go_simp⟩) ?_
                go_simp
                refine seqH_take (.string tx) rfl (Or.inl ⟨by rfl, fun W _ => by go_simp⟩) ?_
                go_simp
                refine seqH_take (.bool fs) rfl (Or.inl ⟨by rfl, fun W _ => by go_simp⟩) ?_
                go_simp
                refine seqH_take (.string tx) rfl (Or.inl ⟨by rfl, fun W _ => by go_simp⟩) ?_
                go_simp
                refine seqH_take (.bool fs) rfl (Or.inl ⟨by rfl, fun W _ => by go_simp⟩) ?_
                go_simp
                refine seqH_done ?_
                cases fs
                · go_wp2
                  go_meet
                  have h0 : fo = none := by
                    cases fo with
                    | none => rfl
                    | some u => exact absurd HX.out.2 (by simp)
                  exact ⟨by rw [HF.out.2.2.1, h0]; rfl, by rw [HF.out.2.1, h0]; rfl, Al, cl, Ar, cr, none, 0, by rw [HF.out.2.2.2.1], by rw [HF.out.1]; have h9 := H7.out; rw [HF.out.1] at h9; exact h9, by rw [HF.out.2.2.2.2]; exact sts_nil _ _ _⟩
                · go_wp2
                  go_meet
                  exact ⟨by rw [HF.out.2.2.1, HX.out.1], by rw [HF.out.2.1, HX.out.2]; rfl, Al, cl, Ar, cr, none, 0, by rw [HF.out.2.2.2.1], by rw [HF.out.1]; have h9 := H7.out; rw [HF.out.1] at h9; exact h9, by rw [HF.out.2.2.2.2]; exact sts_nil _ _ _⟩
              · rw [hdn] at m3
                have hF : d2 = d ∧ E = 8 ∧ S5 = ByteArray.empty ∧ N5 = 0 ∧ L5 = [] := ⟨by rw [← HE.out.2.1]; simp [actF], by rw [← HE.out.1]; simp [actE, hdn], by rw [← HE.out.2.2.1]; simp [actS, hdn], by rw [← HE.out.2.2.2.2, ← HE.out.2.2.2.1]; simp [actL], by rw [← HE.out.2.2.2.1]; simp [actL]⟩
                have HF := Lib.hid hF
                clear hF q0 q1 q2 q3 q4
                have H7 := Lib.hid H5.out
                go_wp2
                go_meet
                exact ⟨by rw [HF.out.2.2.1]; rfl, by rw [HF.out.2.1], Al, cl, Ar, cr, none, 0, by rw [HF.out.2.2.2.1], by rw [HF.out.1]; have h9 := H7.out; rw [HF.out.1] at h9; exact h9, by rw [HF.out.2.2.2.2]; exact sts_nil _ _ _⟩
            by_cases k8 : k = 8
            · subst k8
              cases hdn : d.down
              · rw [hdn] at m3
                have hF : d2 = d ∧ E = 0 ∧ S5 = ByteArray.empty ∧ N5 = (listF (seenF d.lies d.rows) p).length ∧ L5 = listF (seenF d.lies d.rows) p := ⟨by rw [← HE.out.2.1]; simp [actF], by rw [← HE.out.1]; simp [actE], by rw [← HE.out.2.2.1]; simp [actS], by rw [← HE.out.2.2.2.2, ← HE.out.2.2.2.1]; simp [actL, listD, hdn], by rw [← HE.out.2.2.2.1]; simp [actL, listD, hdn]⟩
                have HF := Lib.hid hF
                clear hF
                go_wp2_with fail
                have hrow : w5.drew.heap[bm]? = some (.cells (dcells Al cl Ar cr d) 35 (0, 0)) := HROW.out
                have hp1 : w5.drew.cell? ⟨kk, 1, none⟩ = some (.string p) := q1
                refine wp_region_seq (fun W => W.heap[bm]? = some (.cells (dcells Al cl Ar cr d) 35 (0, 0)) ∧ W.cell? ⟨kk, 1, none⟩ = some (.string p)) [(0, false, 0), (2, false, 1), (3, false, 5), (1, true, 13), (4, true, 15), (5, false, 31)]
                  6 (by kernel_rfl) (by kernel_rfl) (by kernel_rfl) (fun d _ _ _ _ h => by cases d <;> exact h) (by kernel_rfl) (by kernel_rfl) ⟨hrow, hp1⟩ ?_
                have H5d := Lib.hid (H5.out.below all_part (Below.refl _ w5).drew)
                clear q0 q1 q2 q3 q4 m3 hrow hp1
                generalize w5.drew = w6 at *
                have HC := Lib.hid (doc_seen H5d.out HSM.out.1 (by omega))
                refine seqH_take (.agg (dcells Al cl Ar cr d)) rfl (yields_load 35 (.tmp 7) rfl (by rfl) bm rfl 35 (dcells Al cl Ar cr d) (0, 0) _ (fun W hW => hW.1) Try.underlying35 rfl (info_d _ _ _ _ _)) ?_
                go_simp
                refine seqH_take (.pointer (some ⟨kk, 1, none⟩)) rfl (Or.inl ⟨by rfl, fun W _ => by go_simp⟩) ?_
                go_simp
                refine seqH_take (.string p) rfl (Or.inl ⟨by rfl, fun W hW => by have hcell := hW.2; clear hW; go_simp⟩) ?_
                go_simp
                refine seqH_call rfl (by rfl) (fun K hK => ?_)
                have HK := Lib.hid hK
                clear hK
                go_simp
                refine HC.out.mono ?_
                rintro r w7 ⟨A7, c7, rfl, hfl, h7, hb7⟩
                have H7 := Lib.hid h7
                refine HK.out _ _ ⟨all_bm H7.out, cell_of_cells (all_k H7.out) 1⟩ ?_
                clear HK K HC h7 hb7
                go_simp
                have HLS := Lib.hid (list_any w7 w7.heap.size A7 c7 (seenF d.lies d.rows) p hfl (Nat.le_refl _) (by have := (seen_small HSM.out.1 (by omega) (by omega)).1; omega))
                rw [← HF.out.2.2.2.2, HE.out.2.2.2.2] at HLS
                clear hfl
                refine seqH_call rfl (by rfl) (fun K hK => ?_)
                have HK := Lib.hid hK
                clear hK
                go_simp
                refine HLS.out.mono ?_
                rintro r w8 ⟨⟨A8, c8, rfl, hst8⟩, hb8⟩
                have H8 := Lib.hid (And.intro (H7.out.below all_part hb8) hst8)
                refine HK.out _ _ ⟨all_bm H8.out.1, cell_of_cells (all_k H8.out.1) 1⟩ ?_
                clear HK K HLS hb8 hst8
                go_simp
                refine seqH_take (.slice A8 N5 c8) rfl (Or.inl ⟨by rfl, fun W _ => by go_simp⟩) ?_
                go_simp
                refine seqH_done ?_
                go_wp2
                go_meet
                exact ⟨by rw [HF.out.2.2.1]; rfl, by rw [HF.out.2.1], Al, cl, Ar, cr, A8, c8, rfl, by rw [HF.out.1]; have h9 := H8.out.1; rw [HF.out.1] at h9; exact h9, H8.out.2⟩
              · rw [hdn] at m3
                have hF : d2 = d ∧ E = 0 ∧ S5 = ByteArray.empty ∧ N5 = 0 ∧ L5 = [] := ⟨by rw [← HE.out.2.1]; simp [actF], by rw [← HE.out.1]; simp [actE], by rw [← HE.out.2.2.1]; simp [actS], by rw [← HE.out.2.2.2.2, ← HE.out.2.2.2.1]; simp [actL, listD, hdn], by rw [← HE.out.2.2.2.1]; simp [actL, listD, hdn]⟩
                have HF := Lib.hid hF
                clear hF q0 q1 q2 q3 q4
                have H7 := Lib.hid H5.out
                go_wp2
                go_meet
                exact ⟨by rw [HF.out.2.2.1]; rfl, by rw [HF.out.2.1], Al, cl, Ar, cr, none, 0, by rw [HF.out.2.2.2.1], by rw [HF.out.1]; have h9 := H7.out; rw [HF.out.1] at h9; exact h9, by rw [HF.out.2.2.2.2]; exact sts_nil _ _ _⟩
            have hF : d2 = d ∧ E = 0 ∧ S5 = ByteArray.empty ∧ N5 = 0 ∧ L5 = [] := ⟨by rw [← HE.out.2.1]; simp [actF, k1, k2, k3, k4, k5, k6], by rw [← HE.out.1]; simp [actE, k1, k2, k3, k4, k7], by rw [← HE.out.2.2.1]; simp [actS, k7], by rw [← HE.out.2.2.2.2, ← HE.out.2.2.2.1]; simp [actL, k8], by rw [← HE.out.2.2.2.1]; simp [actL, k8]⟩
            have HF := Lib.hid hF
            have b1 : (k == (1 : Int)) = false := beq_eq_false_iff_ne.2 k1
            have b2 : (k == (2 : Int)) = false := beq_eq_false_iff_ne.2 k2
            have b3 : (k == (3 : Int)) = false := beq_eq_false_iff_ne.2 k3
            have b4 : (k == (4 : Int)) = false := beq_eq_false_iff_ne.2 k4
            have b5 : (k == (5 : Int)) = false := beq_eq_false_iff_ne.2 k5
            have b6 : (k == (6 : Int)) = false := beq_eq_false_iff_ne.2 k6
            have b7 : (k == (7 : Int)) = false := beq_eq_false_iff_ne.2 k7
            have b8 : (k == (8 : Int)) = false := beq_eq_false_iff_ne.2 k8
            clear hF q1 q2 q3 q4
            have H7 := Lib.hid H5.out
            go_wp2
            go_meet
            exact ⟨by rw [HF.out.2.2.1]; rfl, by rw [HF.out.2.1], Al, cl, Ar, cr, none, 0, by rw [HF.out.2.2.2.1], by rw [HF.out.1]; have h9 := H7.out; rw [HF.out.1] at h9; exact h9, by rw [HF.out.2.2.2.2]; exact sts_nil _ _ _⟩
          case rest =>
            obtain ⟨rfl, rfl, Al2, cl2, Ar2, cr2, A6, c6, rfl, h6, hst6⟩ := hcut
            have H6 := Lib.hid (And.intro h6 hst6)
            clear h6 hst6 q0 q1 q2 q3 q4 m3 H5 HROW
            have hss := str_self S5
            obtain ⟨R2, hR2⟩ : ∃ R2, d2.rows.length = R2 := ⟨_, rfl⟩
            have m3 : wc.cell? ⟨bm, 3, none⟩ = some (.bool d2.down) := cell_of_cells (all_bm H6.out.1) 3
            have m2 : wc.cell? ⟨bm, 2, none⟩ = some (.slice Ar2 d2.rows.length cr2) := cell_of_cells (all_bm H6.out.1) 2
            rw [hR2] at m2
            have HR2 := Lib.hid hR2
            have HLN := Lib.hid (show L5.length ≤ 100000 from by
              rw [← HE.out.2.2.2.1]
              exact actL_len HSM.out.1 (by omega) (by omega) _)
            have HROW2 := Lib.hid (all_bm H6.out.1)
            clear hR2
            cases hdn : d2.down
            · rw [hdn] at m3
              have HC := Lib.hid (doc_seen H6.out.1 HFIN.out (by omega))
              go_wp2_with (with_reducible refine wpList_load_row rfl 35 (.tmp 7) rfl bm rfl 35 (dcells Al2 cl2 Ar2 cr2 d2) (0, 0) _ HROW2.out Try.underlying35 rfl (info_d _ _ _ _ _) ?_)
              refine HC.out.mono ?_
              rintro r w7 ⟨A7, c7, rfl, hfl, h7, hb7⟩
              have HTA := Lib.hid (taken_any w7 w7.heap.size A7 c7 (seenF d2.lies d2.rows) hfl (Nat.le_refl _) (by have := (seen_small HFIN.out (by omega) (by omega)).1; omega) (by have := (seen_small HFIN.out (by omega) (by omega)).2; omega))
              have H7 := Lib.hid (And.intro h7 (H6.out.2.below hb7 |>.mono hb7.size))
              clear hfl h7 hb7 HC m3 m2
              obtain ⟨tk, htk⟩ : ∃ tk, takenF (seenF d2.lies d2.rows) = tk := ⟨_, rfl⟩
              rw [htk] at HTA
              have HTE := Lib.hid (show (if false = true then (0 : Int) else (takenF (seenF d2.lies d2.rows) : Int)) = (tk : Int) by rw [htk]; rfl)
              clear htk
              go_wp2_with fail
              refine HTA.out.mono ?_
              rintro r wt ⟨rfl, hbt⟩
              have H8 := Lib.hid (And.intro (H7.out.1.below all_part hbt) (H7.out.2.below hbt |>.mono hbt.size))
              have m3 : wt.cell? ⟨bm, 3, none⟩ = some (.bool false) := by have h9 := cell_of_cells (all_bm H8.out.1) 3; rw [h9]; exact congrArg (fun x => some (Value.bool x)) hdn
              have m2 : wt.cell? ⟨bm, 2, none⟩ = some (.slice Ar2 R2 cr2) := by have h9 := cell_of_cells (all_bm H8.out.1) 2; rw [h9]; exact congrArg (fun x => some (Value.slice Ar2 x cr2)) HR2.out
              clear hbt HTA H7 H6 HROW2
              go_wp2_with fail
              have H9 := Lib.hid (And.intro (H8.out.1.below all_part (Below.refl _ wt).drew) (show Sts wt.drew wt.drew.heap.size A6 L5 from H8.out.2.below (Below.refl _ wt).drew))
              have hc9 : wt.drew.cell? ⟨bm, 3, none⟩ = some (.bool false) ∧ wt.drew.cell? ⟨bm, 2, none⟩ = some (.slice Ar2 R2 cr2) := ⟨m3, m2⟩
              refine wp_region_seq (fun W => W.cell? ⟨bm, 3, none⟩ = some (.bool false) ∧ W.cell? ⟨bm, 2, none⟩ = some (.slice Ar2 R2 cr2)) [(0, false, 0), (1, false, 1), (2, false, 3), (3, false, 7), (4, false, 15), (5, false, 31), (6, false, 63), (7, false, 127), (8, false, 255), (9, false, 511), (10, false, 1023), (11, true, 2047), (12, false, 4095), (13, false, 8191), (14, false, 16383), (15, false, 32767), (17, false, 65535), (18, false, 196607), (16, true, 458751), (19, false, 524287), (20, false, 1048575), (21, false, 2097151), (22, false, 4194303), (24, false, 8388607), (25, false, 25165823), (26, false, 58720255), (23, true, 125829119), (27, false, 134217727), (28, false, 268435455), (29, false, 536870911), (30, false, 1073741823), (32, false, 2147483647), (31, true, 6442450943), (33, false, 8589934591), (34, false, 17179869183)]
                35 (by kernel_rfl) (by kernel_rfl) (by kernel_rfl) (fun d _ _ _ _ h => by cases d <;> exact h) (by kernel_rfl) (by kernel_rfl) hc9 ?_
              have HC9 := Lib.hid hc9
              clear m3 m2 hc9
              generalize wt.drew = w9 at *
              have HTX := Lib.hid (show Calls Try.prog 20 #[.slice A5 N5 c5, .slice A6 N5 c6] w9 (fun r w' => r = .returned (.bool true) ∧ Below w9.heap.size w9 w') from by
                have h1 := rs_reads (all_rs H9.out.1)
                have h2 := texts_any w9 w9.heap.size A5 A6 c5 c6 L5 L5 h1.2 H9.out.2 (Nat.le_refl _) HLN.out HLN.out
                rw [HE.out.2.2.2.2] at h2
                refine h2.mono ?_
                rintro r w' ⟨rfl, hb⟩
                exact ⟨by simp, hb⟩)
              refine seqH_take (.string S5) rfl (Or.inl ⟨by rfl, fun W hW => by clear hW; go_simp⟩) ?_
              go_simp
              refine seqH_take (.string S5) rfl (Or.inl ⟨by rfl, fun W hW => by clear hW; go_simp⟩) ?_
              go_simp
              refine seqH_take (.bool false) rfl (Or.inl ⟨by rfl, fun W hW => by clear hW; go_simp⟩) ?_
              go_simp
              refine seqH_take (.bool false) rfl (Or.inl ⟨by rfl, fun W hW => by clear hW; go_simp⟩) ?_
              go_simp
              refine seqH_take (.int .i64 E) rfl (Or.inl ⟨by rfl, fun W hW => by clear hW; go_simp⟩) ?_
              go_simp
              refine seqH_take (.int .i64 E) rfl (Or.inl ⟨by rfl, fun W hW => by clear hW; go_simp⟩) ?_
              go_simp
              refine seqH_take (.bool false) rfl (Or.inl ⟨by rfl, fun W hW => by clear hW; go_simp⟩) ?_
              go_simp
              refine seqH_take (.bool false) rfl (Or.inl ⟨by rfl, fun W hW => by clear hW; go_simp⟩) ?_
              go_simp
              refine seqH_take (.bool false) rfl (Or.inl ⟨by rfl, fun W hW => by clear hW; go_simp⟩) ?_
              go_simp
              refine seqH_take (.slice A5 N5 c5) rfl (Or.inl ⟨by rfl, fun W hW => by clear hW; go_simp⟩) ?_
              go_simp
              refine seqH_take (.slice A6 N5 c6) rfl (Or.inl ⟨by rfl, fun W hW => by clear hW; go_simp⟩) ?_
              go_simp
              refine seqH_call rfl (by rfl) (fun K hK => ?_)
              have HK := Lib.hid hK
              clear hK
              go_simp
              refine HTX.out.mono ?_
              rintro r w10 ⟨rfl, hb10⟩
              have H10 := Lib.hid (H9.out.1.below all_part hb10)
              clear hb10
              have HC10 := Lib.hid (show w10.cell? ⟨bm, 3, none⟩ = some (.bool false) ∧ w10.cell? ⟨bm, 2, none⟩ = some (.slice Ar2 R2 cr2) from ⟨by have h9 := cell_of_cells (all_bm H10.out) 3; rw [h9]; exact congrArg (fun x => some (Value.bool x)) hdn, by have h9 := cell_of_cells (all_bm H10.out) 2; rw [h9]; exact congrArg (fun x => some (Value.slice Ar2 x cr2)) HR2.out⟩)
              refine HK.out _ _ HC10.out ?_
              clear HK K
              go_simp
              clear HTX HC9 H9
              refine seqH_take (.bool false) rfl (Or.inl ⟨by rfl, fun W hW => by clear hW; go_simp⟩) ?_
              go_simp
              refine seqH_take (.bool false) rfl (Or.inl ⟨by rfl, fun W hW => by clear hW; go_simp⟩) ?_
              go_simp
              refine seqH_take (.bool false) rfl (Or.inl ⟨by rfl, fun W hW => by clear hW; go_simp⟩) ?_
              go_simp
              refine seqH_take (.pointer (some ⟨b, 0, none⟩)) rfl (Or.inl ⟨by rfl, fun W hW => by clear hW; go_simp⟩) ?_
              go_simp
              refine seqH_take (.pointer (some ⟨bm, 3, none⟩)) rfl (Or.inl ⟨by rfl, fun W hW => by clear hW; go_simp⟩) ?_
              go_simp
              refine seqH_take (.bool false) rfl (Or.inl ⟨by rfl, fun W hW => by have hcell := hW.1; clear hW; go_simp⟩) ?_
              go_simp
              have HDN := Lib.hid (show Calls Try.prog 21 #[.pointer (some ⟨b, 0, none⟩)] w10 (fun r w' => r = .returned (.bool false) ∧ w' = w10) from by have h9 := h_down (all_dk H10.out) ((bx_part _ _).star emp_part); rw [hdn] at h9; exact h9)
              refine seqH_call rfl (by rfl) (fun K hK => ?_)
              have HK := Lib.hid hK
              clear hK
              go_simp
              refine HDN.out.mono ?_
              rintro r w10 ⟨rfl, rfl⟩
              refine HK.out _ _ HC10.out ?_
              clear HK K
              go_simp
              refine seqH_take (.bool false) rfl (Or.inl ⟨by rfl, fun W hW => by clear hW; go_simp⟩) ?_
              go_simp
              refine seqH_take (.bool false) rfl (Or.inl ⟨by rfl, fun W hW => by clear hW; go_simp⟩) ?_
              go_simp
              refine seqH_take (.bool false) rfl (Or.inl ⟨by rfl, fun W hW => by clear hW; go_simp⟩) ?_
              go_simp
              refine seqH_take (.pointer (some ⟨b, 0, none⟩)) rfl (Or.inl ⟨by rfl, fun W hW => by clear hW; go_simp⟩) ?_
              go_simp
              refine seqH_take (.pointer (some ⟨bm, 2, none⟩)) rfl (Or.inl ⟨by rfl, fun W hW => by clear hW; go_simp⟩) ?_
              go_simp
              refine seqH_take (.slice Ar2 R2 cr2) rfl (Or.inl ⟨by rfl, fun W hW => by have hcell := hW.2; clear hW; go_simp⟩) ?_
              go_simp
              refine seqH_take (.int .i64 R2) rfl (Or.inl ⟨by rfl, fun W hW => by clear hW; go_simp⟩) ?_
              go_simp
              have HWT := Lib.hid (show Calls Try.prog 22 #[.pointer (some ⟨b, 0, none⟩)] w10 (fun r w' => r = .returned (.int .i64 R2) ∧ w' = w10) from by have h9 := h_waiting (all_dk H10.out) ((bx_part _ _).star emp_part); rw [HR2.out] at h9; exact h9)
              refine seqH_call rfl (by rfl) (fun K hK => ?_)
              have HK := Lib.hid hK
              clear hK
              go_simp
              refine HWT.out.mono ?_
              rintro r w10 ⟨rfl, rfl⟩
              refine HK.out _ _ HC10.out ?_
              clear HK K
              go_simp
              refine seqH_take (.bool false) rfl (Or.inl ⟨by rfl, fun W hW => by clear hW; go_simp⟩) ?_
              go_simp
              refine seqH_take (.bool false) rfl (Or.inl ⟨by rfl, fun W hW => by clear hW; go_simp⟩) ?_
              go_simp
              refine seqH_take (.bool false) rfl (Or.inl ⟨by rfl, fun W hW => by clear hW; go_simp⟩) ?_
              go_simp
              refine seqH_take (.pointer (some ⟨b, 0, none⟩)) rfl (Or.inl ⟨by rfl, fun W hW => by clear hW; go_simp⟩) ?_
              go_simp
              refine seqH_take (.int .i64 tk) rfl (Or.inl ⟨by rfl, fun W hW => by clear hW; go_simp⟩) ?_
              go_simp
              have HTK := Lib.hid (show Calls Try.prog 23 #[.pointer (some ⟨b, 0, none⟩)] w10 (fun r w' => r = .returned (.int .i64 tk) ∧ w' = w10) from by have h9 := h_taken (all_dk H10.out) ((bx_part _ _).star emp_part); rw [hdn] at h9; exact HTE.out ▸ h9)
              refine seqH_call rfl (by rfl) (fun K hK => ?_)
              have HK := Lib.hid hK
              clear hK
              go_simp
              refine HTK.out.mono ?_
              rintro r w10 ⟨rfl, rfl⟩
              refine HK.out _ _ HC10.out ?_
              clear HK K
              go_simp
              refine seqH_take (.bool false) rfl (Or.inl ⟨by rfl, fun W hW => by clear hW; go_simp⟩) ?_
              go_simp
              refine seqH_take (.bool false) rfl (Or.inl ⟨by rfl, fun W hW => by clear hW; go_simp⟩) ?_
              go_simp
              refine seqH_done ?_
              clear HDN HWT HTK HC10
              go_wp2
              go_roundg (l.length - (j + 1))
              case rel => exact ⟨j + 1, d2, Al2, cl2, Ar2, cr2, by omega, rfl, by go_num, all_back H10.out, HFIN.out.mono (Nat.le_refl _) (by omega)⟩
              case measure => omega
            · rw [hdn] at m3
              have HTE := Lib.hid (show (if true = true then (0 : Int) else (takenF (seenF d2.lies d2.rows) : Int)) = (0 : Int) from rfl)
              obtain ⟨wt, hwt⟩ : ∃ wt, wc = wt := ⟨_, rfl⟩
              subst hwt
              have H8 := Lib.hid (And.intro H6.out.1 H6.out.2)
              clear H6 HROW2
              go_wp2_with fail
              have H9 := Lib.hid (And.intro (H8.out.1.below all_part (Below.refl _ wc).drew) (show Sts wc.drew wc.drew.heap.size A6 L5 from H8.out.2.below (Below.refl _ wc).drew))
              have hc9 : wc.drew.cell? ⟨bm, 3, none⟩ = some (.bool true) ∧ wc.drew.cell? ⟨bm, 2, none⟩ = some (.slice Ar2 R2 cr2) := ⟨m3, m2⟩
              refine wp_region_seq (fun W => W.cell? ⟨bm, 3, none⟩ = some (.bool true) ∧ W.cell? ⟨bm, 2, none⟩ = some (.slice Ar2 R2 cr2)) [(0, false, 0), (1, false, 1), (2, false, 3), (3, false, 7), (4, false, 15), (5, false, 31), (6, false, 63), (7, false, 127), (8, false, 255), (9, false, 511), (10, false, 1023), (11, true, 2047), (12, false, 4095), (13, false, 8191), (14, false, 16383), (15, false, 32767), (17, false, 65535), (18, false, 196607), (16, true, 458751), (19, false, 524287), (20, false, 1048575), (21, false, 2097151), (22, false, 4194303), (24, false, 8388607), (25, false, 25165823), (26, false, 58720255), (23, true, 125829119), (27, false, 134217727), (28, false, 268435455), (29, false, 536870911), (30, false, 1073741823), (32, false, 2147483647), (31, true, 6442450943), (33, false, 8589934591), (34, false, 17179869183)]
                35 (by kernel_rfl) (by kernel_rfl) (by kernel_rfl) (fun d _ _ _ _ h => by cases d <;> exact h) (by kernel_rfl) (by kernel_rfl) hc9 ?_
              have HC9 := Lib.hid hc9
              clear m3 m2 hc9
              generalize wc.drew = w9 at *
              have HTX := Lib.hid (show Calls Try.prog 20 #[.slice A5 N5 c5, .slice A6 N5 c6] w9 (fun r w' => r = .returned (.bool true) ∧ Below w9.heap.size w9 w') from by
                have h1 := rs_reads (all_rs H9.out.1)
                have h2 := texts_any w9 w9.heap.size A5 A6 c5 c6 L5 L5 h1.2 H9.out.2 (Nat.le_refl _) HLN.out HLN.out
                rw [HE.out.2.2.2.2] at h2
                refine h2.mono ?_
                rintro r w' ⟨rfl, hb⟩
                exact ⟨by simp, hb⟩)
              refine seqH_take (.string S5) rfl (Or.inl ⟨by rfl, fun W hW => by clear hW; go_simp⟩) ?_
              go_simp
              refine seqH_take (.string S5) rfl (Or.inl ⟨by rfl, fun W hW => by clear hW; go_simp⟩) ?_
              go_simp
              refine seqH_take (.bool false) rfl (Or.inl ⟨by rfl, fun W hW => by clear hW; go_simp⟩) ?_
              go_simp
              refine seqH_take (.bool false) rfl (Or.inl ⟨by rfl, fun W hW => by clear hW; go_simp⟩) ?_
              go_simp
              refine seqH_take (.int .i64 E) rfl (Or.inl ⟨by rfl, fun W hW => by clear hW; go_simp⟩) ?_
              go_simp
              refine seqH_take (.int .i64 E) rfl (Or.inl ⟨by rfl, fun W hW => by clear hW; go_simp⟩) ?_
              go_simp
              refine seqH_take (.bool false) rfl (Or.inl ⟨by rfl, fun W hW => by clear hW; go_simp⟩) ?_
              go_simp
              refine seqH_take (.bool false) rfl (Or.inl ⟨by rfl, fun W hW => by clear hW; go_simp⟩) ?_
              go_simp
              refine seqH_take (.bool false) rfl (Or.inl ⟨by rfl, fun W hW => by clear hW; go_simp⟩) ?_
              go_simp
              refine seqH_take (.slice A5 N5 c5) rfl (Or.inl ⟨by rfl, fun W hW => by clear hW; go_simp⟩) ?_
              go_simp
              refine seqH_take (.slice A6 N5 c6) rfl (Or.inl ⟨by rfl, fun W hW => by clear hW; go_simp⟩) ?_
              go_simp
              refine seqH_call rfl (by rfl) (fun K hK => ?_)
              have HK := Lib.hid hK
              clear hK
              go_simp
              refine HTX.out.mono ?_
              rintro r w10 ⟨rfl, hb10⟩
              have H10 := Lib.hid (H9.out.1.below all_part hb10)
              clear hb10
              have HC10 := Lib.hid (show w10.cell? ⟨bm, 3, none⟩ = some (.bool true) ∧ w10.cell? ⟨bm, 2, none⟩ = some (.slice Ar2 R2 cr2) from ⟨by have h9 := cell_of_cells (all_bm H10.out) 3; rw [h9]; exact congrArg (fun x => some (Value.bool x)) hdn, by have h9 := cell_of_cells (all_bm H10.out) 2; rw [h9]; exact congrArg (fun x => some (Value.slice Ar2 x cr2)) HR2.out⟩)
              refine HK.out _ _ HC10.out ?_
              clear HK K
              go_simp
              clear HTX HC9 H9
              refine seqH_take (.bool false) rfl (Or.inl ⟨by rfl, fun W hW => by clear hW; go_simp⟩) ?_
              go_simp
              refine seqH_take (.bool false) rfl (Or.inl ⟨by rfl, fun W hW => by clear hW; go_simp⟩) ?_
              go_simp
              refine seqH_take (.bool false) rfl (Or.inl ⟨by rfl, fun W hW => by clear hW; go_simp⟩) ?_
              go_simp
              refine seqH_take (.pointer (some ⟨b, 0, none⟩)) rfl (Or.inl ⟨by rfl, fun W hW => by clear hW; go_simp⟩) ?_
              go_simp
              refine seqH_take (.pointer (some ⟨bm, 3, none⟩)) rfl (Or.inl ⟨by rfl, fun W hW => by clear hW; go_simp⟩) ?_
              go_simp
              refine seqH_take (.bool true) rfl (Or.inl ⟨by rfl, fun W hW => by have hcell := hW.1; clear hW; go_simp⟩) ?_
              go_simp
              have HDN := Lib.hid (show Calls Try.prog 21 #[.pointer (some ⟨b, 0, none⟩)] w10 (fun r w' => r = .returned (.bool true) ∧ w' = w10) from by have h9 := h_down (all_dk H10.out) ((bx_part _ _).star emp_part); rw [hdn] at h9; exact h9)
              refine seqH_call rfl (by rfl) (fun K hK => ?_)
              have HK := Lib.hid hK
              clear hK
              go_simp
              refine HDN.out.mono ?_
              rintro r w10 ⟨rfl, rfl⟩
              refine HK.out _ _ HC10.out ?_
              clear HK K
              go_simp
              refine seqH_take (.bool false) rfl (Or.inl ⟨by rfl, fun W hW => by clear hW; go_simp⟩) ?_
              go_simp
              refine seqH_take (.bool false) rfl (Or.inl ⟨by rfl, fun W hW => by clear hW; go_simp⟩) ?_
              go_simp
              refine seqH_take (.bool false) rfl (Or.inl ⟨by rfl, fun W hW => by clear hW; go_simp⟩) ?_
              go_simp
              refine seqH_take (.pointer (some ⟨b, 0, none⟩)) rfl (Or.inl ⟨by rfl, fun W hW => by clear hW; go_simp⟩) ?_
              go_simp
              refine seqH_take (.pointer (some ⟨bm, 2, none⟩)) rfl (Or.inl ⟨by rfl, fun W hW => by clear hW; go_simp⟩) ?_
              go_simp
              refine seqH_take (.slice Ar2 R2 cr2) rfl (Or.inl ⟨by rfl, fun W hW => by have hcell := hW.2; clear hW; go_simp⟩) ?_
              go_simp
              refine seqH_take (.int .i64 R2) rfl (Or.inl ⟨by rfl, fun W hW => by clear hW; go_simp⟩) ?_
              go_simp
              have HWT := Lib.hid (show Calls Try.prog 22 #[.pointer (some ⟨b, 0, none⟩)] w10 (fun r w' => r = .returned (.int .i64 R2) ∧ w' = w10) from by have h9 := h_waiting (all_dk H10.out) ((bx_part _ _).star emp_part); rw [HR2.out] at h9; exact h9)
              refine seqH_call rfl (by rfl) (fun K hK => ?_)
              have HK := Lib.hid hK
              clear hK
              go_simp
              refine HWT.out.mono ?_
              rintro r w10 ⟨rfl, rfl⟩
              refine HK.out _ _ HC10.out ?_
              clear HK K
              go_simp
              refine seqH_take (.bool false) rfl (Or.inl ⟨by rfl, fun W hW => by clear hW; go_simp⟩) ?_
              go_simp
              refine seqH_take (.bool false) rfl (Or.inl ⟨by rfl, fun W hW => by clear hW; go_simp⟩) ?_
              go_simp
              refine seqH_take (.bool false) rfl (Or.inl ⟨by rfl, fun W hW => by clear hW; go_simp⟩) ?_
              go_simp
              refine seqH_take (.pointer (some ⟨b, 0, none⟩)) rfl (Or.inl ⟨by rfl, fun W hW => by clear hW; go_simp⟩) ?_
              go_simp
              refine seqH_take (.int .i64 0) rfl (Or.inl ⟨by rfl, fun W hW => by clear hW; go_simp⟩) ?_
              go_simp
              have HTK := Lib.hid (show Calls Try.prog 23 #[.pointer (some ⟨b, 0, none⟩)] w10 (fun r w' => r = .returned (.int .i64 0) ∧ w' = w10) from by have h9 := h_taken (all_dk H10.out) ((bx_part _ _).star emp_part); rw [hdn] at h9; exact HTE.out ▸ h9)
              refine seqH_call rfl (by rfl) (fun K hK => ?_)
              have HK := Lib.hid hK
              clear hK
              go_simp
              refine HTK.out.mono ?_
              rintro r w10 ⟨rfl, rfl⟩
              refine HK.out _ _ HC10.out ?_
              clear HK K
              go_simp
              refine seqH_take (.bool false) rfl (Or.inl ⟨by rfl, fun W hW => by clear hW; go_simp⟩) ?_
              go_simp
              refine seqH_take (.bool false) rfl (Or.inl ⟨by rfl, fun W hW => by clear hW; go_simp⟩) ?_
              go_simp
              refine seqH_done ?_
              clear HDN HWT HTK HC10
              go_wp2
              go_roundg (l.length - (j + 1))
              case rel => exact ⟨j + 1, d2, Al2, cl2, Ar2, cr2, by omega, rfl, by go_num, all_back H10.out, HFIN.out.mono (Nat.le_refl _) (by omega)⟩
              case measure => omega
        · have h1 : ¬ (j : Int) < l.length := by omega
          have HB9 := Lib.hid hh.top
          clear hh hsm
          go_wp2
          go_ret
          exact ⟨rfl, HB9.out⟩
    · have HN := Lib.hid (fun W => new_bad W room h0)
      have hbb : (decide (0 ≤ room) && decide (room ≤ 16777216)) = false := by
        by_cases h9 : 0 ≤ room
        · have : ¬ room ≤ 16777216 := fun h8 => h0 ⟨h9, h8⟩
          simp; omega
        · simp; omega
      have HM := Lib.hid (fun W => show Calls Try.prog 11 #[.int .i64 room] W (fun r w' => (∃ x0 x1 x2 x3 x4 x5 x6, r = .returned (.tuple #[.agg #[.int .i64 x0, .slice x1 0 x2, .slice x3 0 x4, .bool x5, .int .i64 0, .int .u64 0, .int .i64 x6], .bool false])) ∧ Below W.heap.size W w') from (new_any W room).mono fun r w' hr => by
        obtain ⟨⟨v, e, Al, cl, Ar, cr, e2, _⟩, hb⟩ := hr
        exact ⟨⟨room, Al, cl, Ar, cr, false, 0, by rw [e, hbb, e2]; rfl⟩, hb⟩)
      clear hbb h0
      simp only [hsd]
      go_wp2_with fail
      refine (HN.out _).mono ?_
      rintro r w3 ⟨rfl, rfl⟩
      go_wp2_with fail
      refine (HM.out _).mono ?_
      rintro r w4 ⟨⟨x0, x1, x2, x3, x4, x5, x6, rfl⟩, hb4⟩
      have HB4 := Lib.hid ((HB2.out.trans (hb4.mono HB2.out.size)).alloc (Nat.le_trans HB2.out.size hb4.size) (.cells #[.int .i64 x0, .slice x1 0 x2, .slice x3 0 x4, .bool x5, .int .i64 0, .int .u64 0, .int .i64 x6] 35))
      clear hb4
      go_wp2
      go_ret
      exact ⟨rfl, HB4.out⟩
  · have hsd : decide (sumF l ≤ 300) = false := decide_eq_false hs
    simp only [hsd]
    go_wp2
    go_ret
    exact ⟨rfl, HB2.out⟩

theorem own : ownKnob Try.prog.godebug = none := by kernel_rfl

set_option maxRecDepth 100000 in
theorem lifted (os : Os) (started : os.Started) (H : Type) (enc : TypeId × Value → H) :
    ReturnsInHanded {} Try.checked os 3 .any (Rows.diskPlaysSpec.pre6 enc Try.prog Try.f3 Rows.diskPlaysRow.domain false) (Rows.diskPlaysSpec.post enc Try.prog Try.f3 false true false false) := by
  refine returnsInHanded_of_change_sized (C := Try.checked) own started (by kernel_rfl) Try.func3
    (ChangeSpec.witness6 (enc := enc) (C := Try.checked) false ⟨#[], #[.int .i64 0, .slice none 0 0], []⟩ 8 (by kernel_rfl) (by kernel_rfl) (by kernel_rfl) (by kernel_rfl)) ?_
  intro W base args ds gs before hval0 hW hcnd hsz _
  have hval : ∀ (j : Nat) t v, Try.f3.params[j]? = some t → args[j]? = some v → Value.okWide Try.prog W .any base t v := hval0
  have hW' := hW
  obtain ⟨p, q, hA0, hV, rfl, hfz, hnd⟩ := hW
  have hA : DataW.TrodAll enc Try.prog W 0 (fun _ => true) true Try.f3.params.toList args.toList ds p := hA0
  rw [Try.params3] at hA hval hsz
  obtain ⟨v0, vs0, d0, ds0, p0, q0, hargs, rfl, rfl, h0, r0⟩ := trodAll_cons hA
  obtain ⟨v1, vs1, d1, ds1, p1, q1, rfl, rfl, rfl, h1, r1⟩ := trodAll_cons r0
  obtain ⟨rfl, rfl, rfl⟩ := trodAll_nil r1
  obtain rfl : args = #[v0, v1] := by cases args; simp_all
  obtain ⟨rfl, rfl⟩ := trodVars_none hV
  have hz1 : ∀ n ∈ d1.weights Try.prog 22, n ≤ reachBytes := fun n hn => of_decide_eq_true (List.all_eq_true.1 hsz n (DataW.weights_mem_each (j := 1) rfl rfl n hn))
  obtain ⟨a0, rfl, rfl, rfl, w0⟩ := open_int Try.underlying3 (hval 0 3 v0 rfl rfl) h0
  obtain ⟨A1, l1, c1, rfl, hr1, hw1⟩ := Hk.open_acts (hval 1 22 v1 rfl rfl) h1 hz1
  clear hA0 hval0
  refine (walk a0 A1 c1 l1 W w0 hr1 hw1).mono fun e W' ⟨he, hg⟩ => ?_
  subst he
  exact ⟨_, rfl, law_post Try.laid (by kernel_rfl) (by kernel_rfl) Try.underlying4 rfl rfl hW' hg⟩

theorem over : Rows.diskPlaysRow.holds Try.pinned (OpenSpec.ofChange Rows.diskPlaysSpec) :=
  OpenClaim.holds_of_wide 3 Try.f3 rfl rfl rfl rfl rfl rfl rfl ⟨rfl, rfl, rfl, rfl, rfl⟩ rfl rfl rfl rfl rfl (by kernel_rfl) Try.func3 (by kernel_rfl)
    (of_decide_eq_true (by kernel_rfl)) (by unfold Func.isWrapper; first | (rw [if_pos (by decide +kernel)]; kernel_rfl) | (rw [if_neg (by decide +kernel)]; exact ⟨rfl, rfl⟩))
    (fun os started H enc _ => lifted os started H enc)
end Go.Proofs.Ytdgfbpkpfmdjjaa.diskPlays

namespace Go.Proofs.Ytdgfbpkpfmdjjaa
theorem diskPlays_holds : Rows.DiskPlaysSaid := diskPlays.over
end Go.Proofs.Ytdgfbpkpfmdjjaa
