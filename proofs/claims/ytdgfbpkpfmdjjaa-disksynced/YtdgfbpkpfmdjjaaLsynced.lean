/-
  Proved: DiskSynced returns true for every two rows of calls, and changes nothing that was there.
  Conditions: none beside the row's own.
-/
import Derived.Test.YtdgfbpkpfmdjjaaKt
import Derived.Test.YtdgfbpkpfmdjjaaP
namespace Go.Proofs.Ytdgfbpkpfmdjjaa.diskSynced
open Go.ChangeShapes Go.WideShapes Go.ChangeAt Go.RowKit Hr Hw Ht Hk
open Go.ChangeMaps (open_string)
set_option linter.unusedVariables false

theorem eff_act (d : Dsk) (k : Int) (p t : ByteArray) (at_ keep : Int) (h1 : 1 ≤ k) (h3 : k ≤ 3) : actF d (k, p, t, at_, keep) = (doF d (k, p, t)).1 := by
  have hk : k = 1 ∨ k = 2 ∨ k = 3 := by omega
  simp [actF, hk]
theorem kept0 (k : Nat) : keptB 0 k = false := by
  unfold keptB
  rw [Int.zero_ediv]
  rfl
theorem keep_none (l : List Fl) (rs : List Ef) : ∀ n, keepF l rs 0 n = l
  | 0 => rfl
  | n + 1 => by
    unfold keepF
    rw [kept0, if_neg (by decide)]
    exact keep_none l rs n
theorem cut_none {room : Int} {n m : Nat} {d : Dsk} (h : Hk.Calm room n m d) : syncF (armF d 1 0) = ({ d with rows := [], down := true, at_ := 1, keep := 0, left := 0 }, 8) := by
  have h1 : callF (armF d 1 0) = ({ d with rows := [], down := true, at_ := 1, keep := 0, left := 0 }, true) := by
    rw [callF_one (d := armF d 1 0) rfl]
    show (({ d with lies := keepF d.lies d.rows 0 (min d.rows.length 64), rows := [], down := true, at_ := 1, keep := 0, left := 0 } : Dsk), true) = _
    rw [keep_none]
  unfold syncF
  rw [if_neg (by show ¬ d.down = true; rw [h.up]; decide), h1]
  rfl
theorem list_found {L : List Fl} {pre q : ByteArray} (h : q ∈ listF L pre) : (findF L q).isSome = true := by
  unfold listF at h
  obtain ⟨x, hx, rfl⟩ := List.mem_map.1 h
  have hx' := (List.mem_filter.1 hx).1
  unfold findF
  rw [Option.isSome_map, List.find?_isSome]
  exact ⟨x, hx', by simp⟩

set_option maxHeartbeats 8000000 in
set_option maxRecDepth 100000 in
theorem walk (A : Option Addr) (c : Nat) (l : List Ac) (A' : Option Addr) (c' : Nat) (l' : List Ac) (w : World) (hr : Acs w w.heap.size A l) (hz : ∀ a ∈ l, AcOk a) (hr' : Acs w w.heap.size A' l') (hz' : ∀ a ∈ l', AcOk a) :
    Calls Try.prog 5 #[.slice A l.length c, .slice A' l'.length c'] w fun e w' => e = .returned (.bool true) ∧ Below w.heap.size w w' := by
  have HP := Lib.hid hr
  have HZ := Lib.hid hz
  have HP' := Lib.hid hr'
  have HZ' := Lib.hid hz'
  clear hr hz hr' hz'
  go_enter Try.func5, Try.ntmps5
  go_wp2_with fail
  refine (awake_any w).mono ?_
  rintro r w1 ⟨rfl, hb1⟩
  have HF := Lib.hid (few_any w1 A c l w.heap.size (HP.out.below hb1) hb1.size HZ.out)
  have HB1 := Lib.hid hb1
  clear hb1
  go_wp2_with fail
  refine HF.out.mono ?_
  rintro r w2 ⟨rfl, hb2⟩
  have hb02 := HB1.out.trans (hb2.mono HB1.out.size)
  have HF' := Lib.hid (few_any w2 A' c' l' w.heap.size (HP'.out.below hb02) hb02.size HZ'.out)
  have HB2 := Lib.hid hb02
  clear HB1 hb2 hb02 HF
  by_cases hs : sumF l ≤ 300
  · have hsd : decide (sumF l ≤ 300) = true := decide_eq_true hs
    simp only [hsd]
    go_wp2_with fail
    refine HF'.out.mono ?_
    rintro r w3 ⟨rfl, hb3⟩
    have hb03 := HB2.out.trans (hb3.mono HB2.out.size)
    have HB3 := Lib.hid hb03
    clear HB2 hb3 hb03 HF'
    by_cases hs' : sumF l' ≤ 300
    · have hsd' : decide (sumF l' ≤ 300) = true := decide_eq_true hs'
      have HN := Lib.hid (h_new ((holds_start w).below emp_part HB3.out) emp_part 100000 (by omega) (by omega))
      simp only [hsd']
      go_wp2_with fail
      refine HN.out.mono ?_
      rintro r w4 ⟨b, rfl, h4⟩
      have H4 := Lib.hid h4
      have hln := len_sum l
      have hln' := len_sum l'
      clear h4 HN HB3
      go_wp2
      go_loopg [7] l.length (fun g i wr => ∃ (j : Nat) (d : Dsk), j ≤ l.length ∧ g = l.length - j ∧ i = .int .i64 j ∧ Holds w (Star (Dk b d) Emp) wr ∧ Hk.Calm 100000 (0 + j) (15000 * (0 + j)) d ∧ True)
      case atStart => exact ⟨0, newD 100000, Nat.zero_le _, rfl, rfl, H4.out, calm_new 100000, trivial⟩
      case round =>
        obtain ⟨j, d, hj, rfl, rfl, hh, hca, htk⟩ := hrel
        by_cases hlt : j < l.length
        · have h1 : (j : Int) < l.length := by omega
          have hj0 : (0 : Int) ≤ j := by omega
          obtain ⟨ad, rfl, hB1, hcc⟩ := (HP.out.below hh.top) j hlt
          obtain ⟨hok, h15⟩ := act_ok hlt hs HZ.out
          obtain ⟨a, ha⟩ : ∃ a, l.getD j default = a := ⟨_, rfl⟩
          rw [ha] at hcc hok h15
          obtain ⟨k, p, t, at_, keep⟩ := a
          have e0 : wr.cell? (ad.add (j * 5)) = some (.int .i64 k) := hcc 0 (by omega)
          have e1 : wr.cell? ⟨(ad.add (j * 5)).block, (ad.add (j * 5)).off + 1, none⟩ = some (.string p) := hcc 1 (by omega)
          have e2 : wr.cell? ⟨(ad.add (j * 5)).block, (ad.add (j * 5)).off + 2, none⟩ = some (.string t) := hcc 2 (by omega)
          have e3 : wr.cell? ⟨(ad.add (j * 5)).block, (ad.add (j * 5)).off + 3, none⟩ = some (.int .i64 at_) := hcc 3 (by omega)
          have e4 : wr.cell? ⟨(ad.add (j * 5)).block, (ad.add (j * 5)).off + 4, none⟩ = some (.int .u64 keep) := hcc 4 (by omega)
          have HH := Lib.hid (And.intro hh (And.intro hca htk))
          clear hcc ha hh hca htk
          by_cases hk1 : 1 ≤ k
          · by_cases hk4 : k ≤ 3
            · have ea := eff_act d k p t at_ keep hk1 hk4
              obtain ⟨f1, f2, f3, -⟩ := calm_eff HH.out.2.1 (k, p, t)
              have fl : (doF d (k, p, t)).1.lies = d.lies := by
                by_cases h9 : (doF d (k, p, t)).2 = 0
                · rw [(f3 h9).1]
                · rw [f2 h9]
              have fit1 : Fit d := HH.out.2.1.fit (by omega) (by omega)
              have HD := Lib.hid (do_p HH.out.1 emp_part fit1 (k, p, t, at_, keep) hok)
              unfold acV at HD
              rw [ea] at HD
              obtain ⟨d2, hd2⟩ : ∃ d2, (doF d (k, p, t)).1 = d2 := ⟨_, rfl⟩
              rw [hd2] at HD f1 fl
              have h15' : wt (k, p, t) ≤ 15000 := h15
              have HF2 := Lib.hid (And.intro (f1.mono (n' := 0 + (j + 1)) (m' := 15000 * (0 + (j + 1))) (by omega) (by omega)) fl)
              clear f1 f2 f3 fl fit1 hd2 hok ea
              simp only at HD
              go_wp2_with fail
              refine HD.out.mono ?_
              rintro r w5 ⟨A5, c5, rfl, h5⟩
              have H5 := Lib.hid h5.tail
              clear h5 HD
              go_wp2
              go_roundg (l.length - (j + 1))
              case rel => exact ⟨j + 1, d2, by omega, rfl, by go_num, H5.out, HF2.out.1, trivial⟩
              case measure => omega
            · go_wp2
              go_roundg (l.length - (j + 1))
              case rel => exact ⟨j + 1, d, by omega, rfl, by go_num, HH.out.1, HH.out.2.1.mono (by omega) (by omega), HH.out.2.2⟩
              case measure => omega
          · go_wp2
            go_roundg (l.length - (j + 1))
            case rel => exact ⟨j + 1, d, by omega, rfl, by go_num, HH.out.1, HH.out.2.1.mono (by omega) (by omega), HH.out.2.2⟩
            case measure => omega
        · have h1 : ¬ (j : Int) < l.length := by omega
          obtain ⟨L, hL⟩ : ∃ L, sn d = L := ⟨_, rfl⟩
          have HCA := Lib.hid hca
          have hsy := calm_sync hca
          have HS3 := Lib.hid (h_sync3 hh emp_part (hca.fit (by omega) (by omega)) (by rw [hsy]))
          have hcd := (calm_synced hca).1
          obtain ⟨dc, hdc⟩ : ∃ dc, (syncF d).1 = dc := ⟨_, rfl⟩
          rw [hdc] at HS3 hcd
          have hdc2 : dc.lies = L ∧ dc.rows = [] := by rw [← hdc, hsy, ← hL]; exact ⟨rfl, rfl⟩
          have HDC := Lib.hid (And.intro hdc2 hcd)
          have hsd2 : (syncF d).2 = 0 := by rw [hsy]
          rw [hsd2] at HS3
          clear hh hca htk hL hsy hdc hdc2 hcd hsd2
          go_wp2_with fail
          refine HS3.out.mono ?_
          rintro r wa ⟨rfl, ha⟩
          have HCP := Lib.hid (h_copy ha emp_part)
          clear ha HS3
          go_wp2_with fail
          refine HCP.out.mono ?_
          rintro r wb ⟨bc, rfl, hb⟩
          have HB := Lib.hid (h_swap hb)
          obtain ⟨R2, hR2e⟩ : ∃ R2, R2 = Star (Dk bc dc) Emp := ⟨_, rfl⟩
          have hR2 : Part R2 := by rw [hR2e]; exact (dk_part bc dc).star emp_part
          rw [← hR2e] at HB
          have HR2 := Lib.hid hR2e
          have hjl : j ≤ 300 := by omega
          clear hb HCP hR2e
          generalize hn0 : j = n0 at *
          have HN0 := Lib.hid hn0
          clear hn0
          go_wp2
          go_loopg [9] l'.length (fun g i wr => ∃ (j : Nat) (d : Dsk), j ≤ l'.length ∧ g = l'.length - j ∧ i = .int .i64 j ∧ Holds w (Star (Dk b d) R2) wr ∧ Hk.Calm 100000 (n0 + j) (15000 * (n0 + j)) d ∧ d.lies = L)
          case atStart => exact ⟨0, dc, Nat.zero_le _, rfl, rfl, HB.out, HDC.out.2.mono (by omega) (by omega), HDC.out.1.1⟩
          case round =>
            obtain ⟨j, d, hj, rfl, rfl, hh, hca, htk⟩ := hrel
            by_cases hlt : j < l'.length
            · have h1 : (j : Int) < l'.length := by omega
              have hj0 : (0 : Int) ≤ j := by omega
              obtain ⟨ad, rfl, hB1, hcc⟩ := (HP'.out.below hh.top) j hlt
              obtain ⟨hok, h15⟩ := act_ok hlt hs' HZ'.out
              obtain ⟨a, ha⟩ : ∃ a, l'.getD j default = a := ⟨_, rfl⟩
              rw [ha] at hcc hok h15
              obtain ⟨k, p, t, at_, keep⟩ := a
              have e0 : wr.cell? (ad.add (j * 5)) = some (.int .i64 k) := hcc 0 (by omega)
              have e1 : wr.cell? ⟨(ad.add (j * 5)).block, (ad.add (j * 5)).off + 1, none⟩ = some (.string p) := hcc 1 (by omega)
              have e2 : wr.cell? ⟨(ad.add (j * 5)).block, (ad.add (j * 5)).off + 2, none⟩ = some (.string t) := hcc 2 (by omega)
              have e3 : wr.cell? ⟨(ad.add (j * 5)).block, (ad.add (j * 5)).off + 3, none⟩ = some (.int .i64 at_) := hcc 3 (by omega)
              have e4 : wr.cell? ⟨(ad.add (j * 5)).block, (ad.add (j * 5)).off + 4, none⟩ = some (.int .u64 keep) := hcc 4 (by omega)
              have HH := Lib.hid (And.intro hh (And.intro hca htk))
              clear hcc ha hh hca htk
              by_cases hk1 : 1 ≤ k
              · by_cases hk4 : k ≤ 3
                · have ea := eff_act d k p t at_ keep hk1 hk4
                  obtain ⟨f1, f2, f3, -⟩ := calm_eff HH.out.2.1 (k, p, t)
                  have fl : (doF d (k, p, t)).1.lies = d.lies := by
                    by_cases h9 : (doF d (k, p, t)).2 = 0
                    · rw [(f3 h9).1]
                    · rw [f2 h9]
                  have fit1 : Fit d := HH.out.2.1.fit (by omega) (by omega)
                  have HD := Lib.hid (do_p HH.out.1 hR2 fit1 (k, p, t, at_, keep) hok)
                  unfold acV at HD
                  rw [ea] at HD
                  obtain ⟨d2, hd2⟩ : ∃ d2, (doF d (k, p, t)).1 = d2 := ⟨_, rfl⟩
                  rw [hd2] at HD f1 fl
                  have h15' : wt (k, p, t) ≤ 15000 := h15
                  have HF2 := Lib.hid (And.intro (f1.mono (n' := n0 + (j + 1)) (m' := 15000 * (n0 + (j + 1))) (by omega) (by omega)) fl)
                  clear f1 f2 f3 fl fit1 hd2 hok ea
                  simp only at HD
                  go_wp2_with fail
                  refine HD.out.mono ?_
                  rintro r w5 ⟨A5, c5, rfl, h5⟩
                  have H5 := Lib.hid h5.tail
                  clear h5 HD
                  go_wp2
                  go_roundg (l'.length - (j + 1))
                  case rel => exact ⟨j + 1, d2, by omega, rfl, by go_num, H5.out, HF2.out.1, by rw [HF2.out.2]; exact HH.out.2.2⟩
                  case measure => omega
                · go_wp2
                  go_roundg (l'.length - (j + 1))
                  case rel => exact ⟨j + 1, d, by omega, rfl, by go_num, HH.out.1, HH.out.2.1.mono (by omega) (by omega), HH.out.2.2⟩
                  case measure => omega
              · go_wp2
                go_roundg (l'.length - (j + 1))
                case rel => exact ⟨j + 1, d, by omega, rfl, by go_num, HH.out.1, HH.out.2.1.mono (by omega) (by omega), HH.out.2.2⟩
                case measure => omega
            · have h1 : ¬ (j : Int) < l'.length := by omega
              have hcut := cut_none hca
              have HAR := Lib.hid (h_arm hh hR2 1 0 (by omega) (by omega))
              have HC2 := Lib.hid (And.intro hca htk)
              have HCUT := Lib.hid hcut
              clear hh hca htk hcut
              go_wp2_with fail
              refine HAR.out.mono ?_
              rintro r wc ⟨rfl, hc⟩
              obtain ⟨d7, hd7⟩ : ∃ d7, d7 = ({ d with rows := [], down := true, at_ := 1, keep := 0, left := 0 } : Dsk) := ⟨_, rfl⟩
              have HSY := Lib.hid (show Calls Try.prog 24 #[.pointer (some ⟨b, 0, none⟩)] wc fun r w' => r = .returned (.int .i64 8) ∧ Holds w (Star (Dk b d7) R2) w' from by
                have h9 := h_sync hc hR2 (⟨by have := HC2.out.1.len; show d.lies.length + d.rows.length ≤ 1900; omega, by have := HC2.out.1.tak; show takenF d.lies + wts d.rows ≤ 500000000; omega, by show (0 : Int) ≤ 1; decide, by show (1 : Int) ≤ 9223372036854775807; decide⟩ : Fit (armF d 1 0))
                rw [HCUT.out, ← hd7] at h9
                exact h9)
              clear hc HAR
              go_wp2_with fail
              refine HSY.out.mono ?_
              rintro r wd ⟨rfl, hd⟩
              have hdsw : Holds w (Star (Dk bc dc) (Star (Dk b d7) Emp)) wd := by have h9 := hd; rw [HR2.out] at h9; exact h_swap h9
              have HDN := Lib.hid (show Calls Try.prog 21 #[.pointer (some ⟨bc, 0, none⟩)] wd fun r w' => r = .returned (.bool false) ∧ w' = wd from by have h9 := h_down hdsw ((dk_part b d7).star emp_part); rw [HDC.out.2.up] at h9; exact h9)
              obtain ⟨d8, hd8⟩ : ∃ d8, d8 = ({ d7 with down := false } : Dsk) := ⟨_, rfl⟩
              have HST := Lib.hid (show Calls Try.prog 28 #[.pointer (some ⟨b, 0, none⟩)] wd fun r w' => r = .returned (.tuple #[]) ∧ Holds w (Star (Dk b d8) R2) w' from by have h9 := h_start hd hR2; rw [← hd8] at h9; exact h9)
              have h8f : d8.down = false ∧ d8.lies = L ∧ d8.rows = [] ∧ Fit d8 := by rw [hd8, hd7]; exact ⟨rfl, HC2.out.2, rfl, ⟨by have := HC2.out.1.len; show d.lies.length + 0 ≤ 1900; omega, by have := HC2.out.1.tak; show takenF d.lies + 0 ≤ 500000000; omega, by show (0 : Int) ≤ 0; decide, by show (0 : Int) ≤ 9223372036854775807; decide⟩⟩
              have H8 := Lib.hid h8f
              clear hd hdsw HSY hd8 hd7 h8f HCUT
              go_wp2_with (go_at_call 21; refine HDN.out.mono ?_; rintro r wd ⟨rfl, rfl⟩)
              refine HST.out.mono ?_
              rintro r we ⟨rfl, he⟩
              obtain ⟨l0, hl0⟩ : ∃ l0, listF L ByteArray.empty = l0 := ⟨_, rfl⟩
              have hl8 : listD d8 ByteArray.empty = l0 := by unfold listD; rw [if_neg (by rw [H8.out.1]; decide), H8.out.2.1, H8.out.2.2.1]; exact hl0
              have hlc : listD dc ByteArray.empty = l0 := by unfold listD; rw [if_neg (by rw [HDC.out.2.up]; decide), HDC.out.1.1, HDC.out.1.2]; exact hl0
              have hll : l0.length ≤ 4000 := by rw [← hl0]; refine Nat.le_trans (listF_len _ _) ?_; have h9 := HDC.out.2.len; rw [HDC.out.1.1] at h9; omega
              have HLS := Lib.hid (show Calls Try.prog 25 #[.pointer (some ⟨b, 0, none⟩), .string ByteArray.empty] we fun r w' => ∃ A c, r = .returned (.slice A l0.length c) ∧ Holds w (Star (Rs (.slice A l0.length c) l0) (Star (Dk b d8) R2)) w' from by
                have h9 := h_list he hR2 H8.out.2.2.2 ByteArray.empty (by decide)
                rw [hl8] at h9
                exact h9)
              have HL := Lib.hid (And.intro hl0 (And.intro hlc hll))
              clear he HST HDN hl0 hl8 hlc hll
              go_wp2_with fail
              refine HLS.out.mono ?_
              rintro r wf ⟨Af, cf, rfl, hf⟩
              have hf2 : Holds w (Star (Dk bc dc) (Star (Rs (.slice Af l0.length cf) l0) (Star (Dk b d8) Emp))) wf := by rw [HR2.out] at hf; exact hf.imp imp3
              have hPr : Part (Star (Rs (.slice Af l0.length cf) l0) (Star (Dk b d8) Emp)) := (rs_part _ _).star ((dk_part b d8).star emp_part)
              have HLC := Lib.hid (show Calls Try.prog 25 #[.pointer (some ⟨bc, 0, none⟩), .string ByteArray.empty] wf fun r w' => ∃ A c, r = .returned (.slice A l0.length c) ∧ Holds w (Star (Rs (.slice A l0.length c) l0) (Star (Dk bc dc) (Star (Rs (.slice Af l0.length cf) l0) (Star (Dk b d8) Emp)))) w' from by
                have h9 := h_list hf2 hPr (HDC.out.2.fit (by omega) (by omega)) ByteArray.empty (by decide)
                rw [HL.out.2.1] at h9
                exact h9)
              clear hf hf2 HLS
              go_wp2_with fail
              refine HLC.out.mono ?_
              rintro r wg ⟨Ag, cg, rfl, hg⟩
              have hg2 : Holds w (Star (Rs (.slice Af l0.length cf) l0) (Star (Rs (.slice Ag l0.length cg) l0) (Star (Dk bc dc) (Star (Dk b d8) Emp)))) wg := hg.imp imp3
              have HTX := Lib.hid (h_same hg2 ((dk_part bc dc).star ((dk_part b d8).star emp_part)) (by have := HL.out.2.2; omega) rfl)
              clear hg hg2 HLC hPr
              go_wp2_with fail
              refine HTX.out.mono ?_
              rintro r wh ⟨rfl, hh9⟩
              have hh8 : Holds w (Star (Rs (.slice Af l0.length cf) l0) (Star (Dk b d8) (Star (Dk bc dc) Emp))) wh := ((h_swap hh9).tail).imp (imp_tail imp_swap)
              obtain ⟨T0, hT0⟩ : ∃ T0 : Int, (takenF L : Int) = T0 := ⟨_, rfl⟩
              have HT8 := Lib.hid (show Calls Try.prog 23 #[.pointer (some ⟨b, 0, none⟩)] wh fun r w' => r = .returned (.int .i64 T0) ∧ w' = wh from by
                have h9 := h_taken (h_swap hh8) ((rs_part _ _).star ((dk_part bc dc).star emp_part))
                have h7 : (takenF (seenF d8.lies d8.rows) : Int) = T0 := by rw [H8.out.2.1, H8.out.2.2.1]; exact hT0
                rw [H8.out.1, h7] at h9
                exact h9)
              have HTC := Lib.hid (show Calls Try.prog 23 #[.pointer (some ⟨bc, 0, none⟩)] wh fun r w' => r = .returned (.int .i64 T0) ∧ w' = wh from by
                have h9 := h_taken (hh8.imp imp3) ((rs_part _ _).star ((dk_part b d8).star emp_part))
                have h7 : (takenF (seenF dc.lies dc.rows) : Int) = T0 := by rw [HDC.out.1.1, HDC.out.1.2]; exact hT0
                rw [HDC.out.2.up, h7] at h9
                exact h9)
              have HH8 := Lib.hid hh8
              clear hh9 hh8 HTX hT0
              go_wp2_with fail
              refine HT8.out.mono ?_
              rintro r wh ⟨rfl, rfl⟩
              go_wp2_with fail
              refine HTC.out.mono ?_
              rintro r wh ⟨rfl, rfl⟩
              clear HT8 HTC
              go_wp2
              go_loopg [11] l0.length (fun g i wr => ∃ j : Nat, j ≤ l0.length ∧ g = l0.length - j ∧ i = .int .i64 j ∧ Holds w (Star (Rs (.slice Af l0.length cf) l0) (Star (Dk b d8) (Star (Dk bc dc) Emp))) wr)
              case atStart => exact ⟨0, Nat.zero_le _, rfl, rfl, HH8.out⟩
              case round =>
                obtain ⟨q, hq, rfl, rfl, hi⟩ := hrel
                by_cases hlt : q < l0.length
                · have h1 : (q : Int) < l0.length := by omega
                  have hj0 : (0 : Int) ≤ q := by omega
                  have hq4 : q ≤ 4000 := by have := HL.out.2.2; omega
                  obtain ⟨ad, rfl, hB1, hcc⟩ := (rs_reads hi).2 q hlt
                  obtain ⟨x, hx⟩ : ∃ x, l0.getD q default = x := ⟨_, rfl⟩
                  have hcell : ∀ (R9 : List Nat → World → Prop) (w9 : World), Holds w (Star (Rs (.slice (some ad) l0.length cf) l0) R9) w9 → w9.cell? (ad.add q) = some (.string x) := fun R9 w9 h9 => by
                    obtain ⟨ad', ea, _, hc9⟩ := (rs_reads h9).2 q hlt
                    have h8 := hc9 0 (by omega)
                    injection ea with ea
                    rw [hx, ← ea, add_add, Nat.mul_one, Nat.add_zero] at h8
                    exact h8
                  have e0 := hcell _ _ hi
                  have hmem : l0.getD q default ∈ l0 := by rw [List.getD_eq_getElem?_getD, List.getElem?_eq_getElem hlt]; simp
                  have hfn : (findF L (l0.getD q default)).isSome = true := list_found (by rw [HL.out.1]; exact hmem)
                  have hpz := HDC.out.2.path (l0.getD q default) (by show (findF (seenF dc.lies dc.rows) _).isSome = true; rw [HDC.out.1.1, HDC.out.1.2]; exact hfn)
                  rw [hx] at hfn hpz hmem
                  have hxm : x.size ≤ maxLen := by unfold maxLen; omega
                  obtain ⟨y, hy⟩ : ∃ y, findF L x = some y := Option.isSome_iff_exists.1 hfn
                  have HR8 := Lib.hid (show Calls Try.prog 26 #[.pointer (some ⟨b, 0, none⟩), .string x] wr fun r w' => r = .returned (.tuple #[.string y, .int .i64 0]) ∧ Holds w (Star (Dk b d8) (Star (Rs (.slice (some ad) l0.length cf) l0) (Star (Dk bc dc) Emp))) w' from by
                    have h9 := h_read (h_swap hi) ((rs_part _ _).star ((dk_part bc dc).star emp_part)) x hxm
                    have h7 : findF (seenF d8.lies d8.rows) x = some y := by rw [H8.out.2.1, H8.out.2.2.1]; exact hy
                    rw [H8.out.1, h7] at h9
                    exact h9)
                  have HY := Lib.hid hy
                  have hsl := str_self y
                  have HCELL := Lib.hid hcell
                  clear hcc hfn hpz hmem hi hy hcell hx
                  go_wp2_with fail
                  refine HR8.out.mono ?_
                  rintro r wi ⟨rfl, hi9⟩
                  have e1 := HCELL.out _ _ (h_swap hi9)
                  have HRC := Lib.hid (show Calls Try.prog 26 #[.pointer (some ⟨bc, 0, none⟩), .string x] wi fun r w' => r = .returned (.tuple #[.string y, .int .i64 0]) ∧ Holds w (Star (Dk bc dc) (Star (Dk b d8) (Star (Rs (.slice (some ad) l0.length cf) l0) Emp))) w' from by
                    have h9 := h_read (hi9.imp imp3) ((dk_part b d8).star ((rs_part _ _).star emp_part)) x hxm
                    have h7 : findF (seenF dc.lies dc.rows) x = some y := by rw [HDC.out.1.1, HDC.out.1.2]; exact HY.out
                    rw [HDC.out.2.up, h7] at h9
                    exact h9)
                  clear hi9 HR8
                  go_wp2_with fail
                  refine HRC.out.mono ?_
                  rintro r wj ⟨rfl, hj9⟩
                  have HJ := Lib.hid (show Holds w (Star (Rs (.slice (some ad) l0.length cf) l0) (Star (Dk b d8) (Star (Dk bc dc) Emp))) wj from (hj9.imp imp3).imp (imp_tail imp_swap))
                  clear hj9 HRC
                  go_wp2
                  go_roundg (l0.length - (q + 1))
                  case rel => exact ⟨q + 1, by omega, rfl, by go_num, HJ.out⟩
                  case measure => omega
                · have h1 : ¬ (q : Int) < l0.length := by omega
                  have HB9 := Lib.hid hi.top
                  clear hi
                  go_wp2
                  go_ret
                  exact ⟨rfl, HB9.out⟩
    · have hsd' : decide (sumF l' ≤ 300) = false := decide_eq_false hs'
      simp only [hsd']
      go_wp2
      go_ret
      exact ⟨rfl, HB3.out⟩
  · have hsd : decide (sumF l ≤ 300) = false := decide_eq_false hs
    simp only [hsd]
    go_wp2
    go_ret
    exact ⟨rfl, HB2.out⟩

theorem own : ownKnob Try.prog.godebug = none := by kernel_rfl

set_option maxRecDepth 100000 in
theorem lifted (os : Os) (started : os.Started) (H : Type) (enc : TypeId × Value → H) :
    ReturnsInHanded {} Try.checked os 5 .any (Rows.diskSyncedSpec.pre6 enc Try.prog Try.f5 Rows.diskSyncedRow.domain false) (Rows.diskSyncedSpec.post enc Try.prog Try.f5 false true false false) := by
  refine returnsInHanded_of_change_sized (C := Try.checked) own started (by kernel_rfl) Try.func5
    (ChangeSpec.witness6 (enc := enc) (C := Try.checked) false ⟨#[], #[.slice none 0 0, .slice none 0 0], []⟩ 8 (by kernel_rfl) (by kernel_rfl) (by kernel_rfl) (by kernel_rfl)) ?_
  intro W base args ds gs before hval0 hW hcnd hsz _
  have hval : ∀ (j : Nat) t v, Try.f5.params[j]? = some t → args[j]? = some v → Value.okWide Try.prog W .any base t v := hval0
  have hW' := hW
  obtain ⟨p, q, hA0, hV, rfl, hfz, hnd⟩ := hW
  have hA : DataW.TrodAll enc Try.prog W 0 (fun _ => true) true Try.f5.params.toList args.toList ds p := hA0
  rw [Try.params5] at hA hval hsz
  obtain ⟨v0, vs0, d0, ds0, p0, q0, hargs, rfl, rfl, h0, r0⟩ := trodAll_cons hA
  obtain ⟨v1, vs1, d1, ds1, p1, q1, rfl, rfl, rfl, h1, r1⟩ := trodAll_cons r0
  obtain ⟨rfl, rfl, rfl⟩ := trodAll_nil r1
  obtain rfl : args = #[v0, v1] := by cases args; simp_all
  obtain ⟨rfl, rfl⟩ := trodVars_none hV
  have hz0 : ∀ n ∈ d0.weights Try.prog 22, n ≤ reachBytes := fun n hn => of_decide_eq_true (List.all_eq_true.1 hsz n (DataW.weights_mem_each (j := 0) rfl rfl n hn))
  have hz1 : ∀ n ∈ d1.weights Try.prog 22, n ≤ reachBytes := fun n hn => of_decide_eq_true (List.all_eq_true.1 hsz n (DataW.weights_mem_each (j := 1) rfl rfl n hn))
  obtain ⟨A0, l0, c0, rfl, hr0, hw0⟩ := Hk.open_acts (hval 0 22 v0 rfl rfl) h0 hz0
  obtain ⟨A1, l1, c1, rfl, hr1, hw1⟩ := Hk.open_acts (hval 1 22 v1 rfl rfl) h1 hz1
  clear hA0 hval0
  refine (walk A0 c0 l0 A1 c1 l1 W hr0 hw0 hr1 hw1).mono fun e W' ⟨he, hg⟩ => ?_
  subst he
  exact ⟨_, rfl, law_post Try.laid (by kernel_rfl) (by kernel_rfl) Try.underlying4 rfl rfl hW' hg⟩

theorem over : Rows.diskSyncedRow.holds Try.pinned (OpenSpec.ofChange Rows.diskSyncedSpec) :=
  OpenClaim.holds_of_wide 5 Try.f5 rfl rfl rfl rfl rfl rfl rfl ⟨rfl, rfl, rfl, rfl, rfl⟩ rfl rfl rfl rfl rfl (by kernel_rfl) Try.func5 (by kernel_rfl)
    (of_decide_eq_true (by kernel_rfl)) (by unfold Func.isWrapper; first | (rw [if_pos (by decide +kernel)]; kernel_rfl) | (rw [if_neg (by decide +kernel)]; exact ⟨rfl, rfl⟩))
    (fun os started H enc _ => lifted os started H enc)
end Go.Proofs.Ytdgfbpkpfmdjjaa.diskSynced

namespace Go.Proofs.Ytdgfbpkpfmdjjaa
theorem diskSynced_holds : Rows.DiskSyncedSaid := diskSynced.over
end Go.Proofs.Ytdgfbpkpfmdjjaa
