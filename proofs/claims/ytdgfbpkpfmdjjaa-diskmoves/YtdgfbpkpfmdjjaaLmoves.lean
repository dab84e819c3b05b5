/-
  Proved: DiskMoves returns true for every row of calls, every two paths and every text, and changes nothing that was there.
  Conditions: none beside the row's own.
-/
import Derived.Test.YtdgfbpkpfmdjjaaKt
import Derived.Test.YtdgfbpkpfmdjjaaP
namespace Go.Proofs.Ytdgfbpkpfmdjjaa.diskMoves
open Go.ChangeShapes Go.WideShapes Go.ChangeAt Go.RowKit Hr Hw Ht Hk
open Go.ChangeMaps (open_string)
set_option linter.unusedVariables false

theorem room_act {room : Int} {j m : Nat} {d : Dsk} (h : Hk.Calm room j m d) (ht : (takenF (sn d) : Int) ≤ room) (k : Int) (p t : ByteArray) (at_ keep : Int) (hz : p.size + t.size ≤ 15000) (h1 : 1 ≤ k) (h4 : k ≤ 4) :
    Hk.Calm room (j + 1) (m + 15000) (actF d (k, p, t, at_, keep)) ∧ (takenF (sn (actF d (k, p, t, at_, keep))) : Int) ≤ room ∧ (actE d (k, p, t, at_, keep) = 7 → actF d (k, p, t, at_, keep) = d ∧ k ≤ 2) ∧ (k = 3 → actE d (k, p, t, at_, keep) = 0 → takenF (sn (actF d (k, p, t, at_, keep))) < takenF (sn d)) := by
  by_cases hk4 : k = 4
  · subst hk4
    have e1 : actF d (4, p, t, at_, keep) = (syncF d).1 := by simp [actF]
    have e2 : actE d (4, p, t, at_, keep) = (syncF d).2 := by simp [actE]
    have hc := calm_synced h
    rw [e1, e2]
    refine ⟨hc.1.mono (by omega) (by omega), by rw [hc.2]; exact ht, fun h9 => ?_, fun h9 => by omega⟩
    rw [calm_sync h] at h9
    cases h9
  · have hk : k = 1 ∨ k = 2 ∨ k = 3 := by omega
    have e1 : actF d (k, p, t, at_, keep) = (doF d (k, p, t)).1 := by simp [actF, hk]
    have e2 : actE d (k, p, t, at_, keep) = (doF d (k, p, t)).2 := by simp [actE, hk]
    have hc := calm_eff h (k, p, t)
    have hr := room_eff h ht k hk p t
    rw [e1, e2]
    have hw : wt (k, p, t) = p.size + t.size := rfl
    refine ⟨hc.1.mono (by omega) (by omega), hr.1, fun h9 => ⟨hc.2.1 (by omega), ?_⟩, hr.2⟩
    have := hc.2.2.2 h9
    simp only at this
    omega

set_option maxHeartbeats 8000000 in
set_option maxRecDepth 100000 in
theorem walk (A : Option Addr) (c : Nat) (l : List Ac) (pa pb tx : ByteArray) (w : World) (hr : Acs w w.heap.size A l) (hz : ∀ a ∈ l, AcOk a) (hpa : pa.size ≤ maxLen) (hpb : pb.size ≤ maxLen) (htx : tx.size ≤ maxLen) :
    Calls Try.prog 6 #[.slice A l.length c, .string pa, .string pb, .string tx] w fun e w' => e = .returned (.bool true) ∧ Below w.heap.size w w' := by
  have HP := Lib.hid hr
  have HZ := Lib.hid hz
  clear hr hz
  go_enter Try.func6, Try.ntmps6
  go_wp2_with fail
  refine (awake_any w).mono ?_
  rintro r w1 ⟨rfl, hb1⟩
  have HF := Lib.hid (few_any w1 A c l w.heap.size (HP.out.below hb1) hb1.size HZ.out)
  have HB1 := Lib.hid hb1
  clear hb1
  go_wp2_with fail
  refine HF.out.mono ?_
  rintro r w2 ⟨rfl, hb2⟩
  have hb02 := HB1.out.trans (hb2.mono HB1.out.size)
  have HB2 := Lib.hid hb02
  clear HB1 hb2 hb02 HF
  by_cases hs : sumF l ≤ 300
  · have hsd : decide (sumF l ≤ 300) = true := decide_eq_true hs
    by_cases g1 : (300 : Int) < pa.size
    · simp only [hsd]
      go_wp2
      go_ret
      exact ⟨rfl, HB2.out⟩
    · by_cases g2 : (300 : Int) < pb.size
      · simp only [hsd]
        go_wp2
        go_ret
        exact ⟨rfl, HB2.out⟩
      · by_cases g3 : (1000 : Int) < tx.size
        · simp only [hsd]
          go_wp2
          go_ret
          exact ⟨rfl, HB2.out⟩
        · have HN := Lib.hid (h_new ((holds_start w).below emp_part HB2.out) emp_part 1048576 (by omega) (by omega))
          simp only [hsd]
          go_wp2_with fail
          refine HN.out.mono ?_
          rintro r w3 ⟨b, rfl, h3⟩
          have H3 := Lib.hid h3
          have hln := len_sum l
          clear h3 HN HB2
          go_wp2
          go_loopg [11] l.length (fun g i wr => ∃ (j : Nat) (d : Dsk), j ≤ l.length ∧ g = l.length - j ∧ i = .int .i64 j ∧ Holds w (Star (Dk b d) Emp) wr ∧ Hk.Calm 1048576 j (15000 * j) d ∧ (takenF (sn d) : Int) ≤ 1048576)
          case atStart => exact ⟨0, newD 1048576, Nat.zero_le _, rfl, rfl, H3.out, calm_new 1048576, by decide⟩
          case round =>
            obtain ⟨j, d, hj, rfl, rfl, hh, hca, htk⟩ := hrel
            by_cases hlt : j < l.length
            · have h1 : (j : Int) < l.length := by omega
              have hj0 : (0 : Int) ≤ j := by omega
              obtain ⟨ad, rfl, hB1, hcc⟩ := (HP.out.below hh.top) j hlt
              obtain ⟨hok, h15⟩ := act_ok hlt hs HZ.out
              obtain ⟨a, ha⟩ : ∃ a, l.getD j default = a := ⟨_, rfl⟩
              rw [ha] at hcc hok h15
              obtain ⟨k, p, t, at_, keep⟩ := a
              have e0 : wr.cell? (ad.add (j * 5)) = some (.int .i64 k) := hcc 0 (by omega)
              have e1 : wr.cell? ⟨(ad.add (j * 5)).block, (ad.add (j * 5)).off + 1, none⟩ = some (.string p) := hcc 1 (by omega)
              have e2 : wr.cell? ⟨(ad.add (j * 5)).block, (ad.add (j * 5)).off + 2, none⟩ = some (.string t) := hcc 2 (by omega)
              have e3 : wr.cell? ⟨(ad.add (j * 5)).block, (ad.add (j * 5)).off + 3, none⟩ = some (.int .i64 at_) := hcc 3 (by omega)
              have e4 : wr.cell? ⟨(ad.add (j * 5)).block, (ad.add (j * 5)).off + 4, none⟩ = some (.int .u64 keep) := hcc 4 (by omega)
              have HH := Lib.hid (And.intro hh (And.intro hca htk))
              clear hcc ha hh hca htk
              by_cases hk1 : 1 ≤ k
              · by_cases hk4 : k ≤ 4
                · obtain ⟨f1, f2, -, -⟩ := room_act HH.out.2.1 HH.out.2.2 k p t at_ keep h15 hk1 hk4
                  have fit1 : Fit d := HH.out.2.1.fit (by omega) (by omega)
                  have HD := Lib.hid (do_p HH.out.1 emp_part fit1 (k, p, t, at_, keep) hok)
                  unfold acV at HD
                  obtain ⟨d2, hd2⟩ : ∃ d2, actF d (k, p, t, at_, keep) = d2 := ⟨_, rfl⟩
                  rw [hd2] at HD f1 f2
                  have HF2 := Lib.hid (And.intro f1 f2)
                  clear f1 f2 fit1 hd2 hok
                  simp only at HD
                  go_wp2_with fail
                  refine HD.out.mono ?_
                  rintro r w5 ⟨A5, c5, rfl, h5⟩
                  have H5 := Lib.hid h5.tail
                  clear h5 HD
                  go_wp2
                  go_roundg (l.length - (j + 1))
                  case rel => exact ⟨j + 1, d2, by omega, rfl, by go_num, H5.out, HF2.out.1.mono (by omega) (by omega), HF2.out.2⟩
                  case measure => omega
                · go_wp2
                  go_roundg (l.length - (j + 1))
                  case rel => exact ⟨j + 1, d, by omega, rfl, by go_num, HH.out.1, HH.out.2.1.mono (by omega) (by omega), HH.out.2.2⟩
                  case measure => omega
              · go_wp2
                go_roundg (l.length - (j + 1))
                case rel => exact ⟨j + 1, d, by omega, rfl, by go_num, HH.out.1, HH.out.2.1.mono (by omega) (by omega), HH.out.2.2⟩
                case measure => omega
            · have h1 : ¬ (j : Int) < l.length := by omega
              have HCA := Lib.hid hca
              have HTK := Lib.hid htk
              obtain ⟨l0, hl0⟩ : ∃ l0, listD d ByteArray.empty = l0 := ⟨_, rfl⟩
              have HL0 := Lib.hid hl0
              have HLL := Lib.hid (show l0.length ≤ 4000 from by rw [← hl0]; unfold listD; rw [if_neg (by rw [hca.up]; decide)]; exact Nat.le_trans (listF_len _ _) (Nat.le_trans (calm_len hca) (by omega)))
              have HLS := Lib.hid (show Calls Try.prog 25 #[.pointer (some ⟨b, 0, none⟩), .string ByteArray.empty] wr fun r w' => ∃ A c, r = .returned (.slice A l0.length c) ∧ Holds w (Star (Rs (.slice A l0.length c) l0) (Star (Dk b d) Emp)) w' from by
                have h9 := h_list hh emp_part (hca.fit (by omega) (by omega)) ByteArray.empty (by decide)
                rw [hl0] at h9
                exact h9)
              clear hh hca htk hl0
              go_wp2_with fail
              refine HLS.out.mono ?_
              rintro r wa ⟨Aw, cw, rfl, ha⟩
              obtain ⟨RS, hRSe⟩ : ∃ RS, RS = Star (Rs (.slice Aw l0.length cw) l0) Emp := ⟨_, rfl⟩
              have hRS : Part RS := by rw [hRSe]; exact (rs_part _ _).star emp_part
              have HA := Lib.hid (show Holds w (Star (Dk b d) RS) wa from by rw [hRSe]; exact h_swap ha)
              obtain ⟨T0, hT0⟩ : ∃ T0 : Int, (takenF (sn d) : Int) = T0 := ⟨_, rfl⟩
              have HTT := Lib.hid hT0
              have HRSE := Lib.hid hRSe
              clear ha HLS hT0 hRSe
              have HQHT1 := Lib.hid (show (takenF (seenF d.lies d.rows) : Int) = T0 from by exact HTT.out)
              have HT1 := Lib.hid (show Calls Try.prog 23 #[.pointer (some ⟨b, 0, none⟩)] wa fun r w' => r = .returned (.int .i64 T0) ∧ w' = wa from by have h9 := h_taken HA.out hRS; rw [HCA.out.up, HQHT1.out] at h9; exact h9)
              go_wp2_with fail
              refine HT1.out.mono ?_
              rintro r wa ⟨rfl, rfl⟩
              clear HT1
              cases hfa : findF (sn d) pa with
              | none =>
                have HFA := Lib.hid hfa
                clear hfa
                have HR1 := Lib.hid (show Calls Try.prog 26 #[.pointer (some ⟨b, 0, none⟩), .string pa] wa fun r w' => r = .returned (.tuple #[.string ByteArray.empty, .int .i64 5]) ∧ Holds w (Star (Dk b d) RS) w' from by
                  have h9 := h_read HA.out hRS pa hpa
                  rw [HCA.out.up] at h9
                  have h8 : findF (seenF (d).lies (d).rows) pa = none := HFA.out
                  rw [h8] at h9
                  exact h9)
                go_wp2_with fail
                refine HR1.out.mono ?_
                rintro r wb ⟨rfl, hb⟩
                have HB := Lib.hid hb
                clear hb HR1 HA
                have hsz : wt (1, pa, tx) ≤ 1000000 := by show pa.size + tx.size ≤ 1000000; omega
                have hpb2 : ∃ o, findF (sn d) pb = o := ⟨_, rfl⟩
                obtain ⟨o, ho⟩ := hpb2
                obtain ⟨X2, hX2⟩ : ∃ X2, texOf o = X2 := ⟨_, rfl⟩
                obtain ⟨C2, hC2⟩ : ∃ C2 : Int, (if o.isSome then (0 : Int) else 5) = C2 := ⟨_, rfl⟩
                have HR2 := Lib.hid (show Calls Try.prog 26 #[.pointer (some ⟨b, 0, none⟩), .string pb] wb fun r w' => r = .returned (.tuple #[.string X2, .int .i64 C2]) ∧ Holds w (Star (Dk b d) RS) w' from by
                  have h9 := h_read HB.out hRS pb hpb
                  rw [HCA.out.up] at h9
                  have h8 : findF (seenF d.lies d.rows) pb = o := ho
                  rw [h8, hX2] at h9
                  have h7 : ∀ Y : Int, (if false = true then 8 else Y) = Y := fun Y => if_neg (by decide)
                  rw [h7, hC2] at h9
                  exact h9)
                clear ho hX2 hC2
                go_wp2_with fail
                refine HR2.out.mono ?_
                rintro r wc ⟨rfl, hc⟩
                have HCc := Lib.hid hc
                clear hc HR2 HB
                obtain ⟨f1, f2, f3, -⟩ := calm_eff HCA.out (1, pa, tx)
                have HW := Lib.hid (h_write HCc.out hRS (HCA.out.fit (by omega) (by omega)) pa tx hsz)
                obtain ⟨E1, hE1⟩ : ∃ E1, (doF d (1, pa, tx)).2 = E1 := ⟨_, rfl⟩
                rw [hE1] at HW f2 f3
                obtain ⟨d1, hd1⟩ : ∃ d1, (doF d (1, pa, tx)).1 = d1 := ⟨_, rfl⟩
                rw [hd1] at HW f1 f2 f3
                clear hE1 hd1 HCc
                by_cases h0 : E1 = 0
                · subst h0
                  obtain ⟨e1, e2, e3, e4⟩ := f3 rfl
                  have hpb9 := put_back (t := tx) (x := ByteArray.empty) HCA.out.srise HFA.out
                  have hs1 : sn d1 = doneF (sn d) (1, pa, tx) := by rw [e1, sn_snoc]
                  have HC1 := Lib.hid f1
                  have HS1 := Lib.hid (And.intro hs1 hpb9)
                  have hrm : doF d1 (3, pa, ByteArray.empty) = ({ d1 with rows := d1.rows ++ [(3, pa, ByteArray.empty)] }, 0) := calm_go f1 _ rfl (by show (decide ((3 : Int) ≠ 1) && !(findF (sn d1) pa).isSome) = false; rw [hs1, hpb9.2.1]; rfl) (by omega) (by rw [hs1, hpb9.1]; exact HTK.out)
                  have HRM := Lib.hid hrm
                  have hT1 : IntKind.i64.wrap (T0 + pa.size) = T0 + pa.size := by rw [IntKind.wrap_i64]; have h9 := HTT.out; have h8 := HTK.out; omega
                  have hT2 : IntKind.i64.wrap (T0 + pa.size + tx.size) = T0 + pa.size + tx.size := by rw [IntKind.wrap_i64]; have h9 := HTT.out; have h8 := HTK.out; omega
                  have hsl := str_self tx
                  clear f1 f2 f3 e1 e2 e3 e4 hpb9 hs1 hrm
                  go_wp2_with fail
                  refine HW.out.mono ?_
                  rintro r wd ⟨rfl, hd⟩
                  have HDd := Lib.hid hd
                  clear hd HW
                  have HR3 := Lib.hid (show Calls Try.prog 26 #[.pointer (some ⟨b, 0, none⟩), .string pa] wd fun r w' => r = .returned (.tuple #[.string tx, .int .i64 0]) ∧ Holds w (Star (Dk b d1) RS) w' from by
                    have h9 := h_read HDd.out hRS pa hpa
                    rw [HC1.out.up] at h9
                    have h8 : findF (seenF (d1).lies (d1).rows) pa = some tx := (congrArg (fun l => findF l pa) HS1.out.1).trans HS1.out.2.2.1
                    rw [h8] at h9
                    exact h9)
                  go_wp2_with fail
                  refine HR3.out.mono ?_
                  rintro r we ⟨rfl, he⟩
                  have HEe := Lib.hid he
                  clear he HR3 HDd
                  have HQHT3 := Lib.hid (show (takenF (seenF d1.lies d1.rows) : Int) = (T0 + pa.size + tx.size) from by rw [← HTT.out]; have h6 : takenF (sn d1) = takenF (sn d) + pa.size + tx.size := (by rw [HS1.out.1]; exact HS1.out.2.2.2); show (takenF (sn d1) : Int) = _; omega)
                  have HT3 := Lib.hid (show Calls Try.prog 23 #[.pointer (some ⟨b, 0, none⟩)] we fun r w' => r = .returned (.int .i64 (T0 + pa.size + tx.size)) ∧ w' = we from by have h9 := h_taken HEe.out hRS; rw [HC1.out.up, HQHT3.out] at h9; exact h9)
                  go_wp2_with fail
                  refine HT3.out.mono ?_
                  rintro r we ⟨rfl, rfl⟩
                  obtain ⟨d9, hd9⟩ : ∃ d9, d9 = ({ d1 with rows := d1.rows ++ [(3, pa, ByteArray.empty)] } : Dsk) := ⟨_, rfl⟩
                  have HRV := Lib.hid (show Calls Try.prog 32 #[.pointer (some ⟨b, 0, none⟩), .string pa] we fun r w' => r = .returned (.int .i64 0) ∧ Holds w (Star (Dk b d9) RS) w' from by
                    have h9 := h_remove HEe.out hRS (HC1.out.fit (by omega) (by show 15000 * j + (pa.size + tx.size) ≤ 500000000; omega)) pa ByteArray.empty (by show pa.size + 0 ≤ 1000000; omega)
                    rw [HRM.out, ← hd9] at h9
                    exact h9)
                  have HC9 := Lib.hid (show Hk.Calm 1048576 400 (15000 * 400) d9 from by rw [hd9]; exact (calm_snoc HC1.out _ rfl).mono (by omega) (by show 15000 * j + (pa.size + tx.size) + (pa.size + 0) ≤ _; omega))
                  have HS9 := Lib.hid (show sn d9 = sn d from by rw [hd9, sn_snoc, HS1.out.1]; exact HS1.out.2.1)
                  clear hd9 HT3 HRM
                  go_wp2_with fail
                  refine HRV.out.mono ?_
                  rintro r wf ⟨rfl, hf9⟩
                  have HD9 := Lib.hid hf9
                  clear hf9 HRV HEe hT1 hT2
                  have HR9 := Lib.hid (show Calls Try.prog 26 #[.pointer (some ⟨b, 0, none⟩), .string pa] wf fun r w' => r = .returned (.tuple #[.string ByteArray.empty, .int .i64 5]) ∧ Holds w (Star (Dk b d9) RS) w' from by
                    have h9 := h_read HD9.out hRS pa hpa
                    rw [HC9.out.up] at h9
                    have h8 : findF (seenF (d9).lies (d9).rows) pa = none := (congrArg (fun l => findF l pa) HS9.out).trans HFA.out
                    rw [h8] at h9
                    exact h9)
                  go_wp2_with fail
                  refine HR9.out.mono ?_
                  rintro r wy ⟨rfl, hy⟩
                  have hL9 : listD d9 ByteArray.empty = l0 := by rw [← HL0.out]; unfold listD; rw [if_neg (by rw [HC9.out.up]; decide), if_neg (by rw [HCA.out.up]; decide)]; show listF (sn d9) _ = listF (sn d) _; rw [HS9.out]
                  have HLS := Lib.hid (show Calls Try.prog 25 #[.pointer (some ⟨b, 0, none⟩), .string ByteArray.empty] wy fun r w' => ∃ A c, r = .returned (.slice A l0.length c) ∧ Holds w (Star (Rs (.slice A l0.length c) l0) (Star (Dk b d9) RS)) w' from by
                    have h9 := h_list hy hRS (HC9.out.fit (by omega) (by omega)) ByteArray.empty (by decide)
                    rw [hL9] at h9
                    exact h9)
                  clear hy hL9 HR9
                  go_wp2_with fail
                  refine HLS.out.mono ?_
                  rintro r wz ⟨Az, cz, rfl, hz9⟩
                  have hz8 : Holds w (Star (Rs (.slice Az l0.length cz) l0) (Star (Rs (.slice Aw l0.length cw) l0) (Star (Dk b d9) Emp))) wz := by rw [HRSE.out] at hz9; exact hz9.imp (imp_tail imp_swap)
                  have HTX := Lib.hid (h_same hz8 ((dk_part b d9).star emp_part) (by have := HLL.out; omega) rfl)
                  clear hz9 hz8 HLS
                  go_wp2_with fail
                  refine HTX.out.mono ?_
                  rintro r wt ⟨rfl, ht9⟩
                  have HDT := Lib.hid (show Holds w (Star (Dk b d9) RS) wt from by rw [HRSE.out]; exact (ht9.tail).imp imp_swap)
                  have HQHT9 := Lib.hid (show (takenF (seenF d9.lies d9.rows) : Int) = T0 from by rw [← HTT.out, ← HS9.out]; rfl)
                  have HT9 := Lib.hid (show Calls Try.prog 23 #[.pointer (some ⟨b, 0, none⟩)] wt fun r w' => r = .returned (.int .i64 T0) ∧ w' = wt from by have h9 := h_taken HDT.out hRS; rw [HC9.out.up, HQHT9.out] at h9; exact h9)
                  have HB9 := Lib.hid ht9.top
                  clear ht9 HTX
                  have hsl := str_self ByteArray.empty
                  go_wp2_with (go_at_call 23; refine HT9.out.mono ?_; rintro r wt ⟨rfl, rfl⟩)
                  go_ret
                  exact ⟨rfl, HB9.out⟩
                · have hdd := f2 h0
                  rw [hdd] at HW
                  have h0b : (E1 == 0) = false := by simpa using h0
                  clear f1 f2 f3
                  go_wp2_with fail
                  refine HW.out.mono ?_
                  rintro r wd ⟨rfl, hd⟩
                  obtain ⟨d9, hd9⟩ : ∃ d9, d9 = d := ⟨_, rfl⟩
                  have HD9 := Lib.hid (show Holds w (Star (Dk b d9) RS) wd from by rw [hd9]; exact hd)
                  have HC9 := Lib.hid (show Hk.Calm 1048576 400 (15000 * 400) d9 from by rw [hd9]; exact HCA.out.mono (by omega) (by omega))
                  have HS9 := Lib.hid (show sn d9 = sn d from by rw [hd9])
                  clear hd9
                  clear hd HW hdd
                  have HR9 := Lib.hid (show Calls Try.prog 26 #[.pointer (some ⟨b, 0, none⟩), .string pa] wd fun r w' => r = .returned (.tuple #[.string ByteArray.empty, .int .i64 5]) ∧ Holds w (Star (Dk b d9) RS) w' from by
                    have h9 := h_read HD9.out hRS pa hpa
                    rw [HC9.out.up] at h9
                    have h8 : findF (seenF (d9).lies (d9).rows) pa = none := (congrArg (fun l => findF l pa) HS9.out).trans HFA.out
                    rw [h8] at h9
                    exact h9)
                  go_wp2_with fail
                  refine HR9.out.mono ?_
                  rintro r wy ⟨rfl, hy⟩
                  have hL9 : listD d9 ByteArray.empty = l0 := by rw [← HL0.out]; unfold listD; rw [if_neg (by rw [HC9.out.up]; decide), if_neg (by rw [HCA.out.up]; decide)]; show listF (sn d9) _ = listF (sn d) _; rw [HS9.out]
                  have HLS := Lib.hid (show Calls Try.prog 25 #[.pointer (some ⟨b, 0, none⟩), .string ByteArray.empty] wy fun r w' => ∃ A c, r = .returned (.slice A l0.length c) ∧ Holds w (Star (Rs (.slice A l0.length c) l0) (Star (Dk b d9) RS)) w' from by
                    have h9 := h_list hy hRS (HC9.out.fit (by omega) (by omega)) ByteArray.empty (by decide)
                    rw [hL9] at h9
                    exact h9)
                  clear hy hL9 HR9
                  go_wp2_with fail
                  refine HLS.out.mono ?_
                  rintro r wz ⟨Az, cz, rfl, hz9⟩
                  have hz8 : Holds w (Star (Rs (.slice Az l0.length cz) l0) (Star (Rs (.slice Aw l0.length cw) l0) (Star (Dk b d9) Emp))) wz := by rw [HRSE.out] at hz9; exact hz9.imp (imp_tail imp_swap)
                  have HTX := Lib.hid (h_same hz8 ((dk_part b d9).star emp_part) (by have := HLL.out; omega) rfl)
                  clear hz9 hz8 HLS
                  go_wp2_with fail
                  refine HTX.out.mono ?_
                  rintro r wt ⟨rfl, ht9⟩
                  have HDT := Lib.hid (show Holds w (Star (Dk b d9) RS) wt from by rw [HRSE.out]; exact (ht9.tail).imp imp_swap)
                  have HQHT9 := Lib.hid (show (takenF (seenF d9.lies d9.rows) : Int) = T0 from by rw [← HTT.out, ← HS9.out]; rfl)
                  have HT9 := Lib.hid (show Calls Try.prog 23 #[.pointer (some ⟨b, 0, none⟩)] wt fun r w' => r = .returned (.int .i64 T0) ∧ w' = wt from by have h9 := h_taken HDT.out hRS; rw [HC9.out.up, HQHT9.out] at h9; exact h9)
                  have HB9 := Lib.hid ht9.top
                  clear ht9 HTX
                  have hsl := str_self ByteArray.empty
                  go_wp2_with (go_at_call 23; refine HT9.out.mono ?_; rintro r wt ⟨rfl, rfl⟩)
                  go_ret
                  exact ⟨rfl, HB9.out⟩
              | some u =>
                have HFA := Lib.hid hfa
                clear hfa
                have HR1 := Lib.hid (show Calls Try.prog 26 #[.pointer (some ⟨b, 0, none⟩), .string pa] wa fun r w' => r = .returned (.tuple #[.string u, .int .i64 0]) ∧ Holds w (Star (Dk b d) RS) w' from by
                  have h9 := h_read HA.out hRS pa hpa
                  rw [HCA.out.up] at h9
                  have h8 : findF (seenF (d).lies (d).rows) pa = some u := HFA.out
                  rw [h8] at h9
                  exact h9)
                go_wp2_with fail
                refine HR1.out.mono ?_
                rintro r wb ⟨rfl, hb⟩
                have HB := Lib.hid hb
                clear hb HR1 HA
                cases hfb : findF (sn d) pb with
                | some v =>
                  have HFB := Lib.hid hfb
                  clear hfb
                  have HR2 := Lib.hid (show Calls Try.prog 26 #[.pointer (some ⟨b, 0, none⟩), .string pb] wb fun r w' => r = .returned (.tuple #[.string v, .int .i64 0]) ∧ Holds w (Star (Dk b d) RS) w' from by
                    have h9 := h_read HB.out hRS pb hpb
                    rw [HCA.out.up] at h9
                    have h8 : findF (seenF (d).lies (d).rows) pb = some v := HFB.out
                    rw [h8] at h9
                    exact h9)
                  go_wp2_with fail
                  refine HR2.out.mono ?_
                  rintro r wc ⟨rfl, hc⟩
                  have HCc := Lib.hid hc
                  clear hc HR2 HB
                  obtain ⟨d9, hd9⟩ : ∃ d9, d9 = d := ⟨_, rfl⟩
                  have HD9 := Lib.hid (show Holds w (Star (Dk b d9) RS) wc from by rw [hd9]; exact HCc.out)
                  have HC9 := Lib.hid (show Hk.Calm 1048576 400 (15000 * 400) d9 from by rw [hd9]; exact HCA.out.mono (by omega) (by omega))
                  have HS9 := Lib.hid (show sn d9 = sn d from by rw [hd9])
                  clear hd9
                  clear HCc
                  have HR9 := Lib.hid (show Calls Try.prog 26 #[.pointer (some ⟨b, 0, none⟩), .string pa] wc fun r w' => r = .returned (.tuple #[.string u, .int .i64 0]) ∧ Holds w (Star (Dk b d9) RS) w' from by
                    have h9 := h_read HD9.out hRS pa hpa
                    rw [HC9.out.up] at h9
                    have h8 : findF (seenF (d9).lies (d9).rows) pa = some u := (congrArg (fun l => findF l pa) HS9.out).trans HFA.out
                    rw [h8] at h9
                    exact h9)
                  go_wp2_with fail
                  refine HR9.out.mono ?_
                  rintro r wy ⟨rfl, hy⟩
                  have hL9 : listD d9 ByteArray.empty = l0 := by rw [← HL0.out]; unfold listD; rw [if_neg (by rw [HC9.out.up]; decide), if_neg (by rw [HCA.out.up]; decide)]; show listF (sn d9) _ = listF (sn d) _; rw [HS9.out]
                  have HLS := Lib.hid (show Calls Try.prog 25 #[.pointer (some ⟨b, 0, none⟩), .string ByteArray.empty] wy fun r w' => ∃ A c, r = .returned (.slice A l0.length c) ∧ Holds w (Star (Rs (.slice A l0.length c) l0) (Star (Dk b d9) RS)) w' from by
                    have h9 := h_list hy hRS (HC9.out.fit (by omega) (by omega)) ByteArray.empty (by decide)
                    rw [hL9] at h9
                    exact h9)
                  clear hy hL9 HR9
                  go_wp2_with fail
                  refine HLS.out.mono ?_
                  rintro r wz ⟨Az, cz, rfl, hz9⟩
                  have hz8 : Holds w (Star (Rs (.slice Az l0.length cz) l0) (Star (Rs (.slice Aw l0.length cw) l0) (Star (Dk b d9) Emp))) wz := by rw [HRSE.out] at hz9; exact hz9.imp (imp_tail imp_swap)
                  have HTX := Lib.hid (h_same hz8 ((dk_part b d9).star emp_part) (by have := HLL.out; omega) rfl)
                  clear hz9 hz8 HLS
                  go_wp2_with fail
                  refine HTX.out.mono ?_
                  rintro r wt ⟨rfl, ht9⟩
                  have HDT := Lib.hid (show Holds w (Star (Dk b d9) RS) wt from by rw [HRSE.out]; exact (ht9.tail).imp imp_swap)
                  have HQHT9 := Lib.hid (show (takenF (seenF d9.lies d9.rows) : Int) = T0 from by rw [← HTT.out, ← HS9.out]; rfl)
                  have HT9 := Lib.hid (show Calls Try.prog 23 #[.pointer (some ⟨b, 0, none⟩)] wt fun r w' => r = .returned (.int .i64 T0) ∧ w' = wt from by have h9 := h_taken HDT.out hRS; rw [HC9.out.up, HQHT9.out] at h9; exact h9)
                  have HB9 := Lib.hid ht9.top
                  clear ht9 HTX
                  have hsl := str_self u
                  go_wp2_with (go_at_call 23; refine HT9.out.mono ?_; rintro r wt ⟨rfl, rfl⟩)
                  go_ret
                  exact ⟨rfl, HB9.out⟩
                | none =>
                  have HFB := Lib.hid hfb
                  clear hfb
                  have HR2 := Lib.hid (show Calls Try.prog 26 #[.pointer (some ⟨b, 0, none⟩), .string pb] wb fun r w' => r = .returned (.tuple #[.string ByteArray.empty, .int .i64 5]) ∧ Holds w (Star (Dk b d) RS) w' from by
                    have h9 := h_read HB.out hRS pb hpb
                    rw [HCA.out.up] at h9
                    have h8 : findF (seenF (d).lies (d).rows) pb = none := HFB.out
                    rw [h8] at h9
                    exact h9)
                  go_wp2_with fail
                  refine HR2.out.mono ?_
                  rintro r wc ⟨rfl, hc⟩
                  have HCc := Lib.hid hc
                  clear hc HR2 HB
                  obtain ⟨f1, f2, f3, -⟩ := calm_eff HCA.out (2, pa, pb)
                  have HW := Lib.hid (h_rename HCc.out hRS (HCA.out.fit (by omega) (by omega)) pa pb (by show pa.size + pb.size ≤ 1000000; omega))
                  obtain ⟨E1, hE1⟩ : ∃ E1, (doF d (2, pa, pb)).2 = E1 := ⟨_, rfl⟩
                  rw [hE1] at HW f2 f3
                  obtain ⟨d1, hd1⟩ : ∃ d1, (doF d (2, pa, pb)).1 = d1 := ⟨_, rfl⟩
                  rw [hd1] at HW f1 f2 f3
                  clear hE1 hd1 HCc
                  by_cases h0 : E1 = 0
                  · subst h0
                    obtain ⟨e1, e2, e3, e4⟩ := f3 rfl
                    have htb := there_back HCA.out.srise HFA.out HFB.out
                    have hs1 : sn d1 = doneF (sn d) (2, pa, pb) := by rw [e1, sn_snoc]
                    have HC1 := Lib.hid f1
                    have HS1 := Lib.hid (And.intro hs1 htb)
                    have hpp : pathB pa = true := by have h9 := HCA.out.path pa (by rw [HFA.out]; rfl); unfold pathB; rw [decide_eq_true h9.1, decide_eq_true h9.2]; rfl
                    have hrm : doF d1 (2, pb, pa) = ({ d1 with rows := d1.rows ++ [(2, pb, pa)] }, 0) := calm_go f1 _ (by show (decide ((2 : Int) = 1) && !pathB pb || decide ((2 : Int) = 2) && !pathB pa) = false; rw [hpp]; rfl) (by show (decide ((2 : Int) ≠ 1) && !(findF (sn d1) pb).isSome) = false; rw [hs1, htb.2]; rfl) (by omega) (by rw [hs1, htb.1]; exact HTK.out)
                    have HRM := Lib.hid hrm
                    have hpq : badB (2, pb, pa) = false := by show (decide ((2 : Int) = 1) && !pathB pb || decide ((2 : Int) = 2) && !pathB pa) = false; rw [hpp]; rfl
                    have HPQ := Lib.hid hpq
                    have hsl := str_self u
                    clear f1 f2 f3 e1 e2 e3 e4 htb hs1 hrm hpp hpq
                    go_wp2_with fail
                    refine HW.out.mono ?_
                    rintro r wd ⟨rfl, hd⟩
                    have HDd := Lib.hid hd
                    clear hd HW
                    have HR3 := Lib.hid (show Calls Try.prog 26 #[.pointer (some ⟨b, 0, none⟩), .string pb] wd fun r w' => r = .returned (.tuple #[.string u, .int .i64 0]) ∧ Holds w (Star (Dk b d1) RS) w' from by
                      have h9 := h_read HDd.out hRS pb hpb
                      rw [HC1.out.up] at h9
                      have h8 : findF (seenF (d1).lies (d1).rows) pb = some u := (congrArg (fun l => findF l pb) HS1.out.1).trans HS1.out.2.2
                      rw [h8] at h9
                      exact h9)
                    go_wp2_with fail
                    refine HR3.out.mono ?_
                    rintro r we ⟨rfl, he⟩
                    have HEe := Lib.hid he
                    clear he HR3 HDd
                    obtain ⟨d9, hd9⟩ : ∃ d9, d9 = ({ d1 with rows := d1.rows ++ [(2, pb, pa)] } : Dsk) := ⟨_, rfl⟩
                    have HRV := Lib.hid (show Calls Try.prog 30 #[.pointer (some ⟨b, 0, none⟩), .string pb, .string pa] we fun r w' => r = .returned (.int .i64 0) ∧ Holds w (Star (Dk b d9) RS) w' from by
                      have h9 := h_rename HEe.out hRS (HC1.out.fit (by omega) (by show 15000 * j + (pa.size + pb.size) ≤ 500000000; omega)) pb pa (by show pb.size + pa.size ≤ 1000000; omega)
                      rw [HRM.out, ← hd9] at h9
                      exact h9)
                    have HC9 := Lib.hid (show Hk.Calm 1048576 400 (15000 * 400) d9 from by rw [hd9]; exact (calm_snoc HC1.out _ HPQ.out).mono (by omega) (by show 15000 * j + (pa.size + pb.size) + (pb.size + pa.size) ≤ _; omega))
                    have HS9 := Lib.hid (show sn d9 = sn d from by rw [hd9, sn_snoc, HS1.out.1]; exact HS1.out.2.1)
                    clear hd9 HRM
                    go_wp2_with fail
                    refine HRV.out.mono ?_
                    rintro r wf ⟨rfl, hf9⟩
                    have HD9 := Lib.hid hf9
                    clear hf9 HRV HEe
                    have HR9 := Lib.hid (show Calls Try.prog 26 #[.pointer (some ⟨b, 0, none⟩), .string pa] wf fun r w' => r = .returned (.tuple #[.string u, .int .i64 0]) ∧ Holds w (Star (Dk b d9) RS) w' from by
                      have h9 := h_read HD9.out hRS pa hpa
                      rw [HC9.out.up] at h9
                      have h8 : findF (seenF (d9).lies (d9).rows) pa = some u := (congrArg (fun l => findF l pa) HS9.out).trans HFA.out
                      rw [h8] at h9
                      exact h9)
                    go_wp2_with fail
                    refine HR9.out.mono ?_
                    rintro r wy ⟨rfl, hy⟩
                    have hL9 : listD d9 ByteArray.empty = l0 := by rw [← HL0.out]; unfold listD; rw [if_neg (by rw [HC9.out.up]; decide), if_neg (by rw [HCA.out.up]; decide)]; show listF (sn d9) _ = listF (sn d) _; rw [HS9.out]
                    have HLS := Lib.hid (show Calls Try.prog 25 #[.pointer (some ⟨b, 0, none⟩), .string ByteArray.empty] wy fun r w' => ∃ A c, r = .returned (.slice A l0.length c) ∧ Holds w (Star (Rs (.slice A l0.length c) l0) (Star (Dk b d9) RS)) w' from by
                      have h9 := h_list hy hRS (HC9.out.fit (by omega) (by omega)) ByteArray.empty (by decide)
                      rw [hL9] at h9
                      exact h9)
                    clear hy hL9 HR9
                    go_wp2_with fail
                    refine HLS.out.mono ?_
                    rintro r wz ⟨Az, cz, rfl, hz9⟩
                    have hz8 : Holds w (Star (Rs (.slice Az l0.length cz) l0) (Star (Rs (.slice Aw l0.length cw) l0) (Star (Dk b d9) Emp))) wz := by rw [HRSE.out] at hz9; exact hz9.imp (imp_tail imp_swap)
                    have HTX := Lib.hid (h_same hz8 ((dk_part b d9).star emp_part) (by have := HLL.out; omega) rfl)
                    clear hz9 hz8 HLS
                    go_wp2_with fail
                    refine HTX.out.mono ?_
                    rintro r wt ⟨rfl, ht9⟩
                    have HDT := Lib.hid (show Holds w (Star (Dk b d9) RS) wt from by rw [HRSE.out]; exact (ht9.tail).imp imp_swap)
                    have HQHT9 := Lib.hid (show (takenF (seenF d9.lies d9.rows) : Int) = T0 from by rw [← HTT.out, ← HS9.out]; rfl)
                    have HT9 := Lib.hid (show Calls Try.prog 23 #[.pointer (some ⟨b, 0, none⟩)] wt fun r w' => r = .returned (.int .i64 T0) ∧ w' = wt from by have h9 := h_taken HDT.out hRS; rw [HC9.out.up, HQHT9.out] at h9; exact h9)
                    have HB9 := Lib.hid ht9.top
                    clear ht9 HTX
                    have hsl := str_self u
                    go_wp2_with (go_at_call 23; refine HT9.out.mono ?_; rintro r wt ⟨rfl, rfl⟩)
                    go_ret
                    exact ⟨rfl, HB9.out⟩
                  · have hdd := f2 h0
                    rw [hdd] at HW
                    have h0b : (E1 == 0) = false := by simpa using h0
                    clear f1 f2 f3
                    go_wp2_with fail
                    refine HW.out.mono ?_
                    rintro r wd ⟨rfl, hd⟩
                    obtain ⟨d9, hd9⟩ : ∃ d9, d9 = d := ⟨_, rfl⟩
                    have HD9 := Lib.hid (show Holds w (Star (Dk b d9) RS) wd from by rw [hd9]; exact hd)
                    have HC9 := Lib.hid (show Hk.Calm 1048576 400 (15000 * 400) d9 from by rw [hd9]; exact HCA.out.mono (by omega) (by omega))
                    have HS9 := Lib.hid (show sn d9 = sn d from by rw [hd9])
                    clear hd9
                    clear hd HW hdd
                    have HR9 := Lib.hid (show Calls Try.prog 26 #[.pointer (some ⟨b, 0, none⟩), .string pa] wd fun r w' => r = .returned (.tuple #[.string u, .int .i64 0]) ∧ Holds w (Star (Dk b d9) RS) w' from by
                      have h9 := h_read HD9.out hRS pa hpa
                      rw [HC9.out.up] at h9
                      have h8 : findF (seenF (d9).lies (d9).rows) pa = some u := (congrArg (fun l => findF l pa) HS9.out).trans HFA.out
                      rw [h8] at h9
                      exact h9)
                    go_wp2_with fail
                    refine HR9.out.mono ?_
                    rintro r wy ⟨rfl, hy⟩
                    have hL9 : listD d9 ByteArray.empty = l0 := by rw [← HL0.out]; unfold listD; rw [if_neg (by rw [HC9.out.up]; decide), if_neg (by rw [HCA.out.up]; decide)]; show listF (sn d9) _ = listF (sn d) _; rw [HS9.out]
                    have HLS := Lib.hid (show Calls Try.prog 25 #[.pointer (some ⟨b, 0, none⟩), .string ByteArray.empty] wy fun r w' => ∃ A c, r = .returned (.slice A l0.length c) ∧ Holds w (Star (Rs (.slice A l0.length c) l0) (Star (Dk b d9) RS)) w' from by
                      have h9 := h_list hy hRS (HC9.out.fit (by omega) (by omega)) ByteArray.empty (by decide)
                      rw [hL9] at h9
                      exact h9)
                    clear hy hL9 HR9
                    go_wp2_with fail
                    refine HLS.out.mono ?_
                    rintro r wz ⟨Az, cz, rfl, hz9⟩
                    have hz8 : Holds w (Star (Rs (.slice Az l0.length cz) l0) (Star (Rs (.slice Aw l0.length cw) l0) (Star (Dk b d9) Emp))) wz := by rw [HRSE.out] at hz9; exact hz9.imp (imp_tail imp_swap)
                    have HTX := Lib.hid (h_same hz8 ((dk_part b d9).star emp_part) (by have := HLL.out; omega) rfl)
                    clear hz9 hz8 HLS
                    go_wp2_with fail
                    refine HTX.out.mono ?_
                    rintro r wt ⟨rfl, ht9⟩
                    have HDT := Lib.hid (show Holds w (Star (Dk b d9) RS) wt from by rw [HRSE.out]; exact (ht9.tail).imp imp_swap)
                    have HQHT9 := Lib.hid (show (takenF (seenF d9.lies d9.rows) : Int) = T0 from by rw [← HTT.out, ← HS9.out]; rfl)
                    have HT9 := Lib.hid (show Calls Try.prog 23 #[.pointer (some ⟨b, 0, none⟩)] wt fun r w' => r = .returned (.int .i64 T0) ∧ w' = wt from by have h9 := h_taken HDT.out hRS; rw [HC9.out.up, HQHT9.out] at h9; exact h9)
                    have HB9 := Lib.hid ht9.top
                    clear ht9 HTX
                    have hsl := str_self u
                    go_wp2_with (go_at_call 23; refine HT9.out.mono ?_; rintro r wt ⟨rfl, rfl⟩)
                    go_ret
                    exact ⟨rfl, HB9.out⟩
  · have hsd : decide (sumF l ≤ 300) = false := decide_eq_false hs
    simp only [hsd]
    go_wp2
    go_ret
    exact ⟨rfl, HB2.out⟩

theorem own : ownKnob Try.prog.godebug = none := by kernel_rfl

set_option maxRecDepth 100000 in
theorem lifted (os : Os) (started : os.Started) (H : Type) (enc : TypeId × Value → H) :
    ReturnsInHanded {} Try.checked os 6 .any (Rows.diskMovesSpec.pre6 enc Try.prog Try.f6 Rows.diskMovesRow.domain false) (Rows.diskMovesSpec.post enc Try.prog Try.f6 false true false false) := by
  refine returnsInHanded_of_change_sized (C := Try.checked) own started (by kernel_rfl) Try.func6
    (ChangeSpec.witness6 (enc := enc) (C := Try.checked) false ⟨#[], #[.slice none 0 0, .string ByteArray.empty, .string ByteArray.empty, .string ByteArray.empty], []⟩ 8 (by kernel_rfl) (by kernel_rfl) (by kernel_rfl) (by kernel_rfl)) ?_
  intro W base args ds gs before hval0 hW hcnd hsz _
  have hval : ∀ (j : Nat) t v, Try.f6.params[j]? = some t → args[j]? = some v → Value.okWide Try.prog W .any base t v := hval0
  have hW' := hW
  obtain ⟨p, q, hA0, hV, rfl, hfz, hnd⟩ := hW
  have hA : DataW.TrodAll enc Try.prog W 0 (fun _ => true) true Try.f6.params.toList args.toList ds p := hA0
  rw [Try.params6] at hA hval hsz
  obtain ⟨v0, vs0, d0, ds0, p0, q0, hargs, rfl, rfl, h0, r0⟩ := trodAll_cons hA
  obtain ⟨v1, vs1, d1, ds1, p1, q1, rfl, rfl, rfl, h1, r1⟩ := trodAll_cons r0
  obtain ⟨v2, vs2, d2, ds2, p2, q2, rfl, rfl, rfl, h2, r2⟩ := trodAll_cons r1
  obtain ⟨v3, vs3, d3, ds3, p3, q3, rfl, rfl, rfl, h3, r3⟩ := trodAll_cons r2
  obtain ⟨rfl, rfl, rfl⟩ := trodAll_nil r3
  obtain rfl : args = #[v0, v1, v2, v3] := by cases args; simp_all
  obtain ⟨rfl, rfl⟩ := trodVars_none hV
  have hz0 : ∀ n ∈ d0.weights Try.prog 22, n ≤ reachBytes := fun n hn => of_decide_eq_true (List.all_eq_true.1 hsz n (DataW.weights_mem_each (j := 0) rfl rfl n hn))
  obtain ⟨A0, l0, c0, rfl, hr0, hw0⟩ := Hk.open_acts (hval 0 22 v0 rfl rfl) h0 hz0
  obtain ⟨a1, rfl, rfl, rfl, w1⟩ := open_string Try.underlying9 (hval 1 9 v1 rfl rfl) h1
  obtain ⟨a2, rfl, rfl, rfl, w2⟩ := open_string Try.underlying9 (hval 2 9 v2 rfl rfl) h2
  obtain ⟨a3, rfl, rfl, rfl, w3⟩ := open_string Try.underlying9 (hval 3 9 v3 rfl rfl) h3
  clear hA0 hval0
  refine (walk A0 c0 l0 a1 a2 a3 W hr0 hw0 w1 w2 w3).mono fun e W' ⟨he, hg⟩ => ?_
  subst he
  exact ⟨_, rfl, law_post Try.laid (by kernel_rfl) (by kernel_rfl) Try.underlying4 rfl rfl hW' hg⟩

theorem over : Rows.diskMovesRow.holds Try.pinned (OpenSpec.ofChange Rows.diskMovesSpec) :=
  OpenClaim.holds_of_wide 6 Try.f6 rfl rfl rfl rfl rfl rfl rfl ⟨rfl, rfl, rfl, rfl, rfl⟩ rfl rfl rfl rfl rfl (by kernel_rfl) Try.func6 (by kernel_rfl)
    (of_decide_eq_true (by kernel_rfl)) (by unfold Func.isWrapper; first | (rw [if_pos (by decide +kernel)]; kernel_rfl) | (rw [if_neg (by decide +kernel)]; exact ⟨rfl, rfl⟩))
    (fun os started H enc _ => lifted os started H enc)
end Go.Proofs.Ytdgfbpkpfmdjjaa.diskMoves

namespace Go.Proofs.Ytdgfbpkpfmdjjaa
theorem diskMoves_holds : Rows.DiskMovesSaid := diskMoves.over
end Go.Proofs.Ytdgfbpkpfmdjjaa
