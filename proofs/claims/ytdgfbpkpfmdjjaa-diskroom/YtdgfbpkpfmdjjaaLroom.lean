/-
  Proved: DiskRoom returns true for every room and every row of calls, and changes nothing that was there.
  Conditions: none beside the row's own.
-/
import Derived.Test.YtdgfbpkpfmdjjaaKs
import Derived.Test.YtdgfbpkpfmdjjaaP
namespace Go.Proofs.Ytdgfbpkpfmdjjaa.diskRoom
open Go.ChangeShapes Go.WideShapes Go.ChangeAt Go.RowKit Hr Hw Ht Hk
open Go.ChangeMaps (open_string)
set_option linter.unusedVariables false

theorem room_act {room : Int} {j m : Nat} {d : Dsk} (h : Hk.Calm room j m d) (ht : (takenF (sn d) : Int) ≤ room) (k : Int) (p t : ByteArray) (at_ keep : Int) (hz : p.size + t.size ≤ 15000) (h1 : 1 ≤ k) (h4 : k ≤ 4) :
    Hk.Calm room (j + 1) (m + 15000) (actF d (k, p, t, at_, keep)) ∧ (takenF (sn (actF d (k, p, t, at_, keep))) : Int) ≤ room ∧ (actE d (k, p, t, at_, keep) = 7 → actF d (k, p, t, at_, keep) = d ∧ k ≤ 2) ∧ (k = 3 → actE d (k, p, t, at_, keep) = 0 → takenF (sn (actF d (k, p, t, at_, keep))) < takenF (sn d)) := by
  by_cases hk4 : k = 4
  · subst hk4
    have e1 : actF d (4, p, t, at_, keep) = (syncF d).1 := by simp [actF]
    have e2 : actE d (4, p, t, at_, keep) = (syncF d).2 := by simp [actE]
    have hc := calm_synced h
    rw [e1, e2]
    refine ⟨hc.1.mono (by omega) (by omega), by rw [hc.2]; exact ht, fun h9 => ?_, fun h9 => by omega⟩
    rw [calm_sync h] at h9
    cases h9
  · have hk : k = 1 ∨ k = 2 ∨ k = 3 := by omega
    have e1 : actF d (k, p, t, at_, keep) = (doF d (k, p, t)).1 := by simp [actF, hk]
    have e2 : actE d (k, p, t, at_, keep) = (doF d (k, p, t)).2 := by simp [actE, hk]
    have hc := calm_eff h (k, p, t)
    have hr := room_eff h ht k hk p t
    rw [e1, e2]
    have hw : wt (k, p, t) = p.size + t.size := rfl
    refine ⟨hc.1.mono (by omega) (by omega), hr.1, fun h9 => ⟨hc.2.1 (by omega), ?_⟩, hr.2⟩
    have := hc.2.2.2 h9
    simp only at this
    omega

set_option maxHeartbeats 4000000 in
set_option maxRecDepth 100000 in
theorem walk (room : Int) (A : Option Addr) (c : Nat) (l : List Ac) (w : World) (hwf : (Lit.int .i64 room).wf = true) (hr : Acs w w.heap.size A l) (hz : ∀ a ∈ l, AcOk a) :
    Calls Try.prog 7 #[.int .i64 room, .slice A l.length c] w fun e w' => e = .returned (.bool true) ∧ Below w.heap.size w w' := by
  have HP := Lib.hid hr
  have HZ := Lib.hid hz
  clear hr hz hwf
  go_enter Try.func7, Try.ntmps7
  go_wp2_with fail
  refine (awake_any w).mono ?_
  rintro r w1 ⟨rfl, hb1⟩
  have HF := Lib.hid (few_any w1 A c l w.heap.size (HP.out.below hb1) hb1.size HZ.out)
  have HB1 := Lib.hid hb1
  clear hb1
  go_wp2_with fail
  refine HF.out.mono ?_
  rintro r w2 ⟨rfl, hb2⟩
  have hb02 := HB1.out.trans (hb2.mono HB1.out.size)
  have HB2 := Lib.hid hb02
  clear HB1 hb2 hb02 HF
  by_cases hs : sumF l ≤ 300
  · have hsd : decide (sumF l ≤ 300) = true := decide_eq_true hs
    by_cases h0 : room < 0
    · simp only [hsd]
      go_wp2
      go_ret
      exact ⟨rfl, HB2.out⟩
    · have h0' : 0 ≤ room := by omega
      by_cases hmx : 1048576 < room
      · simp only [hsd]
        go_wp2
        go_ret
        exact ⟨rfl, HB2.out⟩
      · have hmx' : room ≤ 1048576 := by omega
        have HN := Lib.hid (h_new ((holds_start w).below emp_part HB2.out) emp_part room h0' (by omega))
        simp only [hsd]
        go_wp2_with fail
        refine HN.out.mono ?_
        rintro r w3 ⟨b, rfl, h3⟩
        have H3 := Lib.hid h3
        have hln := len_sum l
        clear h3 HN HB2
        go_wp2
        go_loopg [7] l.length (fun g i wr => ∃ (j : Nat) (d : Dsk), j ≤ l.length ∧ g = l.length - j ∧ i = .int .i64 j ∧ Holds w (Star (Dk b d) Emp) wr ∧ Hk.Calm room j (15000 * j) d ∧ (takenF (sn d) : Int) ≤ room)
        case atStart => exact ⟨0, newD room, Nat.zero_le _, rfl, rfl, H3.out, calm_new room, h0'⟩
        case round =>
          obtain ⟨j, d, hj, rfl, rfl, hh, hca, htk⟩ := hrel
          by_cases hlt : j < l.length
          · have h1 : (j : Int) < l.length := by omega
            have hj0 : (0 : Int) ≤ j := by omega
            obtain ⟨ad, rfl, hB1, hcc⟩ := (HP.out.below hh.top) j hlt
            obtain ⟨hok, h15⟩ := act_ok hlt hs HZ.out
            obtain ⟨a, ha⟩ : ∃ a, l.getD j default = a := ⟨_, rfl⟩
            rw [ha] at hcc hok h15
            obtain ⟨k, p, t, at_, keep⟩ := a
            have e0 : wr.cell? (ad.add (j * 5)) = some (.int .i64 k) := hcc 0 (by omega)
            have e1 : wr.cell? ⟨(ad.add (j * 5)).block, (ad.add (j * 5)).off + 1, none⟩ = some (.string p) := hcc 1 (by omega)
            have e2 : wr.cell? ⟨(ad.add (j * 5)).block, (ad.add (j * 5)).off + 2, none⟩ = some (.string t) := hcc 2 (by omega)
            have e3 : wr.cell? ⟨(ad.add (j * 5)).block, (ad.add (j * 5)).off + 3, none⟩ = some (.int .i64 at_) := hcc 3 (by omega)
            have e4 : wr.cell? ⟨(ad.add (j * 5)).block, (ad.add (j * 5)).off + 4, none⟩ = some (.int .u64 keep) := hcc 4 (by omega)
            have HH := Lib.hid (And.intro hh (And.intro hca htk))
            clear hcc ha hh hca htk
            by_cases hk1 : k < 1
            · go_wp2
              go_roundg (l.length - (j + 1))
              case rel => exact ⟨j + 1, d, by omega, rfl, by go_num, HH.out.1, HH.out.2.1.mono (by omega) (by omega), HH.out.2.2⟩
              case measure => omega
            · by_cases hk4 : 4 < k
              · go_wp2
                go_roundg (l.length - (j + 1))
                case rel => exact ⟨j + 1, d, by omega, rfl, by go_num, HH.out.1, HH.out.2.1.mono (by omega) (by omega), HH.out.2.2⟩
                case measure => omega
              · obtain ⟨f1, f2, f3, f4⟩ := room_act HH.out.2.1 HH.out.2.2 k p t at_ keep h15 (by omega) (by omega)
                have fit1 : Fit d := HH.out.2.1.fit (by omega) (by omega)
                have HT1 := Lib.hid (show Calls Try.prog 23 #[.pointer (some ⟨b, 0, none⟩)] wr fun r w' => r = .returned (.int .i64 (takenF (sn d))) ∧ w' = wr from by have h9 := h_taken HH.out.1 emp_part; rw [HH.out.2.1.up] at h9; exact h9)
                have HD := Lib.hid (do_p HH.out.1 emp_part fit1 (k, p, t, at_, keep) hok)
                unfold acV at HD
                obtain ⟨E, hE⟩ : ∃ E, actE d (k, p, t, at_, keep) = E := ⟨_, rfl⟩
                rw [hE] at HD f3 f4
                obtain ⟨d2, hd2⟩ : ∃ d2, actF d (k, p, t, at_, keep) = d2 := ⟨_, rfl⟩
                rw [hd2] at HD f1 f2 f3 f4
                have HF2 := Lib.hid (And.intro f1 f2)
                clear f1 fit1 hE hd2 hok
                generalize hT1 : takenF (sn d) = T1 at *
                have F3 := Lib.hid f3
                have F4 := Lib.hid f4
                have HT1e := Lib.hid hT1
                clear f3 f4 hT1
                simp only at HD
                go_wp2_with fail
                refine HT1.out.mono ?_
                rintro r wr ⟨rfl, rfl⟩
                go_wp2_with fail
                refine HD.out.mono ?_
                rintro r w5 ⟨A5, c5, rfl, h5⟩
                have H5 := Lib.hid h5.tail
                have HT2 := Lib.hid (show Calls Try.prog 23 #[.pointer (some ⟨b, 0, none⟩)] w5 fun r w' => r = .returned (.int .i64 (takenF (sn d2))) ∧ w' = w5 from by have h9 := h_taken h5.tail emp_part; rw [HF2.out.1.up] at h9; exact h9)
                clear h5 HD HT1
                generalize hT2 : takenF (sn d2) = T2 at *
                have hT2' : ¬ room < (T2 : Int) := by omega
                go_wp2_with fail
                refine HT2.out.mono ?_
                rintro r w5 ⟨rfl, rfl⟩
                have HT2e := Lib.hid hT2
                clear hT2
                by_cases hE7 : E = 7
                · subst hE7
                  have hT : (T2 : Int) = T1 := by rw [← HT2e.out, ← HT1e.out, (F3.out rfl).1]
                  have hk2 : ¬ 2 < k := by have := (F3.out rfl).2; omega
                  have hk3 : ¬ k = 3 := by omega
                  rw [hT] at HT2 hT2' ⊢
                  clear hT
                  go_wp2_with (go_at_call 23; refine HT2.out.mono ?_; rintro r w5 ⟨rfl, rfl⟩)
                  go_roundg (l.length - (j + 1))
                  case rel => exact ⟨j + 1, d2, by omega, rfl, by go_num, H5.out, HF2.out.1.mono (by omega) (by omega), by rw [HT2e.out]; exact HF2.out.2⟩
                  case measure => omega
                · by_cases hk3 : k = 3
                  · subst hk3
                    by_cases hE0 : E = 0
                    · subst hE0
                      have hTT : ¬ (T1 : Int) ≤ T2 := by have h9 := F4.out rfl rfl; have h8 := HT2e.out; omega
                      go_wp2_with (go_at_call 23; refine HT2.out.mono ?_; rintro r w5 ⟨rfl, rfl⟩)
                      go_roundg (l.length - (j + 1))
                      case rel => exact ⟨j + 1, d2, by omega, rfl, by go_num, H5.out, HF2.out.1.mono (by omega) (by omega), by rw [HT2e.out]; exact HF2.out.2⟩
                      case measure => omega
                    · have hE7b : (E == 7) = false := by simpa using hE7
                      have hE0b : (E == 0) = false := by simpa using hE0
                      go_wp2
                      go_roundg (l.length - (j + 1))
                      case rel => exact ⟨j + 1, d2, by omega, rfl, by go_num, H5.out, HF2.out.1.mono (by omega) (by omega), by rw [HT2e.out]; exact HF2.out.2⟩
                      case measure => omega
                  · have hE7b : (E == 7) = false := by simpa using hE7
                    have hk3b : (k == 3) = false := by simpa using hk3
                    go_wp2
                    go_roundg (l.length - (j + 1))
                    case rel => exact ⟨j + 1, d2, by omega, rfl, by go_num, H5.out, HF2.out.1.mono (by omega) (by omega), by rw [HT2e.out]; exact HF2.out.2⟩
                    case measure => omega
          · have h1 : ¬ (j : Int) < l.length := by omega
            have HH := Lib.hid (And.intro hh (And.intro hca htk))
            clear hh hca htk
            by_cases hr0 : 0 < room
            · have HB9 := Lib.hid HH.out.1.top
              go_wp2
              go_ret
              exact ⟨rfl, HB9.out⟩
            · have hle : listD d ByteArray.empty = [] := by
                have h8 : takenF (sn d) = 0 := by have := HH.out.2.2; omega
                have h9 := empty_taken (fun p hp => (HH.out.2.1.path p hp).1) h8
                unfold listD
                rw [if_neg (by rw [HH.out.2.1.up]; decide)]
                show listF (sn d) _ = _
                rw [h9]
                rfl
              have HLS := Lib.hid (show Calls Try.prog 25 #[.pointer (some ⟨b, 0, none⟩), .string ByteArray.empty] wr fun r w' => ∃ A c, r = .returned (.slice A 0 c) ∧ Below w.heap.size w w' from by
                have h9 := h_list HH.out.1 emp_part (HH.out.2.1.fit (by omega) (by omega)) ByteArray.empty (by decide)
                rw [hle] at h9
                refine h9.mono ?_
                rintro r w' ⟨A2, c2, rfl, h8⟩
                exact ⟨A2, c2, rfl, h8.top⟩)
              clear hle
              go_wp2_with fail
              refine HLS.out.mono ?_
              rintro r w9 ⟨A9, c9, rfl, hb9⟩
              have HB9 := Lib.hid hb9
              clear hb9
              go_wp2
              go_ret
              exact ⟨rfl, HB9.out⟩
  · have hsd : decide (sumF l ≤ 300) = false := decide_eq_false hs
    simp only [hsd]
    go_wp2
    go_ret
    exact ⟨rfl, HB2.out⟩

theorem own : ownKnob Try.prog.godebug = none := by kernel_rfl

set_option maxRecDepth 100000 in
theorem lifted (os : Os) (started : os.Started) (H : Type) (enc : TypeId × Value → H) :
    ReturnsInHanded {} Try.checked os 7 .any (Rows.diskRoomSpec.pre6 enc Try.prog Try.f7 Rows.diskRoomRow.domain false) (Rows.diskRoomSpec.post enc Try.prog Try.f7 false true false false) := by
  refine returnsInHanded_of_change_sized (C := Try.checked) own started (by kernel_rfl) Try.func7
    (ChangeSpec.witness6 (enc := enc) (C := Try.checked) false ⟨#[], #[.int .i64 0, .slice none 0 0], []⟩ 8 (by kernel_rfl) (by kernel_rfl) (by kernel_rfl) (by kernel_rfl)) ?_
  intro W base args ds gs before hval0 hW hcnd hsz _
  have hval : ∀ (j : Nat) t v, Try.f7.params[j]? = some t → args[j]? = some v → Value.okWide Try.prog W .any base t v := hval0
  have hW' := hW
  obtain ⟨p, q, hA0, hV, rfl, hfz, hnd⟩ := hW
  have hA : DataW.TrodAll enc Try.prog W 0 (fun _ => true) true Try.f7.params.toList args.toList ds p := hA0
  rw [Try.params7] at hA hval hsz
  obtain ⟨v0, vs0, d0, ds0, p0, q0, hargs, rfl, rfl, h0, r0⟩ := trodAll_cons hA
  obtain ⟨v1, vs1, d1, ds1, p1, q1, rfl, rfl, rfl, h1, r1⟩ := trodAll_cons r0
  obtain ⟨rfl, rfl, rfl⟩ := trodAll_nil r1
  obtain rfl : args = #[v0, v1] := by cases args; simp_all
  obtain ⟨rfl, rfl⟩ := trodVars_none hV
  have hz1 : ∀ n ∈ d1.weights Try.prog 22, n ≤ reachBytes := fun n hn => of_decide_eq_true (List.all_eq_true.1 hsz n (DataW.weights_mem_each (j := 1) rfl rfl n hn))
  obtain ⟨a0, rfl, rfl, rfl, w0⟩ := open_int Try.underlying3 (hval 0 3 v0 rfl rfl) h0
  obtain ⟨A1, l1, c1, rfl, hr1, hw1⟩ := Hk.open_acts (hval 1 22 v1 rfl rfl) h1 hz1
  clear hA0 hval0
  refine (walk a0 A1 c1 l1 W w0 hr1 hw1).mono fun e W' ⟨he, hg⟩ => ?_
  subst he
  exact ⟨_, rfl, law_post Try.laid (by kernel_rfl) (by kernel_rfl) Try.underlying4 rfl rfl hW' hg⟩

theorem over : Rows.diskRoomRow.holds Try.pinned (OpenSpec.ofChange Rows.diskRoomSpec) :=
  OpenClaim.holds_of_wide 7 Try.f7 rfl rfl rfl rfl rfl rfl rfl ⟨rfl, rfl, rfl, rfl, rfl⟩ rfl rfl rfl rfl rfl (by kernel_rfl) Try.func7 (by kernel_rfl)
    (of_decide_eq_true (by kernel_rfl)) (by unfold Func.isWrapper; first | (rw [if_pos (by decide +kernel)]; kernel_rfl) | (rw [if_neg (by decide +kernel)]; exact ⟨rfl, rfl⟩))
    (fun os started H enc _ => lifted os started H enc)
end Go.Proofs.Ytdgfbpkpfmdjjaa.diskRoom

namespace Go.Proofs.Ytdgfbpkpfmdjjaa
theorem diskRoom_holds : Rows.DiskRoomSaid := diskRoom.over
end Go.Proofs.Ytdgfbpkpfmdjjaa
