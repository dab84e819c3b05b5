/-
  Proved: Sha1Pieces returns true for every list of texts and every place, and changes nothing that was there.
  Conditions: none beside the row's own.
-/
import Derived.Test.YtpbfmffpggdlcaaPq
namespace Go.Proofs.Ytpbfmffpggdlcaa.sha1Pieces
open Go.ChangeShapes Go.WideShapes Go.ChangeAt Go.RowKit
open Go.ChangeMaps (open_string)
set_option linter.unusedVariables false

open Hs Hp
set_option maxHeartbeats 2000000 in
set_option maxRecDepth 100000 in
theorem walk (A : Option Addr) (c : Nat) (ss : List ByteArray) (t : Int) (w : World) (hr : Strs w w.heap.size A ss) (hcap : ss.length ≤ c) (ht : (Lit.int .i64 t).wf = true) :
    Calls Try.prog 5 #[.slice A ss.length c, .int .i64 t] w fun e w' => e = .returned (.bool true) ∧ Below w.heap.size w w' := by
  have HR := Lib.hid hr
  clear hr
  go_enter Try.func5, Try.ntmps5
  go_wp2_with fail
  refine (Hp.awake_any _).mono ?_
  rintro e1 w1 ⟨rfl, hb1⟩
  have HR1 := Lib.hid (HR.out.below hb1)
  go_wp2_with fail
  go_loopg [5, 6] ss.length (fun g s5 i wr => ∃ (k : Nat) (T : ByteArray), k ≤ ss.length ∧ k ≤ 40 ∧ g = ss.length - k ∧ i = .int .i64 k ∧ s5 = .string T ∧ T.data.toList = cat (ss.take k) ∧ (∀ i, i < k → (ss.getD i ByteArray.empty).size ≤ 300) ∧ w1 = wr)
  case atStart => exact ⟨0, ⟨#[]⟩, Nat.zero_le _, Nat.zero_le _, rfl, rfl, rfl, rfl, fun i hi => absurd hi (Nat.not_lt_zero _), rfl⟩
  case round =>
    obtain ⟨k, T, hk, hk40, rfl, rfl, rfl, hT, hall, rfl⟩ := hrel
    have hTs : T.size ≤ 12000 := by
      have h1 := cat_len ss 300 k hk hall
      rw [← hT] at h1
      have h2 : T.data.toList.length = T.size := by simp
      omega
    have HA := Lib.hid hall
    have HT := Lib.hid hT
    clear hall hT
    by_cases hlt : k < ss.length
    · have h1 : (k : Int) < ss.length := by omega
      have h0 : (0 : Int) ≤ k := by omega
      by_cases h40 : 40 ≤ k
      · have h40' : (40 : Int) ≤ k := by omega
        go_wp2
        go_ret
        exact ⟨rfl, hb1⟩
      · have h40' : ¬ (40 : Int) ≤ k := by omega
        obtain ⟨ad, rfl, hblk, hc⟩ := HR1.out k hlt
        have hcat := cat_take ss k hlt
        by_cases h300 : (ss.getD k ByteArray.empty).size ≤ 300
        · have hall2 : ∀ i, i < k + 1 → (ss.getD i ByteArray.empty).size ≤ 300 := fun i hi => by
            by_cases e : i = k
            · subst e; exact h300
            · exact HA.out i (by omega)
          have HA2 := Lib.hid hall2
          have HT2 := Lib.hid (show (T ++ ss.getD k ByteArray.empty : ByteArray).data.toList = cat (ss.take (k + 1)) by rw [text_append, HT.out, hcat])
          clear hall2 hcat HA HT
          generalize ss.getD k ByteArray.empty = y at *
          have h300' : ¬ (300 : Int) < y.size := by omega
          go_wp2
          go_roundg (ss.length - (k + 1))
          case rel => exact ⟨k + 1, _, by omega, by omega, rfl, by go_num, rfl, HT2.out, HA2.out, rfl⟩
          case measure => omega
        · generalize ss.getD k ByteArray.empty = y at *
          have h300' : (300 : Int) < y.size := by omega
          go_wp2
          go_ret
          exact ⟨rfl, hb1⟩
    · obtain rfl : k = ss.length := by omega
      have h1 : ¬ ((ss.length : Int) < ss.length) := by omega
      by_cases hneg : t < 0
      · go_wp2
        go_ret
        exact ⟨rfl, hb1⟩
      · by_cases hbig : (ss.length : Int) < t
        · go_wp2
          go_ret
          exact ⟨rfl, hb1⟩
        · obtain ⟨m, rfl⟩ : ∃ m : Nat, t = m := ⟨t.toNat, by omega⟩
          have hm : m ≤ ss.length := by omega
          have hTT : T.data.toList = cat ss := by rw [HT.out, List.take_length]
          have HTT := Lib.hid hTT
          clear hTT HT
          go_wp2_with fail
          refine (new_any _).mono ?_
          rintro e2 w2 ⟨b, rfl, hbb, hst2, hb2⟩
          have hbe1 := hb1.size
          have hp0 : Pie w w2 b ss m 0 (.pointer none) := ⟨hb1.trans (hb2.mono hbe1), Nat.le_trans hbe1 hbb, by simpa [cat, bls] using hst2, .inl ⟨Nat.zero_le _, rfl⟩⟩
          have HP0 := Lib.hid hp0
          have HR2 := Lib.hid (HR1.out.below (hb2.mono hbe1))
          have hb12 := hb1.trans (hb2.mono hbe1)
          have HB12 := Lib.hid hb12
          clear hst2 hb2 hp0 HR1 hb12 hbb hbe1 hb1 ht
          go_wp2_with fail
          go_loopg [8, 9, 10] ss.length (fun g s8 s9 i wx => ∃ (k : Nat) (H : ByteArray), k ≤ ss.length ∧ g = ss.length - k ∧ i = .int .i64 k ∧ s8 = .string H ∧ H.data.toList = cat (ss.take (min k m)) ∧ Pie w wx b ss m k s9)
          case atStart => exact ⟨0, ⟨#[]⟩, Nat.zero_le _, rfl, rfl, rfl, by simp [cat, bls], HP0.out⟩
          case round =>
            obtain ⟨k, H, hk2, rfl, rfl, rfl, hH, hpie⟩ := hrel
            clear HP0
            have hHs : H.size ≤ 12000 := by
              have h1 := cat_len ss 300 (min k m) (by omega) (fun i hi => HA.out i (by omega))
              rw [← hH] at h1
              have h2 : H.data.toList.length = H.size := by simp
              have h3 : min k m ≤ 40 := by omega
              omega
            by_cases hlt2 : k < ss.length
            · have h1 : (k : Int) < ss.length := by omega
              have h0 : (0 : Int) ≤ k := by omega
              have hlen := cat_len ss 300 (k + 1) (by omega) (fun i hi => HA.out i (by omega))
              have hrs : Strs wr w.heap.size A ss := HR.out.below hpie.below
              obtain ⟨ad, rfl, hblk, hc⟩ := hrs k hlt2
              have hadl : (ad.add k).block < wr.heap.size := by rw [block_of_add]; exact Nat.lt_of_lt_of_le hblk hpie.below.size
              have hcat := cat_take ss k hlt2
              have h300 := HA.out k hlt2
              have hll : (cat (ss.take k)).length + (ss.getD k ByteArray.empty).size ≤ 1000000 := by
                rw [hcat, List.length_append] at hlen
                have h3 : (ss.getD k ByteArray.empty).data.toList.length = (ss.getD k ByteArray.empty).size := by simp
                omega
              have hl2 : (cat (ss.take (k + 1))).length ≤ 1000000 := by omega
              have HPI := Lib.hid hpie
              rcases (by omega : k < m ∨ k = m ∨ m < k) with hkm | rfl | hkm
              · have e1 : ((k : Int) == (m : Int)) = false := by simp; omega
                have e2' : (k : Int) < m := by omega
                have hw := write_one wr b _ (ss.getD k ByteArray.empty) hpie.st hll
                rw [← hcat] at hw
                have HH := Lib.hid (show (H ++ ss.getD k ByteArray.empty : ByteArray).data.toList = cat (ss.take (min (k + 1) m)) by rw [text_append, hH, show min k m = k by omega, show min (k + 1) m = k + 1 by omega, hcat])
                generalize ss.getD k ByteArray.empty = y at *
                clear hpie hH hcat hrs
                go_wp2_with fail
                refine hw.mono ?_
                rintro e5 w5 ⟨rfl, hst5, hg5⟩
                go_wp2_with fail
                refine (ssum_any w5 b _ hst5 hl2).mono ?_
                rintro e6 w6 ⟨rfl, hb6⟩
                have HPN := Lib.hid (HPI.out.next (by omega) hst5 hg5 hb6)
                clear hst5 hg5 hb6 hw
                go_wp2
                go_roundg (ss.length - (k + 1))
                case rel => exact ⟨k + 1, _, by omega, rfl, by go_num, rfl, HH.out, HPN.out⟩
                case measure => omega
              · have e1 : ((k : Int) == (k : Int)) = true := by simp
                have e2' : ¬ (k : Int) < k := by omega
                have hcp := copy_any wr b _ hpie.st
                have HH := Lib.hid (show H.data.toList = cat (ss.take (min (k + 1) k)) by rw [hH]; congr 2; omega)
                clear hpie hH hrs
                go_wp2_with fail
                refine hcp.mono ?_
                rintro e4 w4 ⟨rfl, hst4, hb4⟩
                have hc4 : w4.cell? (ad.add k) = some (.string (ss.getD k ByteArray.empty)) := by rw [hb4.cell hadl]; exact hc
                have hw := write_one w4 b _ (ss.getD k ByteArray.empty) (HPI.out.st.below hb4 HPI.out.st.lt) hll
                rw [← hcat] at hw
                clear hc
                generalize ss.getD k ByteArray.empty = y at *
                go_wp2_with fail
                refine hw.mono ?_
                rintro e5 w5 ⟨rfl, hst5, hg5⟩
                go_wp2_with fail
                refine (ssum_any w5 b _ hst5 hl2).mono ?_
                rintro e6 w6 ⟨rfl, hb6⟩
                have HPN := Lib.hid (HPI.out.made hst4 hb4 (Nat.le_refl _) hst5 hg5 hb6)
                clear hst5 hg5 hb6 hw hst4 hb4
                go_wp2
                go_roundg (ss.length - (k + 1))
                case rel => exact ⟨k + 1, _, by omega, rfl, by go_num, rfl, HH.out, HPN.out⟩
                case measure => omega
              · have e1 : ((k : Int) == (m : Int)) = false := by simp; omega
                have e2' : ¬ (k : Int) < m := by omega
                have hw := write_one wr b _ (ss.getD k ByteArray.empty) hpie.st hll
                rw [← hcat] at hw
                have HH := Lib.hid (show H.data.toList = cat (ss.take (min (k + 1) m)) by rw [hH]; congr 2; omega)
                generalize ss.getD k ByteArray.empty = y at *
                clear hpie hH hcat hrs
                go_wp2_with fail
                refine hw.mono ?_
                rintro e5 w5 ⟨rfl, hst5, hg5⟩
                go_wp2_with fail
                refine (ssum_any w5 b _ hst5 hl2).mono ?_
                rintro e6 w6 ⟨rfl, hb6⟩
                have HPN := Lib.hid (HPI.out.next (by omega) hst5 hg5 hb6)
                clear hst5 hg5 hb6 hw
                go_wp2
                go_roundg (ss.length - (k + 1))
                case rel => exact ⟨k + 1, _, by omega, rfl, by go_num, rfl, HH.out, HPN.out⟩
                case measure => omega
            · obtain rfl : k = ss.length := by omega
              have h1 : ¬ ((ss.length : Int) < ss.length) := by omega
              have hHm : H.data.toList = cat (ss.take m) := by rw [hH]; congr 2; omega
              have hcl : (cat ss).length ≤ 12000 := by
                have h2 := cat_len ss 300 ss.length (Nat.le_refl _) (fun i hi => HA.out i hi)
                rw [List.take_length] at h2
                omega
              have hst : St wr b (cat ss) := by have := hpie.st; rwa [List.take_length] at this
              have hcmL : (cat (ss.take m)).length ≤ 12000 := by
                have h2 := cat_len ss 300 m hm (fun i hi => HA.out i (by omega))
                omega
              have hs1 := sum_one T wr (by omega)
              rw [HTT.out] at hs1
              have HHM := Lib.hid hHm
              have HPI := Lib.hid hpie
              clear hH hHm hpie hlt2 hlt hk hk2
              go_wp2_with fail
              refine hs1.mono ?_
              rintro e5 w5 ⟨rfl, hb5⟩
              have hP5 := HPI.out.more hb5
              have hst5 := hst.below hb5 hst.lt
              clear hs1 hst HPI hb5
              go_wp2_with fail
              refine (ssum_any w5 b _ hst5 (by omega)).mono ?_
              rintro e6 w6 ⟨rfl, hb6⟩
              have hP6 := hP5.more hb6
              have hD20 : (⟨(Sh.sum (cat ss)).toArray⟩ : ByteArray).size = 20 := by rw [Lib.size_eq]; show (Sh.sum (cat ss)).length = 20; rw [Sh.sum, Sh.told_length]
              generalize hDD : (⟨(Sh.sum (cat ss)).toArray⟩ : ByteArray) = D at *
              have hDeq : (D.toList == D.toList) = true := by simp
              have HP6 := Lib.hid hP6
              clear hP5 hb6 hst5 hP6
              have HDD := Lib.hid hDD
              clear hDD
              have hr6 : Strs w6 w6.heap.size A ss := fun i hi => by
                obtain ⟨ad, e, hlt, hc⟩ := (HR.out.below HP6.out.below) i hi
                exact ⟨ad, e, Nat.lt_of_lt_of_le hlt HP6.out.below.size, hc⟩
              obtain ⟨v7, w7, A7, c7, hrun7, rfl, hS7, hb7⟩ := app_strs w6 A c ss hr6 (by omega)
              have hs7 := sum_any w7 A7 c7 ss hS7 (by show (cat ss).length ≤ _; omega) (by omega)
              rw [show (bls ss).flatten = cat ss from rfl, HDD.out] at hs7
              have hP7 := HP6.out.more hb7
              have HP7 := Lib.hid hP7
              have HRUN := Lib.hid hrun7
              clear hP7 hb7 HP6 hr6 hS7 hrun7
              go_wp2_with (at_builtin; refine wpList_append_wanted (by rfl) (.tmp 82) (.tmp 83) 38 38 rfl _ _ _ _ rfl rfl HRUN.out ?_)
              refine hs7.mono ?_
              rintro e8 w8 ⟨rfl, hb8⟩
              have hP8 := HP7.out.more hb8
              clear HP7 hb8 hs7 HRUN
              rcases hP8.copy with ⟨hml, hv9⟩ | ⟨hml, g, hv9, hgb, hgl, hstg⟩
              · subst hv9
                have hbl8 := hP8.below
                clear hP8
                go_wp2
                go_ret
                exact ⟨rfl, hbl8⟩
              · subst hv9
                have HP8 := Lib.hid hP8
                clear hP8
                go_wp2_with fail
                refine (ssum_any w8 g _ hstg (by omega)).mono ?_
                rintro e9 w9 ⟨rfl, hb9⟩
                have hs9 := sum_one H w9 (by omega)
                rw [HHM.out] at hs9
                have hstg9 := hstg.below hb9 hstg.lt
                have hP9 := HP8.out.more hb9
                generalize hEE : (⟨(Sh.sum (cat (ss.take m))).toArray⟩ : ByteArray) = E at *
                have hEeq : (E.toList == E.toList) = true := by simp
                clear hEE HP8 hb9
                go_wp2_with fail
                refine hs9.mono ?_
                rintro e10 w10 ⟨rfl, hb10⟩
                have hstg10 := hstg9.below hb10 hstg9.lt
                have hP10 := hP9.more hb10
                have hrs : Strs w10 w.heap.size A ss := HR.out.below hP10.below
                obtain ⟨ad, rfl, hblk, hc⟩ := hrs m (by omega)
                have hdr := strs_dropped hrs m
                have hw := write_any w10 g _ (some (ad.add m)) w.heap.size (c - m) (ss.drop m) hstg10 hdr (fun _ ad' e => by injection e with e; subst e; rw [block_of_add]; omega) (by rw [← List.length_append]; show (cat (ss.take m) ++ cat (ss.drop m)).length ≤ _; rw [cat_split]; omega) (by simp; omega)
                rw [show cat (ss.take m) ++ (bls (ss.drop m)).flatten = cat ss from cat_split ss m, List.length_drop] at hw
                have hsl : ∀ W, (Instr.sliceAt 38 (.slice (some ad) ss.length c) (some (.int .i64 (m : Int))) none none).run Try.prog W = .ok (.slice (some (ad.add m)) (ss.length - m) (c - m)) W := fun W => by
                  have he : Try.prog.elem 38 = 9 := by kernel_rfl
                  have hu38 : Try.prog.underlying 38 = some (.slice (Try.prog.elem 38)) := by rw [he]; exact Try.underlying38
                  rw [run_sliceAt_slice _ _ _ _ _ _ hu38, run_slice_l _ _ _ _ _ hu38 .i64 m (by omega) (by omega), he, Try.sizeOf9]
                  show Result.ok (sliced _ _ _ _ _) W = _
                  rw [sliced, if_neg (by omega)]
                  simp
                have HP10 := Lib.hid hP10
                clear hstg9 hP9 hs9 hP10 hstg10 hrs hdr hc
                go_wp2_with fail
                refine hw.mono ?_
                rintro e11 w11 ⟨rfl, hst11, hg11⟩
                have hb11 : Below w.heap.size w w11 := HP10.out.below.grown hg11 HP10.out.below.size (fun k hk => by injection hk with hk; omega)
                go_wp2_with fail
                refine (ssum_any w11 g _ hst11 (by omega)).mono ?_
                rintro e12 w12 ⟨rfl, hb12'⟩
                rw [HDD.out]
                go_wp2
                go_ret
                exact ⟨rfl, hb11.trans (hb12'.mono hb11.size)⟩

theorem own : ownKnob Try.prog.godebug = none := by kernel_rfl

set_option maxRecDepth 100000 in
theorem lifted (os : Os) (started : os.Started) (H : Type) (enc : TypeId × Value → H) :
    ReturnsInHanded {} Try.checked os 5 .any (Rows.sha1PiecesSpec.pre6 enc Try.prog Try.f5 Rows.sha1PiecesRow.domain false) (Rows.sha1PiecesSpec.post enc Try.prog Try.f5 false true false false) := by
  refine returnsInHanded_of_change (C := Try.checked) own started (by kernel_rfl) Try.func5
    (ChangeSpec.witness6 (enc := enc) (C := Try.checked) false ⟨#[], #[.slice none 0 0, .int .i64 0], []⟩ 8 (by kernel_rfl) (by kernel_rfl) (by kernel_rfl) (by kernel_rfl)) ?_
  intro W base args ds gs before hval0 hW hcnd _
  have hval : ∀ (j : Nat) t v, Try.f5.params[j]? = some t → args[j]? = some v → Value.okWide Try.prog W .any base t v := hval0
  have hW' := hW
  obtain ⟨p, q, hA0, hV, rfl, hfz, hnd⟩ := hW
  have hA : DataW.TrodAll enc Try.prog W 0 (fun _ => true) true Try.f5.params.toList args.toList ds p := hA0
  rw [Try.params5] at hA hval
  obtain ⟨v0, vs0, d0, ds0, p0, q0, hargs, rfl, rfl, h0, r0⟩ := trodAll_cons hA
  obtain ⟨v1, vs1, d1, ds1, p1, q1, rfl, rfl, rfl, h1, r1⟩ := trodAll_cons r0
  obtain ⟨rfl, rfl, rfl⟩ := trodAll_nil r1
  obtain rfl : args = #[v0, v1] := by cases args; simp_all
  obtain ⟨rfl, rfl⟩ := trodVars_none hV
  obtain ⟨A0, ss0, c0, rfl, hr0, hc0⟩ := Hp.open_strs_cap (hval 0 38 v0 rfl rfl) h0
  obtain ⟨a1, rfl, rfl, rfl, w1⟩ := open_int Try.underlying3 (hval 1 3 v1 rfl rfl) h1
  clear hA0 hval0
  refine (walk A0 c0 ss0 a1 W hr0 hc0 w1).mono fun e W' ⟨he, hg⟩ => ?_
  subst he
  exact ⟨_, rfl, law_post Try.laid (by kernel_rfl) (by kernel_rfl) Try.underlying4 rfl rfl hW' hg⟩

theorem over : Rows.sha1PiecesRow.holds Try.pinned (OpenSpec.ofChange Rows.sha1PiecesSpec) :=
  OpenClaim.holds_of_wide 5 Try.f5 rfl rfl rfl rfl rfl rfl rfl ⟨rfl, rfl, rfl, rfl, rfl⟩ rfl rfl rfl rfl rfl (by kernel_rfl) Try.func5 (by kernel_rfl)
    (of_decide_eq_true (by kernel_rfl)) (by unfold Func.isWrapper; first | (rw [if_pos (by decide +kernel)]; kernel_rfl) | (rw [if_neg (by decide +kernel)]; exact ⟨rfl, rfl⟩))
    (fun os started H enc _ => lifted os started H enc)
end Go.Proofs.Ytpbfmffpggdlcaa.sha1Pieces

namespace Go.Proofs.Ytpbfmffpggdlcaa
theorem sha1Pieces_holds : Rows.Sha1PiecesSaid := sha1Pieces.over
end Go.Proofs.Ytpbfmffpggdlcaa
