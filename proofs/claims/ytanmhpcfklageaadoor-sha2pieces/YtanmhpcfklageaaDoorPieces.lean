/-
  Proved: Sha2Pieces returns true for every list of texts and every place, and changes nothing that was there: in what pieces bytes come plays no part.
  Conditions: none beside the row's own.
-/
import Derived.Test.YtanmhpcfklageaaDoorQq
import Derived.Test.YtanmhpcfklageaaDoorQl
import Derived.Test.YtanmhpcfklageaaDoorCards
import Derived.Test.YtanmhpcfklageaaDoorTie
namespace Go.Proofs.YtanmhpcfklageaaDoor.sha2Pieces
open Go.ChangeShapes Go.WideShapes Go.ChangeAt Go.RowKit
open Go.ChangeMaps (open_string)
set_option linter.unusedVariables false

open Hs Ho
set_option maxHeartbeats 2000000 in
set_option maxRecDepth 100000 in
theorem walk (A : Option Addr) (c : Nat) (ss : List ByteArray) (t : Int) (w : World) (hr : Strs w w.heap.size A ss) (hcap : ss.length ≤ c) (ht : (Lit.int .i64 t).wf = true) (hK : Ks w) :
    Calls Tryd.prog 4 #[.slice A ss.length c, .int .i64 t] w fun e w' => e = .returned (.bool true) ∧ Below w.heap.size w w' := by
  have HR := Lib.hid hr
  have HK := Lib.hid hK
  clear hr hK
  go_enter Tryd.func4, Tryd.ntmps4
  go_wp2_with fail
  refine (awake_any _ HK.out).mono ?_
  rintro e1 w1 ⟨rfl, hb1⟩
  have HR1 := Lib.hid (HR.out.below hb1)
  go_wp2_with fail
  go_loopg [5, 6] ss.length (fun g s5 i wr => ∃ (k : Nat) (T : ByteArray), k ≤ ss.length ∧ k ≤ 40 ∧ g = ss.length - k ∧ i = .int .i64 k ∧ s5 = .string T ∧ T.data.toList = cat (ss.take k) ∧ (∀ i, i < k → (ss.getD i ByteArray.empty).size ≤ 300) ∧ w1 = wr)
  case atStart => exact ⟨0, ⟨#[]⟩, Nat.zero_le _, Nat.zero_le _, rfl, rfl, rfl, rfl, fun i hi => absurd hi (Nat.not_lt_zero _), rfl⟩
  case round =>
    obtain ⟨k, T, hk, hk40, rfl, rfl, rfl, hT, hall, rfl⟩ := hrel
    have hTs : T.size ≤ 12000 := by
      have h1 := cat_len ss 300 k hk hall
      rw [← hT] at h1
      have h2 : T.data.toList.length = T.size := by simp
      omega
    have HA := Lib.hid hall
    have HT := Lib.hid hT
    clear hall hT
    by_cases hlt : k < ss.length
    · have h1 : (k : Int) < ss.length := by omega
      have h0 : (0 : Int) ≤ k := by omega
      by_cases h40 : 40 ≤ k
      · have h40' : (40 : Int) ≤ k := by omega
        go_wp2
        go_ret
        exact ⟨rfl, hb1⟩
      · have h40' : ¬ (40 : Int) ≤ k := by omega
        obtain ⟨ad, rfl, hblk, hc⟩ := HR1.out k hlt
        have hcat := cat_take ss k hlt
        by_cases h300 : (ss.getD k ByteArray.empty).size ≤ 300
        · have hall2 : ∀ i, i < k + 1 → (ss.getD i ByteArray.empty).size ≤ 300 := fun i hi => by
            by_cases e : i = k
            · subst e; exact h300
            · exact HA.out i (by omega)
          have HA2 := Lib.hid hall2
          have HT2 := Lib.hid (show (T ++ ss.getD k ByteArray.empty : ByteArray).data.toList = cat (ss.take (k + 1)) by rw [text_append, HT.out, hcat])
          clear hall2 hcat HA HT
          generalize ss.getD k ByteArray.empty = y at *
          have h300' : ¬ (300 : Int) < y.size := by omega
          go_wp2
          go_roundg (ss.length - (k + 1))
          case rel => exact ⟨k + 1, _, by omega, by omega, rfl, by go_num, rfl, HT2.out, HA2.out, rfl⟩
          case measure => omega
        · generalize ss.getD k ByteArray.empty = y at *
          have h300' : (300 : Int) < y.size := by omega
          go_wp2
          go_ret
          exact ⟨rfl, hb1⟩
    · obtain rfl : k = ss.length := by omega
      have h1 : ¬ ((ss.length : Int) < ss.length) := by omega
      by_cases hneg : t < 0
      · go_wp2
        go_ret
        exact ⟨rfl, hb1⟩
      · by_cases hbig : (ss.length : Int) < t
        · go_wp2
          go_ret
          exact ⟨rfl, hb1⟩
        · obtain ⟨m, rfl⟩ : ∃ m : Nat, t = m := ⟨t.toNat, by omega⟩
          have hm : m ≤ ss.length := by omega
          have hTT : T.data.toList = cat ss := by rw [HT.out, List.take_length]
          have HTT := Lib.hid hTT
          clear hTT HT
          go_wp2_with fail
          refine (new_any _ (HK.out.under hb1)).mono ?_
          rintro e2 w2 ⟨b, rfl, hbb, hst2, hb2⟩
          go_wp2_with fail
          refine (new_any _ hst2.ks).mono ?_
          rintro e3 w3 ⟨b3, rfl, hbb3, hst3, hb3⟩
          have hbe1 := hb1.size
          have hbe2 := hb2.size
          have hlt2 := hst2.lt
          have hb12 := hb1.trans (hb2.mono hbe1)
          have hb13 := hb12.trans (hb3.mono (by omega))
          have hp0 : Pie w w3 b ss m 0 (.pointer (some ⟨b3, 0, none⟩)) := by
            refine ⟨hb13, Nat.le_trans hbe1 hbb, HK.out.lt, ?_, b3, rfl, by omega, by omega, ?_⟩
            · have := hst2.below hb3 hst2.lt
              simpa [cat, bls] using this
            · have h0 : (if m ≤ 0 then cat (ss.take m) else []) = [] := by
                by_cases h : m ≤ 0
                · obtain rfl : m = 0 := by omega
                  simp [cat, bls]
                · rw [if_neg h]
              rw [h0]
              exact hst3
          have HP0 := Lib.hid hp0
          clear hst2 hst3 hb2 hb3 hp0 HR1 hb12 hb13 hbb hbb3 hbe1 hbe2 hlt2 hb1 ht
          go_wp2_with fail
          go_loopg [8, 9, 10] ss.length (fun g s8 s9 i wx => ∃ (k : Nat) (H : ByteArray), k ≤ ss.length ∧ g = ss.length - k ∧ i = .int .i64 k ∧ s9 = .string H ∧ H.data.toList = cat (ss.take (min k m)) ∧ Pie w wx b ss m k s8)
          case atStart => exact ⟨0, ⟨#[]⟩, Nat.zero_le _, rfl, rfl, rfl, by simp [cat, bls], HP0.out⟩
          case round =>
            obtain ⟨k, H, hk2, rfl, rfl, rfl, hH, hpie⟩ := hrel
            clear HP0
            have hHs : H.size ≤ 12000 := by
              have h1 := cat_len ss 300 (min k m) (by omega) (fun i hi => HA.out i (by omega))
              rw [← hH] at h1
              have h2 : H.data.toList.length = H.size := by simp
              have h3 : min k m ≤ 40 := by omega
              omega
            by_cases hlt2 : k < ss.length
            · have h1 : (k : Int) < ss.length := by omega
              have h0 : (0 : Int) ≤ k := by omega
              have hlen := cat_len ss 300 (k + 1) (by omega) (fun i hi => HA.out i (by omega))
              have hrs : Strs wr w.heap.size A ss := HR.out.below hpie.below
              obtain ⟨ad, rfl, hblk, hc⟩ := hrs k hlt2
              have hcat := cat_take ss k hlt2
              have h300 := HA.out k hlt2
              have hll : (cat (ss.take k)).length + (ss.getD k ByteArray.empty).size ≤ 1000000 := by
                rw [hcat, List.length_append] at hlen
                have h3 : (ss.getD k ByteArray.empty).data.toList.length = (ss.getD k ByteArray.empty).size := by simp
                omega
              have hl2 : (cat (ss.take (k + 1))).length ≤ 1000000 := by omega
              have HPI := Lib.hid hpie
              have wm : IntKind.i64.wrap ((m : Int) - 1) = (m : Int) - 1 := IntWalk.i64_in _ (by omega)
              have hw := write_one wr b _ (ss.getD k ByteArray.empty) hpie.st hll
              rw [← hcat] at hw
              rcases (by omega : k + 1 < m ∨ k + 1 = m ∨ m ≤ k) with hkm | hkm | hkm
              · have e1 : ((k : Int) == (m : Int) - 1) = false := by simp; omega
                have e2' : (k : Int) < m := by omega
                have HH := Lib.hid (show (H ++ ss.getD k ByteArray.empty : ByteArray).data.toList = cat (ss.take (min (k + 1) m)) by rw [text_append, hH, show min k m = k by omega, show min (k + 1) m = k + 1 by omega, hcat])
                generalize ss.getD k ByteArray.empty = y at *
                clear hpie hH hcat hrs
                go_wp2_with fail
                refine hw.mono ?_
                rintro e5 w5 ⟨rfl, hst5, hg5⟩
                go_wp2_with fail
                refine (ssum_any w5 b _ hst5 hl2).mono ?_
                rintro e6 w6 ⟨rfl, hb6⟩
                have HPN := Lib.hid (HPI.out.next (by omega) hst5 hg5 hb6)
                clear hst5 hg5 hb6 hw
                go_wp2
                go_roundg (ss.length - (k + 1))
                case rel => exact ⟨k + 1, _, by omega, rfl, by go_num, rfl, HH.out, HPN.out⟩
                case measure => omega
              · have e1 : ((k : Int) == (m : Int) - 1) = true := by simp; omega
                have e2' : (k : Int) < m := by omega
                have HH := Lib.hid (show (H ++ ss.getD k ByteArray.empty : ByteArray).data.toList = cat (ss.take (min (k + 1) m)) by rw [text_append, hH, show min k m = k by omega, show min (k + 1) m = k + 1 by omega, hcat])
                have HKM := Lib.hid hkm
                generalize ss.getD k ByteArray.empty = y at *
                clear hpie hH hcat hrs hkm
                go_wp2_with fail
                refine hw.mono ?_
                rintro e5 w5 ⟨rfl, hst5, hg5⟩
                go_wp2_with fail
                refine (ssum_any w5 b _ hst5 hl2).mono ?_
                rintro e6 w6 ⟨rfl, hb6⟩
                have hst6 := hst5.below hb6 hst5.lt
                go_wp2_with fail
                refine (copy_any w6 b _ hst6).mono ?_
                rintro e7 w7 ⟨rfl, hst7, hb7⟩
                have HPN := Lib.hid (HPI.out.made HKM.out hst5 hg5 hb6 hst7 hb7)
                clear hst5 hg5 hb6 hw hst6 hst7 hb7
                go_wp2
                go_roundg (ss.length - (k + 1))
                case rel => exact ⟨k + 1, _, by omega, rfl, by go_num, rfl, HH.out, HPN.out⟩
                case measure => omega
              · have e1 : ((k : Int) == (m : Int) - 1) = false := by simp; omega
                have e2' : ¬ (k : Int) < m := by omega
                have HH := Lib.hid (show H.data.toList = cat (ss.take (min (k + 1) m)) by rw [hH]; congr 2; omega)
                generalize ss.getD k ByteArray.empty = y at *
                clear hpie hH hcat hrs
                go_wp2_with fail
                refine hw.mono ?_
                rintro e5 w5 ⟨rfl, hst5, hg5⟩
                go_wp2_with fail
                refine (ssum_any w5 b _ hst5 hl2).mono ?_
                rintro e6 w6 ⟨rfl, hb6⟩
                have HPN := Lib.hid (HPI.out.next (by omega) hst5 hg5 hb6)
                clear hst5 hg5 hb6 hw
                go_wp2
                go_roundg (ss.length - (k + 1))
                case rel => exact ⟨k + 1, _, by omega, rfl, by go_num, rfl, HH.out, HPN.out⟩
                case measure => omega
            · obtain rfl : k = ss.length := by omega
              have h1 : ¬ ((ss.length : Int) < ss.length) := by omega
              have hHm : H.data.toList = cat (ss.take m) := by rw [hH]; congr 2; omega
              have hcl : (cat ss).length ≤ 12000 := by
                have h2 := cat_len ss 300 ss.length (Nat.le_refl _) (fun i hi => HA.out i hi)
                rw [List.take_length] at h2
                omega
              have hst : St wr b (cat ss) := by have := hpie.st; rwa [List.take_length] at this
              have hcmL : (cat (ss.take m)).length ≤ 12000 := by
                have h2 := cat_len ss 300 m hm (fun i hi => HA.out i (by omega))
                omega
              have hs1 := sum_one T wr hst.ks (by omega)
              rw [HTT.out] at hs1
              have HHM := Lib.hid hHm
              have HPI := Lib.hid hpie
              obtain ⟨g, hv8, hgb, hgl, hstg⟩ := hpie.copy
              subst hv8
              clear hstg hH hHm hpie hlt2 hlt hk hk2
              go_wp2_with fail
              refine hs1.mono ?_
              rintro e5 w5 ⟨rfl, hb5⟩
              have hP5 := HPI.out.more hb5
              have hst5 := hst.below hb5 hst.lt
              clear hs1 hst HPI hb5
              go_wp2_with fail
              refine (ssum_any w5 b _ hst5 (by omega)).mono ?_
              rintro e6 w6 ⟨rfl, hb6⟩
              have hP6 := hP5.more hb6
              have hD32 : (⟨(S2.sum (cat ss)).toArray⟩ : ByteArray).size = 32 := by rw [Lib.size_eq]; show (S2.sum (cat ss)).length = 32; rw [S2.sum, S2.told_length]
              generalize hDD : (⟨(S2.sum (cat ss)).toArray⟩ : ByteArray) = D at *
              have hDeq : (D.toList == D.toList) = true := by simp
              have HP6 := Lib.hid hP6
              clear hP5 hb6 hst5 hP6
              have HDD := Lib.hid hDD
              clear hDD
              have hr6 : Strs w6 w6.heap.size A ss := fun i hi => by
                obtain ⟨ad, e, hlt, hc⟩ := (HR.out.below HP6.out.below) i hi
                exact ⟨ad, e, Nat.lt_of_lt_of_le hlt HP6.out.below.size, hc⟩
              obtain ⟨v7, w7, A7, c7, hrun7, rfl, hS7, hb7⟩ := app_strs w6 A c ss hr6 (by omega)
              have hP7 := HP6.out.more hb7
              have hs7 := sum_any w7 hP7.st.ks A7 c7 ss hS7 (by show (cat ss).length ≤ _; omega) (by omega)
              rw [show (bls ss).flatten = cat ss from rfl, HDD.out] at hs7
              have HP7 := Lib.hid hP7
              have HRUN := Lib.hid hrun7
              clear hP7 hb7 HP6 hr6 hS7 hrun7
              go_wp2_with (at_builtin; refine wpList_append_wanted (by rfl) (.tmp 84) (.tmp 85) 26 26 rfl _ _ _ _ rfl rfl HRUN.out ?_)
              refine hs7.mono ?_
              rintro e8 w8 ⟨rfl, hb8⟩
              have hP8 := HP7.out.more hb8
              clear HP7 hb8 hs7 HRUN
              have HP8 := Lib.hid hP8
              obtain ⟨g', hg', _, _, hstg⟩ := hP8.copy
              obtain rfl : g = g' := by injection hg' with e; injection e with e; injection e
              rw [if_pos hm] at hstg
              clear hP8 hg'
              go_wp2_with fail
              refine (ssum_any w8 g _ hstg (by omega)).mono ?_
              rintro e9 w9 ⟨rfl, hb9⟩
              have hstg9 := hstg.below hb9 hstg.lt
              have hs9 := sum_one H w9 hstg9.ks (by omega)
              rw [HHM.out] at hs9
              have hP9 := HP8.out.more hb9
              generalize hEE : (⟨(S2.sum (cat (ss.take m))).toArray⟩ : ByteArray) = E at *
              have hEeq : (E.toList == E.toList) = true := by simp
              clear hEE HP8 hb9 hstg
              go_wp2_with fail
              refine hs9.mono ?_
              rintro e10 w10 ⟨rfl, hb10⟩
              have hstg10 := hstg9.below hb10 hstg9.lt
              have hP10 := hP9.more hb10
              have hrs : Strs w10 w.heap.size A ss := HR.out.below hP10.below
              obtain ⟨A2, hsl, hdr⟩ := strs_from w10 w.heap.size A c m ss hrs hcap hm
              have hw := write_any w10 g _ A2 w.heap.size (c - m) (ss.drop m) hstg10 hdr (fun h0 ad' e => by
                obtain ⟨ad2, e2, hlt, _⟩ := hdr 0 h0
                rw [e] at e2
                injection e2 with e2
                subst e2
                omega) (by rw [← List.length_append]; show (cat (ss.take m) ++ cat (ss.drop m)).length ≤ _; rw [cat_split]; omega) (by simp; omega)
              rw [show cat (ss.take m) ++ (bls (ss.drop m)).flatten = cat ss from cat_split ss m, List.length_drop] at hw
              have HP10 := Lib.hid hP10
              have hml : (m : Int) ≤ ss.length := by omega
              have hm0 : (0 : Int) ≤ m := by omega
              clear hstg9 hP9 hs9 hP10 hstg10 hrs hdr
              go_wp2_with fail
              refine hw.mono ?_
              rintro e11 w11 ⟨rfl, hst11, hg11⟩
              have hb11 : Below w.heap.size w w11 := HP10.out.below.grown hg11 HP10.out.below.size (fun k hk => by injection hk with hk; omega)
              go_wp2_with fail
              refine (ssum_any w11 g _ hst11 (by omega)).mono ?_
              rintro e12 w12 ⟨rfl, hb12'⟩
              rw [HDD.out]
              go_wp2
              go_ret
              exact ⟨rfl, hb11.trans (hb12'.mono hb11.size)⟩

theorem own : ownKnob Tryd.prog.godebug = none := by kernel_rfl

set_option maxRecDepth 100000 in
theorem lifted (os : Os) (started : os.Started) (H : Type) (enc : TypeId × Value → H) :
    ReturnsInHanded {} Tryd.checked os 4 .any (fun w args => (Rows.sha2PiecesSpec.pre enc Tryd.prog Tryd.f4 [] false w args ∧ laidMetH Tryd.prog [("diptych/sha2.constants", Rows.laid_diptych_sha2_constants)] w) ∧ sizedMet enc Tryd.prog Tryd.f4 (OpenSpec.ofChange Rows.sha2PiecesSpec) false w args)
      (Rows.sha2PiecesSpec.post enc Tryd.prog Tryd.f4 false true false false) := by
  refine returnsInHanded_of_change_and (C := Tryd.checked) (X := fun w _ => laidMetH Tryd.prog [("diptych/sha2.constants", Rows.laid_diptych_sha2_constants)] w) (fun _ _ _ hh h => h.of_heap hh) own started (by kernel_rfl) Tryd.func4
    (ChangeSpec.witness_shaped (enc := enc) (C := Tryd.checked) (os := os) (X := fun w _ => laidMetH Tryd.prog [("diptych/sha2.constants", Rows.laid_diptych_sha2_constants)] w) false (World.doorLaid Tryd.prog 400 os) #[.slice none 0 0, .int .i64 0] 8 rfl (World.shaped_of_RefB (by kernel_rfl) (by kernel_rfl)) (by kernel_rfl) (by kernel_rfl) (by kernel_rfl) (door_met os _)) ?_
  intro W base args ds gs before hval0 hW _ _ hL _
  have hval : ∀ (j : Nat) t v, Tryd.f4.params[j]? = some t → args[j]? = some v → Value.okWide Tryd.prog W .any base t v := hval0
  have hW' := hW
  obtain ⟨p, q, hA0, hV, rfl, hfz, hnd⟩ := hW
  have hA : DataW.TrodAll enc Tryd.prog W 0 (fun _ => true) true Tryd.f4.params.toList args.toList ds p := hA0
  rw [Tryd.params4] at hA hval
  obtain ⟨v0, vs0, d0, ds0, p0, q0, hargs, rfl, rfl, h0, r0⟩ := trodAll_cons hA
  obtain ⟨v1, vs1, d1, ds1, p1, q1, rfl, rfl, rfl, h1, r1⟩ := trodAll_cons r0
  obtain ⟨rfl, rfl, rfl⟩ := trodAll_nil r1
  obtain rfl : args = #[v0, v1] := by cases args; simp_all
  obtain ⟨rfl, rfl⟩ := trodVars_none hV
  obtain ⟨A0, ss0, c0, rfl, hr0, hc0⟩ := Ho.open_strs_cap (hval 0 26 v0 rfl rfl) h0
  obtain ⟨a1, rfl, rfl, rfl, w1⟩ := open_int Tryd.underlying3 (hval 1 3 v1 rfl rfl) h1
  clear hA0 hval0
  refine (walk A0 c0 ss0 a1 W hr0 hc0 w1 (ks_of_laid hL)).mono fun e W' ⟨he, hg⟩ => ?_
  subst he
  exact ⟨_, rfl, law_post Tryd.laid (by kernel_rfl) (by kernel_rfl) Tryd.underlying4 rfl rfl hW' hg⟩

theorem over : Rows.sha2PiecesRow.holds Tryd.pinned (OpenSpec.ofChange Rows.sha2PiecesSpec) :=
  OpenClaim.holds_of_wide 4 Tryd.f4 rfl rfl rfl rfl rfl rfl rfl ⟨rfl, rfl, rfl, rfl, rfl⟩ rfl rfl rfl rfl rfl (by kernel_rfl) Tryd.func4 (by kernel_rfl)
    (of_decide_eq_true (by kernel_rfl)) (by unfold Func.isWrapper; first | (rw [if_pos (by decide +kernel)]; kernel_rfl) | (rw [if_neg (by decide +kernel)]; exact ⟨rfl, rfl⟩))
    (fun os started H enc _ => lifted os started H enc)
end Go.Proofs.YtanmhpcfklageaaDoor.sha2Pieces

namespace Go.Proofs.YtanmhpcfklageaaDoor
open Go
theorem sha2Pieces_row_holds : Rows.Sha2PiecesSaid := sha2Pieces.over
theorem sha2Pieces_holds : Rows.Sha2PiecesCardSaid :=
  Claim7.holds_tied_plain_at .later [] [.data] true Rows.sha2PiecesCard.stood.harness false
    sha2Pieces_row_holds (fun _ h => by cases h) (by kernel_rfl) (fun _ h => by cases h) sha2Pieces_row_tie rfl ⟨rfl, rfl⟩ (by kernel_rfl) rfl
    (fun f fn hf hfn => by
      obtain rfl : f = 4 := Option.some.inj ((show Tryd.prog.funcNamed "diptych/diptychlaw03.Sha2Pieces" = some 4 by kernel_rfl).symm.trans hf) |>.symm
      obtain rfl : fn = Tryd.f4 := (Option.some.inj (Tryd.func4.symm.trans hfn)).symm
      exact ⟨by kernel_rfl, fun j t ht => by
        rw [Tryd.params4] at ht
        have hm : t ∈ [26, 3] := by simpa using Array.mem_of_getElem? ht
        have hall : ([26, 3].all fun u => !Tryd.prog.wantsStandIn u) = true := by kernel_rfl
        exact (show Tryd.prog.wantsStandIn t = false by simpa using List.all_eq_true.1 hall t hm)⟩)
    (by kernel_rfl)
end Go.Proofs.YtanmhpcfklageaaDoor
