/-
  Proved: Sha2Goes returns true for every two texts and every number, and changes nothing that was there: a state that was asked, or copied, goes on as one that wasn't.
  Conditions: none beside the row's own.
-/
import Derived.Test.YtanmhpcfklageaaDoorQq
import Derived.Test.YtanmhpcfklageaaDoorQl
import Derived.Test.YtanmhpcfklageaaDoorCards
import Derived.Test.YtanmhpcfklageaaDoorTie
namespace Go.Proofs.YtanmhpcfklageaaDoor.sha2Goes
open Go.ChangeShapes Go.WideShapes Go.ChangeAt Go.RowKit
open Go.ChangeMaps (open_string)
set_option linter.unusedVariables false

open Hs Ho
set_option maxHeartbeats 1000000 in
set_option maxRecDepth 100000 in
theorem walk (a b : ByteArray) (n : Int) (ha : a.size ≤ maxLen) (hb : b.size ≤ maxLen) (hn : (Lit.int .u8 n).wf = true) (w : World) (hK : Ks w) :
    Calls Tryd.prog 5 #[.string a, .string b, .int .u8 n] w fun e w' => e = .returned (.bool true) ∧ Below w.heap.size w w' := by
  have HK := Lib.hid hK
  obtain ⟨N, rfl⟩ : ∃ N : Nat, n = N := ⟨n.toNat, by have := (bounds_u8 hn).1; omega⟩
  have hN : N ≤ 255 := by have := (bounds_u8 hn).2; omega
  obtain ⟨r, hr⟩ : ∃ r, N % 5 = r := ⟨_, rfl⟩
  have hr5 : r < 5 := by omega
  have hm0 : (N : Int) % 5 = r := by omega
  clear hK hn hr
  go_enter Tryd.func5, Tryd.ntmps5
  go_wp2_with fail
  refine (awake_any _ HK.out).mono ?_
  rintro e1 w1 ⟨rfl, hb1⟩
  by_cases hsa : a.size ≤ 1000
  · have h1 : ¬ (1000 : Int) < a.size := by omega
    by_cases hsb : b.size ≤ 1000
    · have h2 : ¬ (1000 : Int) < b.size := by omega
      go_wp2_with fail
      refine (new_any _ (HK.out.under hb1)).mono ?_
      rintro e2 w2 ⟨p, rfl, hp, hst2, hb2⟩
      have hw2 := write_one w2 p [] a hst2 (by simp; omega)
      go_wp2_with fail
      refine hw2.mono ?_
      rintro e3 w3 ⟨rfl, hst3, hg3⟩
      have s1 := hb1.size
      have hb12 := hb1.trans (hb2.mono s1)
      have hb3 : Below w.heap.size w w3 := hb12.grown hg3 hb12.size (fun k hk => by injection hk with hk; omega)
      rw [List.nil_append] at hst3
      have HST := Lib.hid hst3
      have HB := Lib.hid hb3
      have hpl : w.heap.size ≤ p := by omega
      have HPL := Lib.hid hpl
      clear hst2 hw2 hg3 hb12 hb2 hst3 hb3 hb1 s1 hp hpl
      go_wp2_with fail
      go_loopg [7, 8] r (fun g s7 i wx => ∃ (k q : Nat), k ≤ r ∧ g = r - k ∧ i = .int .i64 k ∧ s7 = .pointer (some ⟨q, 0, none⟩) ∧ w.heap.size ≤ q ∧ St wx q a.data.toList ∧ Below w.heap.size w wx)
      case atStart => exact ⟨0, p, Nat.zero_le _, rfl, rfl, rfl, HPL.out, HST.out, HB.out⟩
      case round =>
        obtain ⟨k, q, hk, rfl, rfl, rfl, hq, hst, hbl⟩ := hrel
        clear HST HB HPL
        have hal : a.data.toList.length ≤ 1000000 := by simp; omega
        by_cases hlt : k < r
        · have h3 : (k : Int) < r := by omega
          have HST := Lib.hid hst
          have HB := Lib.hid hbl
          have hs4 := ssum_any wr q _ hst hal
          clear hst hbl
          go_wp2_with fail
          refine hs4.mono ?_
          rintro e4 w4 ⟨rfl, hb4⟩
          have hst4 := HST.out.below hb4 HST.out.lt
          have hbl4 := HB.out.trans (hb4.mono HB.out.size)
          have hs5 := sum_one a w4 hst4.ks (by omega)
          clear HST HB hb4 hs4
          generalize (⟨(S2.sum a.data.toList).toArray⟩ : ByteArray) = D at *
          have hD : (D.toList == D.toList) = true := by simp
          go_wp2_with fail
          refine hs5.mono ?_
          rintro e5 w5 ⟨rfl, hb5⟩
          have hst5 := hst4.below hb5 hst4.lt
          have hbl5 := hbl4.trans (hb5.mono hbl4.size)
          clear hst4 hbl4 hb5 hs5
          go_wp2_with fail
          refine (copy_any w5 q _ hst5).mono ?_
          rintro e6 w6 ⟨rfl, hst6, hb6⟩
          have HST := Lib.hid hst6
          have HB := Lib.hid (hbl5.trans (hb6.mono hbl5.size))
          have HL := Lib.hid hbl5.size
          clear hst5 hst6 hbl5 hb6
          go_wp2_with fail
          go_roundg (r - (k + 1))
          case rel => exact ⟨k + 1, _, by omega, rfl, by go_num, rfl, HL.out, HST.out, HB.out⟩
          case measure => omega
        · obtain rfl : k = r := by omega
          have h3 : ¬ (k : Int) < k := by omega
          have hw := write_three wr q _ b hst (by simp; omega)
          have HB := Lib.hid hbl
          clear hst hbl
          go_wp2_with fail
          refine hw.mono ?_
          rintro e4 w4 ⟨rfl, hst4, hg4⟩
          have hb4 : Below w.heap.size w w4 := HB.out.grown hg4 HB.out.size (fun k hk => by injection hk with hk; omega)
          rw [← text_append] at hst4
          have hab : (a ++ b : ByteArray).size ≤ 2000 := by rw [ByteArray.size_append]; omega
          have habl : (a ++ b : ByteArray).data.toList.length ≤ 1000000 := by rw [← Lib.size_eq]; omega
          clear hw HB hg4
          go_wp2_with fail
          refine (ssum_any w4 q _ hst4 habl).mono ?_
          rintro e5 w5 ⟨rfl, hb5⟩
          have hks5 := hst4.ks.under hb5
          have hbl5 := hb4.trans (hb5.mono hb4.size)
          have hs6 := sum_one (a ++ b) w5 hks5 (by omega)
          have hs8 := fun W (hW : Ks W) => sum_two a b W hW (by omega)
          rw [← text_append] at hs8
          have hs9 := fun W (hW : Ks W) => sum_one (a ++ b) W hW (by omega)
          clear hst4 hb4 hb5
          generalize (⟨(S2.sum (a ++ b : ByteArray).data.toList).toArray⟩ : ByteArray) = D at *
          have hD : (D.toList == D.toList) = true := by simp
          have HS9 := Lib.hid hs9
          have HS8 := Lib.hid hs8
          clear hs8 hs9
          go_wp2_with fail
          refine hs6.mono ?_
          rintro e6 w6 ⟨rfl, hb6⟩
          have hks6 := hks5.under hb6
          have hbl6 := hbl5.trans (hb6.mono hbl5.size)
          clear hs6 hb6 hks5 hbl5
          go_wp2_with fail
          refine (HS8.out w6 hks6).mono ?_
          rintro e7 w7 ⟨rfl, hb7⟩
          have hks7 := hks6.under hb7
          have hbl7 := hbl6.trans (hb7.mono hbl6.size)
          clear hb7 hks6 hbl6 HS8
          go_wp2_with fail
          refine (HS9.out w7 hks7).mono ?_
          rintro e8 w8 ⟨rfl, hb8⟩
          go_wp2
          go_ret
          exact ⟨rfl, hbl7.trans (hb8.mono hbl7.size)⟩
    · have h2 : (1000 : Int) < b.size := by omega
      go_wp2
      go_ret
      exact ⟨rfl, hb1⟩
  · have h1 : (1000 : Int) < a.size := by omega
    go_wp2
    go_ret
    exact ⟨rfl, hb1⟩

theorem own : ownKnob Tryd.prog.godebug = none := by kernel_rfl

set_option maxRecDepth 100000 in
theorem lifted (os : Os) (started : os.Started) (H : Type) (enc : TypeId × Value → H) :
    ReturnsInHanded {} Tryd.checked os 5 .any (fun w args => (Rows.sha2GoesSpec.pre enc Tryd.prog Tryd.f5 [] false w args ∧ laidMetH Tryd.prog [("diptych/sha2.constants", Rows.laid_diptych_sha2_constants)] w) ∧ sizedMet enc Tryd.prog Tryd.f5 (OpenSpec.ofChange Rows.sha2GoesSpec) false w args)
      (Rows.sha2GoesSpec.post enc Tryd.prog Tryd.f5 false true false false) := by
  refine returnsInHanded_of_change_and (C := Tryd.checked) (X := fun w _ => laidMetH Tryd.prog [("diptych/sha2.constants", Rows.laid_diptych_sha2_constants)] w) (fun _ _ _ hh h => h.of_heap hh) own started (by kernel_rfl) Tryd.func5
    (ChangeSpec.witness_shaped (enc := enc) (C := Tryd.checked) (os := os) (X := fun w _ => laidMetH Tryd.prog [("diptych/sha2.constants", Rows.laid_diptych_sha2_constants)] w) false (World.doorLaid Tryd.prog 400 os) #[.string ByteArray.empty, .string ByteArray.empty, .int .u8 0] 8 rfl (World.shaped_of_RefB (by kernel_rfl) (by kernel_rfl)) (by kernel_rfl) (by kernel_rfl) (by kernel_rfl) (door_met os _)) ?_
  intro W base args ds gs before hval0 hW _ _ hL _
  have hval : ∀ (j : Nat) t v, Tryd.f5.params[j]? = some t → args[j]? = some v → Value.okWide Tryd.prog W .any base t v := hval0
  have hW' := hW
  obtain ⟨p, q, hA0, hV, rfl, hfz, hnd⟩ := hW
  have hA : DataW.TrodAll enc Tryd.prog W 0 (fun _ => true) true Tryd.f5.params.toList args.toList ds p := hA0
  rw [Tryd.params5] at hA hval
  obtain ⟨v0, vs0, d0, ds0, p0, q0, hargs, rfl, rfl, h0, r0⟩ := trodAll_cons hA
  obtain ⟨v1, vs1, d1, ds1, p1, q1, rfl, rfl, rfl, h1, r1⟩ := trodAll_cons r0
  obtain ⟨v2, vs2, d2, ds2, p2, q2, rfl, rfl, rfl, h2, r2⟩ := trodAll_cons r1
  obtain ⟨rfl, rfl, rfl⟩ := trodAll_nil r2
  obtain rfl : args = #[v0, v1, v2] := by cases args; simp_all
  obtain ⟨rfl, rfl⟩ := trodVars_none hV
  obtain ⟨a0, rfl, rfl, rfl, w0⟩ := open_string Tryd.underlying9 (hval 0 9 v0 rfl rfl) h0
  obtain ⟨a1, rfl, rfl, rfl, w1⟩ := open_string Tryd.underlying9 (hval 1 9 v1 rfl rfl) h1
  obtain ⟨a2, rfl, rfl, rfl, w2⟩ := open_int Tryd.underlying5 (hval 2 5 v2 rfl rfl) h2
  clear hA0 hval0
  refine (walk a0 a1 a2 w0 w1 w2 W (ks_of_laid hL)).mono fun e W' ⟨he, hg⟩ => ?_
  subst he
  exact ⟨_, rfl, law_post Tryd.laid (by kernel_rfl) (by kernel_rfl) Tryd.underlying4 rfl rfl hW' hg⟩

theorem over : Rows.sha2GoesRow.holds Tryd.pinned (OpenSpec.ofChange Rows.sha2GoesSpec) :=
  OpenClaim.holds_of_wide 5 Tryd.f5 rfl rfl rfl rfl rfl rfl rfl ⟨rfl, rfl, rfl, rfl, rfl⟩ rfl rfl rfl rfl rfl (by kernel_rfl) Tryd.func5 (by kernel_rfl)
    (of_decide_eq_true (by kernel_rfl)) (by unfold Func.isWrapper; first | (rw [if_pos (by decide +kernel)]; kernel_rfl) | (rw [if_neg (by decide +kernel)]; exact ⟨rfl, rfl⟩))
    (fun os started H enc _ => lifted os started H enc)
end Go.Proofs.YtanmhpcfklageaaDoor.sha2Goes

namespace Go.Proofs.YtanmhpcfklageaaDoor
open Go
theorem sha2Goes_row_holds : Rows.Sha2GoesSaid := sha2Goes.over
theorem sha2Goes_holds : Rows.Sha2GoesCardSaid :=
  Claim7.holds_tied_plain_at .later [] [.data] true Rows.sha2GoesCard.stood.harness false
    sha2Goes_row_holds (fun _ h => by cases h) (by kernel_rfl) (fun _ h => by cases h) sha2Goes_row_tie rfl ⟨rfl, rfl⟩ (by kernel_rfl) rfl
    (fun f fn hf hfn => by
      obtain rfl : f = 5 := Option.some.inj ((show Tryd.prog.funcNamed "diptych/diptychlaw03.Sha2Goes" = some 5 by kernel_rfl).symm.trans hf) |>.symm
      obtain rfl : fn = Tryd.f5 := (Option.some.inj (Tryd.func5.symm.trans hfn)).symm
      exact ⟨by kernel_rfl, fun j t ht => by
        rw [Tryd.params5] at ht
        have hm : t ∈ [9, 9, 5] := by simpa using Array.mem_of_getElem? ht
        have hall : ([9, 9, 5].all fun u => !Tryd.prog.wantsStandIn u) = true := by kernel_rfl
        exact (show Tryd.prog.wantsStandIn t = false by simpa using List.all_eq_true.1 hall t hm)⟩)
    (by kernel_rfl)
end Go.Proofs.YtanmhpcfklageaaDoor
