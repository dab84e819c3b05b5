/-
  Proved: WorkReaches returns true for every list and every edges, and changes nothing that was there.
  Conditions: none beside the row's own.
-/
import Derived.Test.YtmfejibllhccaaaXi
import Derived.Test.YtmfejibllhccaaaWe
import Derived.Test.YtmfejibllhccaaaWg
import Derived.Test.YtmfejibllhccaaaSt
import Derived.Test.YtmfejibllhccaaaP
namespace Go.Proofs.Ytmfejibllhccaaa.workReaches
open Go.ChangeShapes Go.WideShapes Go.ChangeAt Go.RowKit
open Go.ChangeMaps (open_string)
set_option linter.unusedVariables false

open Hw Hx
theorem ints_take {w : World} {B : Nat} {A : Option Addr} {l : List Int} (h : Ints w B A l) (i : Nat) : Ints w B A (l.take i) := fun j hj => by
  have hj2 : j < i ∧ j < l.length := by rw [List.length_take] at hj; omega
  obtain ⟨ad, e, hlt, hc⟩ := h j hj2.2
  exact ⟨ad, e, hlt, by rw [hc]; simp [List.getD, hj2.1]⟩

set_option maxHeartbeats 4000000 in
set_option maxRecDepth 100000 in
theorem walk (A0 : Option Addr) (c0 : Nat) (first : List Int) (Ae : Option Addr) (ce : Nat) (es : List (Int × Int)) (W : World)
    (hf : Ints W W.heap.size A0 first) (hfw : ∀ x ∈ first, (Lit.int .i64 x).wf = true) (he : Prs W W.heap.size Ae es) (hew : ∀ x ∈ es, (Lit.int .i64 x.1).wf = true ∧ (Lit.int .i64 x.2).wf = true) :
    Calls Try.prog 6 #[.slice A0 first.length c0, .slice Ae es.length ce] W fun e w' => e = .returned (.bool true) ∧ Below W.heap.size W w' := by
  have HB0 := Lib.hid (show Below W.heap.size W (W.alloc (.cells #[.slice Ae es.length ce] 43)) from (Below.refl _ W).alloc (Nat.le_refl _) _)
  have hE0 : (W.alloc (.cells #[.slice Ae es.length ce] 43)).heap[W.heap.size]? = some (.cells #[.slice Ae es.length ce] 43) := heap_alloc_new W _
  have hz0 : (W.alloc (.cells #[.slice Ae es.length ce] 43)).heap.size = W.heap.size + 1 := by simp
  have HE := Lib.hid (And.intro hE0 hz0)
  have HA := Lib.hid (And.intro hf (And.intro hfw (And.intro he hew)))
  clear hE0 hz0 hf hfw he hew
  go_enter Try.func6, Try.ntmps6
  go_wp2_with fail
  refine (awake_any _).mono ?_
  rintro e w1 ⟨rfl, hb1⟩
  have hz1 : W.heap.size + 1 ≤ w1.heap.size := by have := hb1.size; rw [HE.out.2] at this; exact this
  have hh0 : w1.heap[W.heap.size]? = some (.cells #[.slice Ae es.length ce] 43) := (hb1.block _ (by rw [HE.out.2]; omega)).trans HE.out.1
  have HB1 := Lib.hid (HB0.out.trans (hb1.mono HB0.out.size))
  have k0 : w1.cell? ⟨W.heap.size, 0, none⟩ = some (.slice Ae es.length ce) := by rw [cell_of_cells hh0]; rfl
  clear hb1 HB0 HE
  by_cases h50 : first.length ≤ 50
  · by_cases h120 : es.length ≤ 120
    · have h50' : ¬ (50 : Int) < first.length := by omega
      have h120' : ¬ (120 : Int) < es.length := by omega
      have hf2 : Ints w1 w1.heap.size A0 first := (HA.out.1.below HB1.out).mono (by omega : W.heap.size ≤ w1.heap.size)
      obtain ⟨v3, w3, hrun, hown, hb3⟩ := app_ints w1 A0 c0 first hf2 (by omega)
      have he2 : Prs w1 W.heap.size Ae es := HA.out.2.2.1.below HB1.out
      have hok := okR (U := first ++ es.map (·.2)) (B := w1.heap.size) k0 (by omega) he2 (by omega) (by omega)
      have hj2 : JE w1 w1.heap.size [] (List.range w1.heap.size) w1 := ⟨rfl, Nat.le_refl _, fun _ _ => rfl⟩
      have hj3 := je_same hj2 (same_of_below hb3 (je_lies hj2))
      have hnw3 := fun ad => own_new (ad := ad) hown
      obtain ⟨A3, c3, rfl, hin3⟩ := ints_own hown
      have hWk := walk_any hok uni (fun x hx => by
          rcases List.mem_append.1 hx with hx | hx
          · exact HA.out.2.1 x hx
          · obtain ⟨q, hq, rfl⟩ := List.mem_map.1 hx
            exact (HA.out.2.2.2 q hq).2) w3 _ A3 c3 first 1000 hj3 hin3 (fun ad ha => (hnw3 ad c3 (by rw [ha])).2) (fun x hx => List.mem_append_left _ hx) (by omega) (Nat.le_trans (miss_le es first) (by omega)) (by omega)
      have HW := Lib.hid (show Calls _ _ _ _ (WalkEnds _ _ _ (walkF 1000 es [] first)) from hWk)
      have HRUN := Lib.hid hrun
      have hsz3 := hb3.size
      have HB3 := Lib.hid hb3
      have hyes := wf_true es first (most := 1000) (by omega)
      have HF := Lib.hid (And.intro (wf_all es first hyes) (And.intro (wf_nodup es first 1000 []) (wf_told es first 1000 [])))
      have hll := wf_len es first 1000 []
      clear hWk hok hj2 hj3 hnw3 hin3 hown hrun hb3 hf2 he2
      generalize walkF 1000 es [] first = R at *
      obtain ⟨l, r2⟩ := R
      simp only at hyes hll
      subst hyes
      go_wp2_with (at_builtin; refine wpList_append_run rfl (.tmp 23) (.tmp 24) 26 26 rfl _ _ _ w3 rfl rfl HRUN.out ?_)
      refine HW.out.mono ?_
      rintro e w4 ⟨A4, c4, S4, rfl, hin4, hcap, hj4, hu4⟩
      obtain ⟨_, hsz4, hlow⟩ := hj4
      have hb4 : Below w1.heap.size w1 w4 := ⟨hu4.os.trans HB3.out.os, hu4.tape.trans HB3.out.tape, hu4.output.trans HB3.out.output, by omega, fun k hk => hlow k hk⟩
      have HB4 := Lib.hid (HB1.out.trans (hb4.mono (by omega)))
      have hk0 : w4.cell? ⟨W.heap.size, 0, none⟩ = some (.slice Ae es.length ce) := (hb4.cell (p := ⟨W.heap.size, 0, none⟩) (by show W.heap.size < _; omega)).trans k0
      have HIN := Lib.hid (show Ints w4 w4.heap.size A4 l from hin4)
      have HFI := Lib.hid ((HA.out.1.below HB4.out).mono (by omega : W.heap.size ≤ w4.heap.size))
      have HES := Lib.hid ((HA.out.2.2.1.below HB4.out).mono (by omega : W.heap.size ≤ w4.heap.size))
      have HCAP := Lib.hid (show ∀ ad, A4 = some ad → l.length ≤ c4 ∧ c4 ≤ maxLen from fun ad ha => (hcap ad ha).2.2)
      have hl4 : l.length ≤ 200 := by omega
      clear hcap
      clear hin4 hu4 hlow hb4 HW HRUN HB3 k0 hh0 HA HB1 hll hsz3
      go_wp2
      go_loopg [7] first.length (fun g i wr => ∃ k : Nat, k ≤ first.length ∧ g = first.length - k ∧ i = .int .i64 k ∧ w4 = wr)
      case atStart => exact ⟨0, Nat.zero_le _, rfl, rfl, rfl⟩
      case round =>
        obtain ⟨k, hk, rfl, rfl, rfl⟩ := hrel
        by_cases hlt : k < first.length
        · have h1 : (k : Int) < first.length := by omega
          have h0 : (0 : Int) ≤ k := by omega
          obtain ⟨ad, hA, hB, hc⟩ := HFI.out k hlt
          have hm : first.getD k 0 ∈ l := HF.out.1.1 _ (getD_mem hlt)
          have HC := Lib.hid (in_any w4 w4.heap.size A4 c4 l (first.getD k 0) HIN.out (by omega))
          rw [decide_eq_true hm] at HC
          subst hA
          generalize first.getD k 0 = x at *
          clear hm
          go_wp2_with fail
          refine HC.out.mono ?_
          rintro e w5 ⟨rfl, rfl⟩
          clear HC
          go_wp2
          go_roundg (first.length - (k + 1))
          case rel => exact ⟨k + 1, by omega, rfl, by go_num, rfl⟩
          case measure => omega
        · obtain rfl : k = first.length := by omega
          go_wp2
          go_loopg [8] es.length (fun g i wr => ∃ k : Nat, k ≤ es.length ∧ g = es.length - k ∧ i = .int .i64 k ∧ w4 = wr)
          case atStart => exact ⟨0, Nat.zero_le _, rfl, rfl, rfl⟩
          case round =>
            obtain ⟨k, hk, rfl, rfl, rfl⟩ := hrel
            by_cases hlt : k < es.length
            · have h1 : (k : Int) < es.length := by omega
              have h0 : (0 : Int) ≤ k := by omega
              obtain ⟨ad, hA, hB, hc1, hc2⟩ := HES.out k hlt
              have HC1 := Lib.hid (in_any w4 w4.heap.size A4 c4 l (es.getD k (0, 0)).1 HIN.out (by omega))
              have HC2 := Lib.hid (in_any w4 w4.heap.size A4 c4 l (es.getD k (0, 0)).2 HIN.out (by omega))
              subst hA
              by_cases hin : (es.getD k (0, 0)).1 ∈ l
              · have hm : (es.getD k (0, 0)).2 ∈ l := HF.out.1.2 _ hin (by simp) _ (mem_nexts.2 (getD_prs hlt))
                rw [decide_eq_true hin] at HC1
                rw [decide_eq_true hm] at HC2
                generalize (es.getD k (0, 0)).1 = x at *
                generalize (es.getD k (0, 0)).2 = y at *
                clear hm hin
                go_wp2_with fail
                refine HC1.out.mono ?_
                rintro e w5 ⟨rfl, rfl⟩
                clear HC1
                go_wp2_with fail
                refine HC2.out.mono ?_
                rintro e w6 ⟨rfl, rfl⟩
                clear HC2
                go_wp2
                go_roundg (es.length - (k + 1))
                case rel => exact ⟨k + 1, by omega, rfl, by go_num, rfl⟩
                case measure => omega
              · rw [decide_eq_false hin] at HC1
                generalize (es.getD k (0, 0)).1 = x at *
                generalize (es.getD k (0, 0)).2 = y at *
                clear hin HC2
                go_wp2_with fail
                refine HC1.out.mono ?_
                rintro e w5 ⟨rfl, rfl⟩
                clear HC1
                go_wp2
                go_roundg (es.length - (k + 1))
                case rel => exact ⟨k + 1, by omega, rfl, by go_num, rfl⟩
                case measure => omega
            · obtain rfl : k = es.length := by omega
              go_wp2
              go_loopg [9, 10, 11] l.length (fun g i u10 u11 wr => ∃ k : Nat, k ≤ l.length ∧ g = l.length - k ∧ i = .int .i64 k ∧ Below w4.heap.size w4 wr)
              case atStart => exact ⟨0, Nat.zero_le _, rfl, rfl, Below.refl _ _⟩
              case round =>
                obtain ⟨i, hi, rfl, rfl, hbl⟩ := hrel
                by_cases hlt : i < l.length
                · have h1 : (i : Int) < l.length := by omega
                  have h0 : (0 : Int) ≤ i := by omega
                  have hs := hbl.size
                  obtain ⟨ad, hA, hB, hc⟩ := (HIN.out.below hbl) i hlt
                  have HC := Lib.hid (in_any wr w4.heap.size A0 c0 first (l.getD i 0) (HFI.out.below hbl) (by omega))
                  rw [← toldB_zero first l es i] at HC
                  have hcap := HCAP.out ad hA
                  have hcl : (i : Int) ≤ c4 := by omega
                  have hcm : c4 ≤ 9223372036854775807 := by have := hcap.2; unfold maxLen at this; omega
                  subst hA
                  have HT := Lib.hid (toldB_all HF.out.2.2 hlt)
                  have hnd := nodup_take HF.out.2.1 hlt
                  have hts := fun k hk => toldB_succ first l es i k hk
                  have hti : (l.take i).length = i := by simp; omega
                  have HLI := Lib.hid (fun (w : World) (hb : Below w4.heap.size w4 w) => (HIN.out.below hb) i hlt)
                  obtain ⟨x, hx⟩ : ∃ x, x = l.getD i 0 := ⟨_, rfl⟩
                  rw [← hx] at hc HC hts hnd HLI
                  have HTS := Lib.hid hts
                  have HND := Lib.hid hnd
                  have HTI := Lib.hid hti
                  have HBL := Lib.hid hbl
                  clear hx hts hnd hti hbl hcap
                  go_wp2_with fail
                  refine HC.out.mono ?_
                  rintro e w5 ⟨rfl, rfl⟩
                  clear HC
                  go_wp2
                  go_loopg [10, 11] es.length (fun g t kk wr => ∃ k : Nat, k ≤ es.length ∧ g = es.length - k ∧ kk = .int .i64 k ∧ t = .bool (toldB first l es i k) ∧ Below w4.heap.size w4 wr)
                  case atStart => exact ⟨0, Nat.zero_le _, rfl, rfl, rfl, HBL.out⟩
                  case round =>
                    obtain ⟨k, hk, rfl, rfl, rfl, hb2⟩ := hrel
                    obtain ⟨ad3, hA3, hB3, hc3⟩ := HLI.out _ hb2
                    injection hA3 with hA3
                    subst hA3
                    have kE : wr.cell? ⟨W.heap.size, 0, none⟩ = some (.slice Ae es.length ce) := (hb2.cell (p := ⟨W.heap.size, 0, none⟩) (by show W.heap.size < _; omega)).trans hk0
                    have hin3 := ints_take (HIN.out.below hb2.drew) i
                    have HB2 := Lib.hid hb2
                    clear hb2 hk0 hc
                    by_cases hk2 : k < es.length
                    · have hk1 : (k : Int) < es.length := by omega
                      have hk0' : (0 : Int) ≤ k := by omega
                      obtain ⟨ad2, hA2, hB2, hc1, hc2⟩ := (HES.out.below HB2.out) k hk2
                      have hts := HTS.out k hk2
                      have hC2 := in_any wr.drew w4.heap.size (some ad) c4 (l.take i) (es.getD k (0, 0)).1 hin3 (by rw [HTI.out]; omega)
                      rw [HTI.out] at hC2
                      subst hA2
                      clear hin3
                      by_cases ht : toldB first l es i k = true
                      · rw [ht, Bool.true_or] at hts
                        have HTS2 := Lib.hid hts
                        rw [ht]
                        clear hts ht hC2
                        generalize (es.getD k (0, 0)).1 = y1 at *
                        generalize (es.getD k (0, 0)).2 = y2 at *
                        go_wp2_with fail
                        refine wp_region_still_lit (by kernel_rfl) (by kernel_rfl) ?_
                        change wpStill _ _ (World.drew _) (fun a' => Exit.inBlock _ _ _ a' (World.drew _)) _ _
                        iterate 2 ((with_reducible refine wpStill_step ?_); intro K hK; go_simp; refine hK _ ?_; clear hK K)
                        iterate 21 ((with_reducible refine wpStill_skip ?_ ?_); rfl; go_simp)
                        iterate 2 ((with_reducible refine wpStill_step ?_); intro K hK; go_simp; refine hK _ ?_; clear hK K)
                        refine wpStill_nil ?_
                        go_wp2
                        go_roundg (es.length - (k + 1))
                        case rel => exact ⟨k + 1, by omega, rfl, by go_num, by rw [HTS2.out], HB2.out.drew⟩
                        case measure => omega
                      · rw [Bool.eq_false_iff.2 ht, Bool.false_or] at hts
                        rw [Bool.eq_false_iff.2 ht]
                        clear ht
                        by_cases he : (es.getD k (0, 0)).2 = x
                        · rw [decide_eq_true he, Bool.true_and] at hts
                          rw [he] at hc2
                          have HTS2 := Lib.hid hts
                          have HC2 := Lib.hid hC2
                          clear he hts hC2
                          generalize (es.getD k (0, 0)).1 = y1 at *
                          go_wp2_with fail
                          refine wp_region_still_lit (by kernel_rfl) (by kernel_rfl) ?_
                          change wpStill _ _ (World.drew _) (fun a' => Exit.inBlock _ _ _ a' (World.drew _)) _ _
                          iterate 21 ((with_reducible refine wpStill_step ?_); intro K hK; go_simp; refine hK _ ?_; clear hK K)
                          ((with_reducible refine wpStill_step ?_); intro K hK; go_simp; refine ⟨_, HC2.out, hK _ ?_⟩; clear hK K)
                          iterate 3 ((with_reducible refine wpStill_step ?_); intro K hK; go_simp; refine hK _ ?_; clear hK K)
                          refine wpStill_nil ?_
                          go_wp2
                          go_roundg (es.length - (k + 1))
                          case rel => exact ⟨k + 1, by omega, rfl, by go_num, by rw [HTS2.out], HB2.out.drew⟩
                          case measure => omega
                        · rw [decide_eq_false he, Bool.false_and] at hts
                          have HTS2 := Lib.hid hts
                          clear hts hC2
                          generalize (es.getD k (0, 0)).1 = y1 at *
                          generalize (es.getD k (0, 0)).2 = y2 at *
                          have hq1 : (y2 == x) = false := by simpa using he
                          have hq2 : decide (y2 = x) = false := decide_eq_false he
                          go_wp2_with fail
                          refine wp_region_still_lit (by kernel_rfl) (by kernel_rfl) ?_
                          change wpStill _ _ (World.drew _) (fun a' => Exit.inBlock _ _ _ a' (World.drew _)) _ _
                          iterate 13 ((with_reducible refine wpStill_step ?_); intro K hK; go_simp; refine hK _ ?_; clear hK K)
                          iterate 9 ((with_reducible refine wpStill_skip ?_ ?_); rfl; go_simp)
                          iterate 3 ((with_reducible refine wpStill_step ?_); intro K hK; go_simp; refine hK _ ?_; clear hK K)
                          refine wpStill_nil ?_
                          go_wp2
                          go_roundg (es.length - (k + 1))
                          case rel => exact ⟨k + 1, by omega, rfl, by go_num, by rw [HTS2.out], HB2.out.drew⟩
                          case measure => omega
                    · obtain rfl : k = es.length := by omega
                      rw [HT.out]
                      have hC3 := in_any wr.drew w4.heap.size (some ad) c4 (l.take i) x hin3 (by rw [HTI.out]; omega)
                      rw [HTI.out, decide_eq_false HND.out] at hC3
                      have HC3 := Lib.hid hC3
                      clear hC3 hin3
                      go_wp2_with fail
                      refine wp_region_still_lit (by kernel_rfl) (by kernel_rfl) ?_
                      change wpStill _ _ (World.drew _) (fun a' => Exit.then _ _ _ a' (World.drew _)) _ _
                      iterate 10 ((with_reducible refine wpStill_step ?_); intro K hK; go_simp; refine hK _ ?_; clear hK K)
                      ((with_reducible refine wpStill_step ?_); intro K hK; go_simp; refine ⟨_, HC3.out, hK _ ?_⟩; clear hK K)
                      ((with_reducible refine wpStill_step ?_); intro K hK; go_simp; refine hK _ ?_; clear hK K)
                      refine wpStill_nil ?_
                      go_wp2
                      go_roundg (l.length - (i + 1))
                      case rel => exact ⟨i + 1, by omega, rfl, by go_num, HB2.out.drew⟩
                      case measure => omega
                · go_wp2
                  go_ret
                  exact ⟨rfl, HB4.out.trans (hbl.mono HB4.out.size)⟩
    · have h120' : (120 : Int) < es.length := by omega
      have h50' : ¬ (50 : Int) < first.length := by omega
      go_wp2
      go_ret
      exact ⟨rfl, HB1.out⟩
  · have h50' : (50 : Int) < first.length := by omega
    go_wp2
    go_ret
    exact ⟨rfl, HB1.out⟩

theorem own : ownKnob Try.prog.godebug = none := by kernel_rfl

set_option maxRecDepth 100000 in
theorem lifted (os : Os) (started : os.Started) (H : Type) (enc : TypeId × Value → H) :
    ReturnsInHanded {} Try.checked os 6 .any (Rows.workReachesSpec.pre6 enc Try.prog Try.f6 Rows.workReachesRow.domain false) (Rows.workReachesSpec.post enc Try.prog Try.f6 false true false false) := by
  refine returnsInHanded_of_change (C := Try.checked) own started (by kernel_rfl) Try.func6
    (ChangeSpec.witness6 (enc := enc) (C := Try.checked) false ⟨#[], #[.slice none 0 0, .slice none 0 0], []⟩ 8 (by kernel_rfl) (by kernel_rfl) (by kernel_rfl) (by kernel_rfl)) ?_
  intro W base args ds gs before hval0 hW hcnd _
  have hval : ∀ (j : Nat) t v, Try.f6.params[j]? = some t → args[j]? = some v → Value.okWide Try.prog W .any base t v := hval0
  have hW' := hW
  obtain ⟨p, q, hA0, hV, rfl, hfz, hnd⟩ := hW
  have hA : DataW.TrodAll enc Try.prog W 0 (fun _ => true) true Try.f6.params.toList args.toList ds p := hA0
  rw [Try.params6] at hA hval
  obtain ⟨v0, vs0, d0, ds0, p0, q0, hargs, rfl, rfl, h0, r0⟩ := trodAll_cons hA
  obtain ⟨v1, vs1, d1, ds1, p1, q1, rfl, rfl, rfl, h1, r1⟩ := trodAll_cons r0
  obtain ⟨rfl, rfl, rfl⟩ := trodAll_nil r1
  obtain rfl : args = #[v0, v1] := by cases args; simp_all
  obtain ⟨rfl, rfl⟩ := trodVars_none hV
  obtain ⟨A0, l0, c0, rfl, hr0, hw0⟩ := Hw.open_ints_arg (hval 0 26 v0 rfl rfl) h0
  obtain ⟨A1, l1, c1, rfl, hr1, hw1⟩ := Hw.open_edges_arg (hval 1 43 v1 rfl rfl) h1
  clear hA0 hval0
  refine (walk A0 c0 l0 A1 c1 l1 W hr0 hw0 hr1 hw1).mono fun e W' ⟨he, hg⟩ => ?_
  subst he
  exact ⟨_, rfl, law_post Try.laid (by kernel_rfl) (by kernel_rfl) Try.underlying4 rfl rfl hW' hg⟩

theorem over : Rows.workReachesRow.holds Try.pinned (OpenSpec.ofChange Rows.workReachesSpec) :=
  OpenClaim.holds_of_wide 6 Try.f6 rfl rfl rfl rfl rfl rfl rfl ⟨rfl, rfl, rfl, rfl, rfl⟩ rfl rfl rfl rfl rfl (by kernel_rfl) Try.func6 (by kernel_rfl)
    (of_decide_eq_true (by kernel_rfl)) (by unfold Func.isWrapper; first | (rw [if_pos (by decide +kernel)]; kernel_rfl) | (rw [if_neg (by decide +kernel)]; exact ⟨rfl, rfl⟩))
    (fun os started H enc _ => lifted os started H enc)
end Go.Proofs.Ytmfejibllhccaaa.workReaches

namespace Go.Proofs.Ytmfejibllhccaaa
theorem workReaches_holds : Rows.WorkReachesSaid := workReaches.over
end Go.Proofs.Ytmfejibllhccaaa
