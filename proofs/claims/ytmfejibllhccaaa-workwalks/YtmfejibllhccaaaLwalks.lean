/-
  Proved: WorkWalks returns true for every list, every number, every edges and every bad ones, and changes nothing that was there.
  Conditions: none beside the row's own.
-/
import Derived.Test.YtmfejibllhccaaaXi
import Derived.Test.YtmfejibllhccaaaWe
import Derived.Test.YtmfejibllhccaaaP
namespace Go.Proofs.Ytmfejibllhccaaa.workWalks
open Go.ChangeShapes Go.WideShapes Go.ChangeAt Go.RowKit
open Go.ChangeMaps (open_string)
set_option linter.unusedVariables false

open Hw Hx
theorem miss_few (first : List Int) (es : List (Int × Int)) (h1 : first.length ≤ 200) (h2 : es.length ≤ 120) : miss (first ++ es.map (·.2)) [] ≤ 400 := by
  unfold miss
  refine Nat.le_trans (List.length_filter_le _ _) ?_
  simp
  omega

theorem walk_len (most : Int) (es : List (Int × Int)) (bs first : List Int) (h1 : first.length ≤ 200) (h2 : es.length ≤ 120) : (walkF most es bs first).1.length ≤ 400 := by
  have h := (keeps_all (U := first ++ es.map (·.2)) (c := comeF most es bs (miss (first ++ es.map (·.2)) [] + 1)) (fun o x hx => keeps_come (fun k x hx => List.mem_append_right _ (nexts_mem hx)) _ o x hx) first [] (fun x hx => List.mem_append_left _ hx)).2
  have hm := miss_few first es h1 h2
  unfold walkF
  simp only [List.length_nil] at h
  omega

set_option maxHeartbeats 4000000 in
set_option maxRecDepth 100000 in
theorem walk (A0 : Option Addr) (c0 : Nat) (first : List Int) (most : Int) (Ae : Option Addr) (ce : Nat) (es : List (Int × Int)) (Ab : Option Addr) (cb : Nat) (bs : List Int) (W : World)
    (hf : Ints W W.heap.size A0 first) (hfw : ∀ x ∈ first, (Lit.int .i64 x).wf = true) (hmw : (Lit.int .i64 most).wf = true) (he : Prs W W.heap.size Ae es) (hew : ∀ x ∈ es, (Lit.int .i64 x.1).wf = true ∧ (Lit.int .i64 x.2).wf = true) (hb : Ints W W.heap.size Ab bs) (hbw : ∀ x ∈ bs, (Lit.int .i64 x).wf = true) :
    Calls Try.prog 5 #[.slice A0 first.length c0, .int .i64 most, .slice Ae es.length ce, .slice Ab bs.length cb] W fun e w' => e = .returned (.bool true) ∧ Below W.heap.size W w' := by
  have HB0 := Lib.hid (show Below W.heap.size W ((W.alloc (.cells #[.slice Ae es.length ce] 43)).alloc (.cells #[.slice Ab bs.length cb] 26)) from ((Below.refl _ W).alloc (Nat.le_refl _) _).alloc (by simp) _)
  have hE0 : ((W.alloc (.cells #[.slice Ae es.length ce] 43)).alloc (.cells #[.slice Ab bs.length cb] 26)).heap[W.heap.size]? = some (.cells #[.slice Ae es.length ce] 43) := (Below.heap_alloc _ _ _ (by simp)).trans (heap_alloc_new W _)
  have hE1 : ((W.alloc (.cells #[.slice Ae es.length ce] 43)).alloc (.cells #[.slice Ab bs.length cb] 26)).heap[W.heap.size + 1]? = some (.cells #[.slice Ab bs.length cb] 26) := by
    have := heap_alloc_new (W.alloc (.cells #[.slice Ae es.length ce] 43)) (.cells #[.slice Ab bs.length cb] 26)
    rwa [World.size_alloc] at this
  have hz0 : ((W.alloc (.cells #[.slice Ae es.length ce] 43)).alloc (.cells #[.slice Ab bs.length cb] 26)).heap.size = W.heap.size + 2 := by simp
  have HE := Lib.hid (And.intro hE0 (And.intro hE1 hz0))
  have HA := Lib.hid (And.intro hf (And.intro hfw (And.intro he (And.intro hew (And.intro hb hbw)))))
  clear hE0 hE1 hz0 hf hfw he hew hb hbw hmw
  go_enter Try.func5, Try.ntmps5
  go_wp2_with fail
  refine (awake_any _).mono ?_
  rintro e w1 ⟨rfl, hb1⟩
  have hz1 : W.heap.size + 2 ≤ w1.heap.size := by have := hb1.size; rw [HE.out.2.2] at this; exact this
  have hh0 : w1.heap[W.heap.size]? = some (.cells #[.slice Ae es.length ce] 43) := (hb1.block _ (by rw [HE.out.2.2]; omega)).trans HE.out.1
  have hh1 : w1.heap[W.heap.size + 1]? = some (.cells #[.slice Ab bs.length cb] 26) := (hb1.block _ (by rw [HE.out.2.2]; omega)).trans HE.out.2.1
  have HB1 := Lib.hid (HB0.out.trans (hb1.mono HB0.out.size))
  have k0 : w1.cell? ⟨W.heap.size, 0, none⟩ = some (.slice Ae es.length ce) := by rw [cell_of_cells hh0]; rfl
  have k1 : w1.cell? ⟨W.heap.size + 1, 0, none⟩ = some (.slice Ab bs.length cb) := by rw [cell_of_cells hh1]; rfl
  clear hb1 HB0 HE
  by_cases h50 : first.length ≤ 50
  · by_cases h120 : es.length ≤ 120
    · by_cases hb50 : bs.length ≤ 50
      · have h50' : ¬ (50 : Int) < first.length := by omega
        have h120' : ¬ (120 : Int) < es.length := by omega
        have hb50' : ¬ (50 : Int) < bs.length := by omega
        have HB2 := Lib.hid (show Below w1.heap.size w1 (w1.alloc (.cells #[.slice none 0 0] 26)) from (Below.refl _ w1).alloc (Nat.le_refl _) _)
        have hf2 : Ints (w1.alloc (.cells #[.slice none 0 0] 26)) (w1.alloc (.cells #[.slice none 0 0] 26)).heap.size A0 first := (((HA.out.1.below HB1.out).mono (by omega : W.heap.size ≤ w1.heap.size)).below HB2.out).mono HB2.out.size
        obtain ⟨v3, w3, hrun, hown, hb3⟩ := app_ints (w1.alloc (.cells #[.slice none 0 0] 26)) A0 c0 first hf2 (by omega)
        rw [World.size_alloc] at hrun hown hb3
        have hw2 : (w1.alloc (.cells #[.slice none 0 0] 26)).heap.size = w1.heap.size + 1 := by simp
        have hn2 : (w1.alloc (.cells #[.slice none 0 0] 26)).heap[w1.heap.size]? = some (.cells #[.slice none 0 0] 26) := heap_alloc_new w1 _
        have hk0 : (w1.alloc (.cells #[.slice none 0 0] 26)).cell? ⟨W.heap.size, 0, none⟩ = some (.slice Ae es.length ce) := (HB2.out.cell (p := ⟨W.heap.size, 0, none⟩) (by show W.heap.size < _; omega)).trans k0
        have hk1 : (w1.alloc (.cells #[.slice none 0 0] 26)).cell? ⟨W.heap.size + 1, 0, none⟩ = some (.slice Ab bs.length cb) := (HB2.out.cell (p := ⟨W.heap.size + 1, 0, none⟩) (by show W.heap.size + 1 < _; omega)).trans k1
        have he2 : Prs (w1.alloc (.cells #[.slice none 0 0] 26)) W.heap.size Ae es := (HA.out.2.2.1.below HB1.out).below (HB2.out.mono (by omega))
        have hbd2 : Ints (w1.alloc (.cells #[.slice none 0 0] 26)) W.heap.size Ab bs := (HA.out.2.2.2.2.1.below HB1.out).below (HB2.out.mono (by omega))
        have hok := okW (U := first ++ es.map (·.2)) (a := w1.heap.size) hk0 (by omega) hk1 (by omega) he2 hbd2 (by omega) (by omega) (by omega)
        have hj2 : JW (w1.alloc (.cells #[.slice none 0 0] 26)) w1.heap.size [] (List.range (w1.heap.size + 1)) (w1.alloc (.cells #[.slice none 0 0] 26)) := ⟨.slice none 0 0, _, by simp [Value.ownBlock], by simp, fun _ _ => rfl, hn2, World.ownsRow_nil _ _ _ _⟩
        have hj3 := jw_same hj2 (same_of_below (by rw [hw2]; exact hb3) (jw_lies hj2))
        have hnw3 := fun ad => own_new (ad := ad) hown
        obtain ⟨A3, c3, rfl, hin3⟩ := ints_own hown
        have hWk := walk_any hok (fun k x hx => List.mem_append_right _ (nexts_mem hx)) (fun x hx => by
            rcases List.mem_append.1 hx with hx | hx
            · exact HA.out.2.1 x hx
            · obtain ⟨q, hq, rfl⟩ := List.mem_map.1 hx
              exact (HA.out.2.2.2.1 q hq).2) w3 _ A3 c3 first most hj3 hin3 (fun ad ha => (hnw3 ad c3 (by rw [ha])).2) (fun x hx => List.mem_append_left _ hx) (by omega) (miss_few first es (by omega) h120) (by omega)
        have HW := Lib.hid (show Calls _ _ _ _ (WalkEnds _ _ _ (walkF most es bs first)) from hWk)
        have HRUN := Lib.hid hrun
        have hsz3 := hb3.size
        have HB3 := Lib.hid (show Below w1.heap.size w1 w3 from HB2.out.trans (hb3.mono (by omega)))
        have HK := Lib.hid (And.intro hk0 (And.intro hk1 (And.intro he2 hbd2)))
        clear hWk hok hj2 hj3 hnw3 hin3 hown hrun hb3 hf2 hn2 hk0 hk1 he2 hbd2
        go_wp2_with (at_builtin; refine wpList_append_run rfl (.tmp 30) (.tmp 31) 26 26 rfl _ _ _ w3 rfl rfl HRUN.out ?_)
        refine HW.out.mono ?_
        rintro e w4 ⟨A4, c4, S4, rfl, hin4, _, hj4, hu4⟩
        obtain ⟨va, ta, _, hsz4, hlow, hha, hoa⟩ := hj4
        obtain ⟨Aa, ca, rfl⟩ := own_slice hoa
        obtain ⟨_, _, ea, hina⟩ := ints_own hoa
        injection ea with ea _ _
        subst ea
        have hb4 : Below w1.heap.size w1 w4 := ⟨hu4.os.trans HB3.out.os, hu4.tape.trans HB3.out.tape, hu4.output.trans HB3.out.output, by omega, fun k hk => (hlow k hk).trans (HB2.out.block k hk)⟩
        have HB4 := Lib.hid (HB1.out.trans (hb4.mono (by omega)))
        have hk0 : w4.cell? ⟨W.heap.size, 0, none⟩ = some (.slice Ae es.length ce) := (hb4.cell (p := ⟨W.heap.size, 0, none⟩) (by show W.heap.size < _; omega)).trans k0
        have hk1 : w4.cell? ⟨W.heap.size + 1, 0, none⟩ = some (.slice Ab bs.length cb) := (hb4.cell (p := ⟨W.heap.size + 1, 0, none⟩) (by show W.heap.size + 1 < _; omega)).trans k1
        have hka : w4.cell? ⟨w1.heap.size, 0, none⟩ = some (.slice Aa (walkF most es bs first).1.length ca) := by rw [cell_of_cells hha]; rfl
        have HR := Lib.hid (rwalk_any w4 most es bs first A0 Ae Ab c0 ce cb ((HA.out.1.below HB4.out).mono (by omega)) ((HA.out.2.2.1.below HB4.out).mono (by omega)) ((HA.out.2.2.2.2.1.below HB4.out).mono (by omega)) (by omega) (by omega) (by omega))
        have HIN := Lib.hid (And.intro hin4 hina)
        have hrl := Nat.le_trans (walk_len most es bs first (by omega) h120) (by omega : 400 ≤ 100000)
        clear hin4 hina hu4 hlow hha hoa hb4 HW HRUN HB3 HK k0 k1 hh0 hh1
        generalize walkF most es bs first = R at *
        obtain ⟨r1, r2⟩ := R
        go_wp2_with fail
        refine HR.out.mono ?_
        rintro e w5 ⟨⟨A5, c5, rfl, hin5⟩, hb5⟩
        have HB5 := Lib.hid (HB4.out.trans (hb5.mono HB4.out.size))
        have hka5 : w5.cell? ⟨w1.heap.size, 0, none⟩ = some (.slice Aa r1.length ca) := (hb5.cell (p := ⟨w1.heap.size, 0, none⟩) (by show w1.heap.size < _; omega)).trans hka
        have hz5 := hb5.size
        have HIN5 := Lib.hid (And.intro ((HIN.out.1.below hb5).mono hz5) (And.intro ((HIN.out.2.below hb5).mono hz5) hin5))
        clear hin5 hb5 HR HIN hka hk0 hk1 HB4
        go_wp2_with fail
        refine (same_any w5 w5.heap.size A4 A5 c4 c5 r1 r1 HIN5.out.1 HIN5.out.2.2 (Nat.le_refl _) hrl hrl).mono ?_
        rintro e w6 ⟨rfl, hb6⟩
        rw [decide_eq_true rfl]
        have hka6 : w6.cell? ⟨w1.heap.size, 0, none⟩ = some (.slice Aa r1.length ca) := (hb6.cell (p := ⟨w1.heap.size, 0, none⟩) (by show w1.heap.size < _; omega)).trans hka5
        have HB6 := Lib.hid (HB5.out.trans (hb6.mono HB5.out.size))
        have hz6 := hb6.size
        have HIN6 := Lib.hid (And.intro ((HIN5.out.1.below hb6).mono hz6) ((HIN5.out.2.1.below hb6).mono hz6))
        clear hb6 HB5 HIN5 hka5
        go_wp2_with fail
        refine (same_any w6 w6.heap.size Aa A4 _ c4 r1 r1 HIN6.out.2 HIN6.out.1 (Nat.le_refl _) hrl hrl).mono ?_
        rintro e w7 ⟨rfl, hb7⟩
        rw [decide_eq_true rfl]
        have HB7 := Lib.hid (HB6.out.trans (hb7.mono HB6.out.size))
        clear hb7 HB6 HIN6 hka6
        go_wp2
        go_ret
        exact ⟨by simp, HB7.out⟩
      · have hb50' : (50 : Int) < bs.length := by omega
        have h50' : ¬ (50 : Int) < first.length := by omega
        have h120' : ¬ (120 : Int) < es.length := by omega
        go_wp2
        go_ret
        exact ⟨rfl, HB1.out⟩
    · have h120' : (120 : Int) < es.length := by omega
      have h50' : ¬ (50 : Int) < first.length := by omega
      go_wp2
      go_ret
      exact ⟨rfl, HB1.out⟩
  · have h50' : (50 : Int) < first.length := by omega
    go_wp2
    go_ret
    exact ⟨rfl, HB1.out⟩

theorem own : ownKnob Try.prog.godebug = none := by kernel_rfl

set_option maxRecDepth 100000 in
theorem lifted (os : Os) (started : os.Started) (H : Type) (enc : TypeId × Value → H) :
    ReturnsInHanded {} Try.checked os 5 .any (Rows.workWalksSpec.pre6 enc Try.prog Try.f5 Rows.workWalksRow.domain false) (Rows.workWalksSpec.post enc Try.prog Try.f5 false true false false) := by
  refine returnsInHanded_of_change (C := Try.checked) own started (by kernel_rfl) Try.func5
    (ChangeSpec.witness6 (enc := enc) (C := Try.checked) false ⟨#[], #[.slice none 0 0, .int .i64 0, .slice none 0 0, .slice none 0 0], []⟩ 8 (by kernel_rfl) (by kernel_rfl) (by kernel_rfl) (by kernel_rfl)) ?_
  intro W base args ds gs before hval0 hW hcnd _
  have hval : ∀ (j : Nat) t v, Try.f5.params[j]? = some t → args[j]? = some v → Value.okWide Try.prog W .any base t v := hval0
  have hW' := hW
  obtain ⟨p, q, hA0, hV, rfl, hfz, hnd⟩ := hW
  have hA : DataW.TrodAll enc Try.prog W 0 (fun _ => true) true Try.f5.params.toList args.toList ds p := hA0
  rw [Try.params5] at hA hval
  obtain ⟨v0, vs0, d0, ds0, p0, q0, hargs, rfl, rfl, h0, r0⟩ := trodAll_cons hA
  obtain ⟨v1, vs1, d1, ds1, p1, q1, rfl, rfl, rfl, h1, r1⟩ := trodAll_cons r0
  obtain ⟨v2, vs2, d2, ds2, p2, q2, rfl, rfl, rfl, h2, r2⟩ := trodAll_cons r1
  obtain ⟨v3, vs3, d3, ds3, p3, q3, rfl, rfl, rfl, h3, r3⟩ := trodAll_cons r2
  obtain ⟨rfl, rfl, rfl⟩ := trodAll_nil r3
  obtain rfl : args = #[v0, v1, v2, v3] := by cases args; simp_all
  obtain ⟨rfl, rfl⟩ := trodVars_none hV
  obtain ⟨A0, l0, c0, rfl, hr0, hw0⟩ := Hw.open_ints_arg (hval 0 26 v0 rfl rfl) h0
  obtain ⟨a1, rfl, rfl, rfl, w1⟩ := open_int Try.underlying3 (hval 1 3 v1 rfl rfl) h1
  obtain ⟨A2, l2, c2, rfl, hr2, hw2⟩ := Hw.open_edges_arg (hval 2 43 v2 rfl rfl) h2
  obtain ⟨A3, l3, c3, rfl, hr3, hw3⟩ := Hw.open_ints_arg (hval 3 26 v3 rfl rfl) h3
  clear hA0 hval0
  refine (walk A0 c0 l0 a1 A2 c2 l2 A3 c3 l3 W hr0 hw0 w1 hr2 hw2 hr3 hw3).mono fun e W' ⟨he, hg⟩ => ?_
  subst he
  exact ⟨_, rfl, law_post Try.laid (by kernel_rfl) (by kernel_rfl) Try.underlying4 rfl rfl hW' hg⟩

theorem over : Rows.workWalksRow.holds Try.pinned (OpenSpec.ofChange Rows.workWalksSpec) :=
  OpenClaim.holds_of_wide 5 Try.f5 rfl rfl rfl rfl rfl rfl rfl ⟨rfl, rfl, rfl, rfl, rfl⟩ rfl rfl rfl rfl rfl (by kernel_rfl) Try.func5 (by kernel_rfl)
    (of_decide_eq_true (by kernel_rfl)) (by unfold Func.isWrapper; first | (rw [if_pos (by decide +kernel)]; kernel_rfl) | (rw [if_neg (by decide +kernel)]; exact ⟨rfl, rfl⟩))
    (fun os started H enc _ => lifted os started H enc)
end Go.Proofs.Ytmfejibllhccaaa.workWalks

namespace Go.Proofs.Ytmfejibllhccaaa
theorem workWalks_holds : Rows.WorkWalksSaid := workWalks.over
end Go.Proofs.Ytmfejibllhccaaa
