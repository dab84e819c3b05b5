/-
  Proved: WorkOnce returns true for every list and every edges, and changes nothing that was there.
  Conditions: none beside the row's own.
-/
import Derived.Test.YtmfejibllhccaaaXi
import Derived.Test.YtmfejibllhccaaaWe
import Derived.Test.YtmfejibllhccaaaWg
import Derived.Test.YtmfejibllhccaaaP
namespace Go.Proofs.Ytmfejibllhccaaa.workOnce
open Go.ChangeShapes Go.WideShapes Go.ChangeAt Go.RowKit
open Go.ChangeMaps (open_string)
set_option linter.unusedVariables false

open Hw Hx
theorem wf_sub (es : List (Int × Int)) (first : List Int) (most : Int) (bs : List Int) : ∀ x, x ∈ (walkF most es bs first).1 → x ∈ first ++ es.map (·.2) := fun x hx => by
  obtain ⟨i, hi, rfl⟩ := List.mem_iff_getElem.1 hx
  have h := (wf_told es first most bs).2 i (Nat.zero_le _) hi
  simp only [List.getD, List.getElem?_eq_getElem hi, Option.getD_some] at h
  rcases h with h | ⟨j, _, h⟩
  · exact List.mem_append_left _ h
  · exact List.mem_append_right _ (nexts_mem h)
theorem once_call (w : World) (bE : Nat) (Ae : Option Addr) (ce : Nat) (es : List (Int × Int)) (hE : w.cell? ⟨bE, 0, none⟩ = some (.slice Ae es.length ce)) (hbE : bE < w.heap.size) (hes : Prs w w.heap.size Ae es) (hew : ∀ x ∈ es, (Lit.int .i64 x.1).wf = true ∧ (Lit.int .i64 x.2).wf = true)
    (A : Option Addr) (c : Nat) (first : List Int) (hf : Ints w w.heap.size A first) (hfw : ∀ x ∈ first, (Lit.int .i64 x).wf = true) (hfl : first.length ≤ 200) (hel : es.length ≤ 120) (most : Int) :
    ∃ A3 c3 w3, (Builtin.append_ #[26, 26] 26 #[.slice (some ⟨w.heap.size, 0, none⟩) 0 0, .slice A first.length c]).run Try.prog (w.alloc (.cells #[] 3)) = .ok (.slice A3 first.length c3) w3 ∧
      Calls Try.prog 22 #[.slice A3 first.length c3, .int .i64 most, .func (.func 28) #[] #[.pointer (some ⟨bE, 0, none⟩)]] w3 fun e w4 => (∃ A4 c4, e = .returned (.tuple #[.slice A4 (walkF most es [] first).1.length c4, .bool (walkF most es [] first).2]) ∧ Ints w4 w4.heap.size A4 (walkF most es [] first).1) ∧ Below w.heap.size w w4 := by
  obtain ⟨v3, w3, hrun, hown, hb3⟩ := app_ints w A c first hf (by omega)
  have hok := okO (U := first ++ es.map (·.2)) (B := w.heap.size) hE hbE hes (Nat.le_refl _) (by omega)
  have hj2 : JE w w.heap.size [] (List.range w.heap.size) w := ⟨rfl, Nat.le_refl _, fun _ _ => rfl⟩
  have hj3 := je_same hj2 (same_of_below hb3 (je_lies hj2))
  have hnw3 := fun ad => own_new (ad := ad) hown
  obtain ⟨A3, c3, rfl, hin3⟩ := ints_own hown
  have hWk := walk_any hok uni (fun x hx => by
      rcases List.mem_append.1 hx with hx | hx
      · exact hfw x hx
      · obtain ⟨q, hq, rfl⟩ := List.mem_map.1 hx
        exact (hew q hq).2) w3 _ A3 c3 first most hj3 hin3 (fun ad ha => (hnw3 ad c3 (by rw [ha])).2) (fun x hx => List.mem_append_left _ hx) (by omega) (Nat.le_trans (miss_le es first) (by omega)) (by omega)
  have hWk' : Calls _ _ _ _ (WalkEnds _ _ _ (walkF most es [] first)) := hWk
  refine ⟨A3, c3, w3, hrun, hWk'.mono ?_⟩
  rintro e w4 ⟨A4, c4, S4, rfl, hin4, _, hj4, hu4⟩
  obtain ⟨_, hsz4, hlow⟩ := hj4
  exact ⟨⟨A4, c4, rfl, hin4⟩, ⟨hu4.os.trans hb3.os, hu4.tape.trans hb3.tape, hu4.output.trans hb3.output, hsz4, fun k hk => hlow k hk⟩⟩

set_option maxHeartbeats 4000000 in
set_option maxRecDepth 100000 in
theorem walk (A0 : Option Addr) (c0 : Nat) (first : List Int) (Ae : Option Addr) (ce : Nat) (es : List (Int × Int)) (W : World)
    (hf : Ints W W.heap.size A0 first) (hfw : ∀ x ∈ first, (Lit.int .i64 x).wf = true) (he : Prs W W.heap.size Ae es) (hew : ∀ x ∈ es, (Lit.int .i64 x.1).wf = true ∧ (Lit.int .i64 x.2).wf = true) :
    Calls Try.prog 7 #[.slice A0 first.length c0, .slice Ae es.length ce] W fun e w' => e = .returned (.bool true) ∧ Below W.heap.size W w' := by
  have HB0 := Lib.hid (show Below W.heap.size W (W.alloc (.cells #[.slice Ae es.length ce] 43)) from (Below.refl _ W).alloc (Nat.le_refl _) _)
  have hE0 : (W.alloc (.cells #[.slice Ae es.length ce] 43)).heap[W.heap.size]? = some (.cells #[.slice Ae es.length ce] 43) := heap_alloc_new W _
  have hz0 : (W.alloc (.cells #[.slice Ae es.length ce] 43)).heap.size = W.heap.size + 1 := by simp
  have HE := Lib.hid (And.intro hE0 hz0)
  have HA := Lib.hid (And.intro hf (And.intro hfw (And.intro he hew)))
  clear hE0 hz0 hf hfw he hew
  go_enter Try.func7, Try.ntmps7
  go_wp2_with fail
  refine (awake_any _).mono ?_
  rintro e w1 ⟨rfl, hb1⟩
  have hz1 : W.heap.size < w1.heap.size := by have := hb1.size; rw [HE.out.2] at this; exact this
  have hh0 : w1.heap[W.heap.size]? = some (.cells #[.slice Ae es.length ce] 43) := (hb1.block _ (by rw [HE.out.2]; omega)).trans HE.out.1
  have HB1 := Lib.hid (HB0.out.trans (hb1.mono HB0.out.size))
  have k0 : w1.cell? ⟨W.heap.size, 0, none⟩ = some (.slice Ae es.length ce) := by rw [cell_of_cells hh0]; rfl
  clear hb1 HB0 HE hh0
  by_cases h50 : first.length ≤ 50
  · by_cases h120 : es.length ≤ 120
    · have h50' : ¬ (50 : Int) < first.length := by omega
      have h120' : ¬ (120 : Int) < es.length := by omega
      -- what holds of the three walks
      have hyes := wf_true es first (most := 1000) (by omega)
      have hsub := wf_sub es first 1000 []
      have hall := wf_all es first hyes
      have hnd := wf_nodup es first 1000 []
      have hll := wf_len es first 1000 []
      have hroom := wf_room es first (m' := ((walkF 1000 es [] first).1.length : Int)) hyes (Int.le_refl _)
      have hlw : ∀ x ∈ (walkF 1000 es [] first).1, (Lit.int .i64 x).wf = true := fun x hx => by
        rcases List.mem_append.1 (hsub x hx) with hx | hx
        · exact HA.out.2.1 x hx
        · obtain ⟨q, hq, rfl⟩ := List.mem_map.1 hx
          exact (HA.out.2.2.2 q hq).2
      have hf1 : Ints w1 w1.heap.size A0 first := (HA.out.1.below HB1.out).mono (by omega : W.heap.size ≤ w1.heap.size)
      have he1 : Prs w1 w1.heap.size Ae es := (HA.out.2.2.1.below HB1.out).mono (by omega : W.heap.size ≤ w1.heap.size)
      obtain ⟨A3, c3, w3, hrun, hWk⟩ := once_call w1 W.heap.size Ae ce es k0 hz1 he1 HA.out.2.2.2 A0 c0 first hf1 HA.out.2.1 (by omega) h120 1000
      have HW := Lib.hid hWk
      have HRUN := Lib.hid hrun
      clear hWk hrun
      generalize hR : walkF 1000 es [] first = R at *
      obtain ⟨l, r2⟩ := R
      simp only at hyes hll
      subst hyes
      have hyes2 := wf_true es l (most := 1000) (by omega)
      have hsub2 := again_sub hall.2 (wf_told es l 1000 [])
      have hall2 := wf_all es l hyes2
      have hnd2 := wf_nodup es l 1000 []
      have hml := again_len hnd hnd2 hsub2 hall2.1
      have HR2 := Lib.hid hroom
      have HLW := Lib.hid hlw
      clear hroom hlw hsub hR
      go_wp2_with (at_builtin; refine wpList_append_run rfl (.tmp 26) (.tmp 27) 26 26 rfl _ _ _ w3 rfl rfl HRUN.out ?_)
      refine HW.out.mono ?_
      rintro e w4 ⟨⟨A4, c4, rfl, hin4⟩, hb4⟩
      have hz4 : W.heap.size < w4.heap.size := Nat.lt_of_lt_of_le hz1 hb4.size
      have k4 : w4.cell? ⟨W.heap.size, 0, none⟩ = some (.slice Ae es.length ce) := (hb4.cell (p := ⟨W.heap.size, 0, none⟩) hz1).trans k0
      have hin4' : Ints w4 w4.heap.size A4 l := hin4
      have HI4 := Lib.hid (And.intro hin4' (And.intro ((hf1.below hb4).mono hb4.size) ((he1.below hb4).mono hb4.size)))
      have HB4 := Lib.hid (HB1.out.trans (hb4.mono (Nat.le_of_lt hz1)))
      clear hf1 he1 hin4 hin4' hb4 HW HRUN k0 hz1 HB1
      obtain ⟨A5, c5, w5, hrun, hWk⟩ := once_call w4 W.heap.size Ae ce es k4 hz4 HI4.out.2.2 HA.out.2.2.2 A4 c4 l HI4.out.1 HLW.out (by omega) h120 1000
      have HW := Lib.hid hWk
      have HRUN := Lib.hid hrun
      clear hWk hrun
      generalize walkF 1000 es [] l = R at *
      obtain ⟨m, r2⟩ := R
      simp only at hyes2 hml
      subst hyes2
      have HF := Lib.hid (And.intro (show ∀ i, i < m.length → m.getD i 0 ∈ l from hsub2) (show m.Nodup from hnd2))
      have hq1 : ((m.length : Int) == (l.length : Int)) = true := by rw [hml]; simp
      have hq2 : decide ((m.length : Int) = (l.length : Int)) = true := by rw [hml]; simp
      have HQ := Lib.hid (And.intro hq1 hq2)
      have hm2 : m.length ≤ 200 := by omega
      have hl2 : l.length ≤ 200 := by omega
      clear hsub2 hall2 hnd2 hall hnd hll hml hq1 hq2
      go_wp2_with (at_builtin; refine wpList_append_run rfl (.tmp 34) (.tmp 35) 26 26 rfl _ _ _ w5 rfl rfl HRUN.out ?_)
      refine HW.out.mono ?_
      rintro e w6 ⟨⟨A6, c6, rfl, hin6⟩, hb6⟩
      have hin6' : Ints w6 w6.heap.size A6 m := hin6
      have hz6 : W.heap.size < w6.heap.size := Nat.lt_of_lt_of_le hz4 hb6.size
      have k6 : w6.cell? ⟨W.heap.size, 0, none⟩ = some (.slice Ae es.length ce) := (hb6.cell (p := ⟨W.heap.size, 0, none⟩) hz4).trans k4
      have HI6 := Lib.hid (And.intro hin6' (And.intro ((HI4.out.1.below hb6).mono hb6.size) (And.intro ((HI4.out.2.1.below hb6).mono hb6.size) ((HI4.out.2.2.below hb6).mono hb6.size))))
      have HB6 := Lib.hid (HB4.out.trans (hb6.mono (Nat.le_of_lt hz4)))
      clear hin6 hin6' hb6 HW HRUN k4 hz4 HB4 HI4
      have hs6 : SeenAt (w6.alloc (.cells #[.map none, .slice none 0 0] 38)) w6.heap.size [] [w6.heap.size] := ⟨_, .inl ⟨heap_alloc_new w6 _, rfl, rfl⟩⟩
      have HS6 := Lib.hid hs6
      clear hs6
      go_wp2
      go_loopg [11] m.length (fun g i wr => ∃ (k : Nat) (F : List Nat), k ≤ m.length ∧ g = m.length - k ∧ i = .int .i64 k ∧ SeenAt wr w6.heap.size (m.take k) F ∧ (∀ j, j ∈ F → w6.heap.size ≤ j) ∧ Below w6.heap.size w6 wr)
      case atStart => exact ⟨0, [w6.heap.size], Nat.zero_le _, rfl, rfl, by rw [List.take_zero]; exact HS6.out, fun j hj => by simp at hj; omega, (Below.refl _ _).alloc (Nat.le_refl _) _⟩
      case round =>
        obtain ⟨k, F, hk, rfl, rfl, hsn, hFn, hbl⟩ := hrel
        by_cases hlt : k < m.length
        · have h1 : (k : Int) < m.length := by omega
          have h0 : (0 : Int) ≤ k := by omega
          obtain ⟨ad, hA, hB, hc⟩ := (HI6.out.1.below hbl) k hlt
          have hml := HF.out.1 k hlt
          have hmw := HLW.out _ hml
          have hnt := nodup_take HF.out.2 hlt
          have HTK := Lib.hid (take_nodup HF.out.2 hlt)
          have HC := Lib.hid (in_any wr w6.heap.size A4 c4 l (m.getD k 0) (HI6.out.2.1.below hbl) (by omega))
          rw [decide_eq_true hml] at HC
          have HAD := Lib.hid (add_new wr w6.heap.size F (m.take k) (m.getD k 0) hsn hmw hnt (by simp; omega))
          have hs := hbl.size
          have HBL := Lib.hid (And.intro hbl hFn)
          subst hA
          generalize m.getD k 0 = x at *
          clear hml hmw hnt hbl hFn hsn
          go_wp2_with fail
          refine HC.out.mono ?_
          rintro e w7 ⟨rfl, rfl⟩
          clear HC
          go_wp2_with fail
          refine HAD.out.mono ?_
          rintro e w8 ⟨rfl, F', hs8, hu8⟩
          have HH := Lib.hid (And.intro hs8 (And.intro (hu8.new HBL.out.2 hs) (HBL.out.1.trans (hu8.below hs HBL.out.2))))
          clear hs8 hu8 HAD HBL
          go_wp2
          go_roundg (m.length - (k + 1))
          case rel => exact ⟨k + 1, F', by omega, rfl, by go_num, by rw [HTK.out]; exact HH.out.1, HH.out.2.1, HH.out.2.2⟩
          case measure => omega
        · obtain rfl : k = m.length := by omega
          have hs := hbl.size
          have hz7 : W.heap.size < wr.heap.size := by omega
          have k7 : wr.cell? ⟨W.heap.size, 0, none⟩ = some (.slice Ae es.length ce) := (hbl.cell (p := ⟨W.heap.size, 0, none⟩) hz6).trans k6
          obtain ⟨A8, c8, w8, hrun, hWk⟩ := once_call wr W.heap.size Ae ce es k7 hz7 ((HI6.out.2.2.2.below hbl).mono hs) HA.out.2.2.2 A0 c0 first ((HI6.out.2.2.1.below hbl).mono hs) HA.out.2.1 (by omega) h120 (l.length : Int)
          rw [HR2.out] at hWk
          dsimp only at hWk
          have HW := Lib.hid hWk
          have HRUN := Lib.hid hrun
          have HI7 := Lib.hid ((HI6.out.2.1.below hbl).mono hs)
          have HB7 := Lib.hid (HB6.out.trans (hbl.mono (Nat.le_of_lt hz6)))
          clear hWk hrun hbl hsn hFn k6
          go_wp2_with (at_builtin; refine wpList_append_run rfl (.tmp 63) (.tmp 64) 26 26 rfl _ _ _ w8 rfl rfl HRUN.out ?_)
          refine HW.out.mono ?_
          rintro e w9 ⟨⟨A9, c9, rfl, hin9⟩, hb9⟩
          have HI9 := Lib.hid (And.intro ((HI7.out.below hb9).mono hb9.size) hin9)
          have HB9 := Lib.hid (HB7.out.trans (hb9.mono (Nat.le_of_lt hz7)))
          clear hin9 hb9 HW HRUN HI7 HB7 k7
          obtain ⟨hq1, hq2⟩ := HQ.out
          go_wp2_with fail
          refine (same_any w9 w9.heap.size A4 A9 c4 c9 l l HI9.out.1 HI9.out.2 (Nat.le_refl _) (by omega) (by omega)).mono ?_
          rintro e w10 ⟨rfl, hb10⟩
          rw [decide_eq_true rfl]
          have HB10 := Lib.hid (HB9.out.trans (hb10.mono HB9.out.size))
          clear hb10 HB9 HI9
          go_wp2
          go_ret
          exact ⟨by simp, HB10.out⟩
    · have h120' : (120 : Int) < es.length := by omega
      have h50' : ¬ (50 : Int) < first.length := by omega
      go_wp2
      go_ret
      exact ⟨rfl, HB1.out⟩
  · have h50' : (50 : Int) < first.length := by omega
    go_wp2
    go_ret
    exact ⟨rfl, HB1.out⟩

theorem own : ownKnob Try.prog.godebug = none := by kernel_rfl

set_option maxRecDepth 100000 in
theorem lifted (os : Os) (started : os.Started) (H : Type) (enc : TypeId × Value → H) :
    ReturnsInHanded {} Try.checked os 7 .any (Rows.workOnceSpec.pre6 enc Try.prog Try.f7 Rows.workOnceRow.domain false) (Rows.workOnceSpec.post enc Try.prog Try.f7 false true false false) := by
  refine returnsInHanded_of_change (C := Try.checked) own started (by kernel_rfl) Try.func7
    (ChangeSpec.witness6 (enc := enc) (C := Try.checked) false ⟨#[], #[.slice none 0 0, .slice none 0 0], []⟩ 8 (by kernel_rfl) (by kernel_rfl) (by kernel_rfl) (by kernel_rfl)) ?_
  intro W base args ds gs before hval0 hW hcnd _
  have hval : ∀ (j : Nat) t v, Try.f7.params[j]? = some t → args[j]? = some v → Value.okWide Try.prog W .any base t v := hval0
  have hW' := hW
  obtain ⟨p, q, hA0, hV, rfl, hfz, hnd⟩ := hW
  have hA : DataW.TrodAll enc Try.prog W 0 (fun _ => true) true Try.f7.params.toList args.toList ds p := hA0
  rw [Try.params7] at hA hval
  obtain ⟨v0, vs0, d0, ds0, p0, q0, hargs, rfl, rfl, h0, r0⟩ := trodAll_cons hA
  obtain ⟨v1, vs1, d1, ds1, p1, q1, rfl, rfl, rfl, h1, r1⟩ := trodAll_cons r0
  obtain ⟨rfl, rfl, rfl⟩ := trodAll_nil r1
  obtain rfl : args = #[v0, v1] := by cases args; simp_all
  obtain ⟨rfl, rfl⟩ := trodVars_none hV
  obtain ⟨A0, l0, c0, rfl, hr0, hw0⟩ := Hw.open_ints_arg (hval 0 26 v0 rfl rfl) h0
  obtain ⟨A1, l1, c1, rfl, hr1, hw1⟩ := Hw.open_edges_arg (hval 1 43 v1 rfl rfl) h1
  clear hA0 hval0
  refine (walk A0 c0 l0 A1 c1 l1 W hr0 hw0 hr1 hw1).mono fun e W' ⟨he, hg⟩ => ?_
  subst he
  exact ⟨_, rfl, law_post Try.laid (by kernel_rfl) (by kernel_rfl) Try.underlying4 rfl rfl hW' hg⟩

theorem over : Rows.workOnceRow.holds Try.pinned (OpenSpec.ofChange Rows.workOnceSpec) :=
  OpenClaim.holds_of_wide 7 Try.f7 rfl rfl rfl rfl rfl rfl rfl ⟨rfl, rfl, rfl, rfl, rfl⟩ rfl rfl rfl rfl rfl (by kernel_rfl) Try.func7 (by kernel_rfl)
    (of_decide_eq_true (by kernel_rfl)) (by unfold Func.isWrapper; first | (rw [if_pos (by decide +kernel)]; kernel_rfl) | (rw [if_neg (by decide +kernel)]; exact ⟨rfl, rfl⟩))
    (fun os started H enc _ => lifted os started H enc)
end Go.Proofs.Ytmfejibllhccaaa.workOnce

namespace Go.Proofs.Ytmfejibllhccaaa
theorem workOnce_holds : Rows.WorkOnceSaid := workOnce.over
end Go.Proofs.Ytmfejibllhccaaa
