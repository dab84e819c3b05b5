/-
  Proved: DetectRows returns true for every vector, and changes nothing that was there.
  Conditions: none beside the row's own.
-/
import Derived.Test.YtpffolohkmokhaaDe
import Derived.Test.YtpffolohkmokhaaDw
import Derived.Test.YtpffolohkmokhaaP
namespace Go.Proofs.Ytpffolohkmokhaa.detectRows
open Go.ChangeShapes Go.WideShapes Go.ChangeAt Go.RowKit
open Go.ChangeMaps (open_string)
set_option linter.unusedVariables false

open Hs Hp Hd
theorem yields_load_sub {P : Program} {ops : Array Oper} {S : World → Prop} {o : Oper} {a : Act} (ty : TypeId) (x : Operand) (ho : o.op = .load ty x) (hw : Region.wanted o (yielded ops a.tmps) = true) (g off : Nat) (hx : a.eval x = .pointer (some ⟨g, off, none⟩)) (cs : Array Value)
    (hl : ∀ W, S W → (loadVar ty ⟨g, off, none⟩).run P W = .ok (.agg cs) W) : YieldsIf P ops S o (.agg cs) a :=
  .inl ⟨hw, fun W hW => by simp only [execOp, ho, hx, Instr.loadAt, Instr.sureAddr, Sem.run_bind, Sem.run_pure, Result.andThen_ok, hl W hW]⟩

set_option maxHeartbeats 4000000 in
set_option maxRecDepth 100000 in
theorem walk (a b c : Int) (w : World) : Calls Try.prog 3 #[.agg (vs a b c)] w fun e w' => e = .returned (.bool true) ∧ Below w.heap.size w w' := by
  have hw0 := heap_alloc_new w (.cells (vs a b c) 23)
  have hbw := (Below.refl _ w).alloc (Nat.le_refl _) (.cells (vs a b c) 23)
  have HD1 := Lib.hid (fun W => difference_any a b c W)
  have HD2 := Lib.hid (fun W => rdiff_any a b c W)
  generalize Dv.diff a b c = M at *
  have heq := eql_words31 M M
  rw [sameWords_refl] at heq
  have HEQ := Lib.hid heq
  clear heq
  have HV := Lib.hid (info23 a b c)
  go_enter Try.func3, Try.ntmps3
  go_wp2_with fail
  refine (Hd.awake_any _).mono ?_
  rintro e1 w1 ⟨rfl, hb1⟩
  have hv1 : w1.heap[w.heap.size]? = some (.cells (vs a b c) 23 (0, 0)) := by rw [hb1.block _ (by simp)]; exact hw0
  have hb01 : Below w.heap.size w w1 := hbw.trans (hb1.mono (by simp))
  have hz1 : w.heap.size < w1.heap.size := (Array.getElem?_eq_some_iff.1 hv1).1
  clear hb1 hw0 hbw
  go_wp2_with fail
  refine (vectors_any _).mono ?_
  rintro e2 w2 ⟨g, cap, rfl, hg1, hg2, hl2, hb2⟩
  have hb02 := hb01.trans (hb2.mono hb01.size)
  have hv2 : w2.heap[w.heap.size]? = some (.cells (vs a b c) 23 (0, 0)) := by rw [hb2.block _ hz1]; exact hv1
  have hz2 : w.heap.size < w2.heap.size := (Array.getElem?_eq_some_iff.1 hv2).1
  clear hb2 hv1 hb01 hz1
  go_wp2_with fail
  refine (rvectors_any _).mono ?_
  rintro e3 w3 ⟨rfl, hh2, hl3, hb3⟩
  have hb03 := hb02.trans (hb3.mono hb02.size)
  have hv3 : w3.heap[w.heap.size]? = some (.cells (vs a b c) 23 (0, 0)) := by rw [hb3.block _ hz2]; exact hv2
  have hl2' := hl2.below hb3 hg2
  have HL2 := Lib.hid hl2'
  have HL3 := Lib.hid hl3
  have HV3 := Lib.hid hv3
  have HB3 := Lib.hid hb03
  clear hb3 hv2 hb02 hz2 hl2 hl2' hl3 hv3 hb03 hh2 hg2 hg1
  generalize w2.heap.size = h at *
  go_wp2
  go_loopg [5] 21 (fun gk i wr => ∃ n : Nat, n ≤ 21 ∧ gk = 21 - n ∧ i = .int .i64 n ∧ Vl wr g ∧ Vl wr h ∧ wr.heap[w.heap.size]? = some (.cells (vs a b c) 23 (0, 0)) ∧ Below w.heap.size w wr)
  case atStart => exact ⟨0, Nat.zero_le _, rfl, rfl, HL2.out, HL3.out, HV3.out, HB3.out⟩
  case round =>
    obtain ⟨n, hn, rfl, rfl, hl2, hl3, hv, hb⟩ := hrel
    clear HL2 HL3 HV3 HB3
    by_cases hlt : n < 21
    · have hi1 : ((n : Nat) : Int) < 21 := by omega
      have hi0 : (0 : Int) ≤ ((n : Nat) : Int) := by omega
      have HA := Lib.hid (fun (W : World) (hW : Vl W g) => hW.load23 n hlt)
      have HB := Lib.hid (fun (W : World) (hW : Vl W h) => hW.load29 n hlt)
      have HL2 := Lib.hid hl2
      have HL3 := Lib.hid hl3
      have HV3 := Lib.hid hv
      have HB3 := Lib.hid hb
      clear hl2 hl3 hv hb
      generalize ((Dv.vecs.getD n (0, 0)).1 : Int) = ty at *
      generalize ((Dv.vecs.getD n (0, 0)).2 : Int) = K at *
      go_wp2_with fail
      refine wp_region_seq (fun W => Vl W g ∧ Vl W h) [(0, false, 0), (1, false, 1), (2, false, 3), (3, false, 7), (4, false, 15), (5, false, 31), (6, false, 63), (7, false, 127), (8, false, 255)]
        9 (by kernel_rfl) (by kernel_rfl) (by kernel_rfl) (fun d _ _ _ _ h => by cases d <;> exact h) (by kernel_rfl) (by kernel_rfl) ⟨HL2.out, HL3.out⟩ ?_
      refine seqH_take (.slice (some ⟨g, 0, none⟩) 21 cap) rfl (Or.inl ⟨by rfl, fun W _ => by go_simp⟩) ?_
      go_simp
      refine seqH_take (.int .i64 n) rfl (Or.inl ⟨by rfl, fun W _ => by go_simp⟩) ?_
      go_simp
      refine seqH_take (.pointer (some ⟨g, n * 3, none⟩)) rfl (Or.inl ⟨by rfl, fun W _ => by go_simp⟩) ?_
      go_simp
      refine seqH_take (.agg (vs ty K 0)) rfl (yields_load_sub 23 (.tmp 23) rfl (by rfl) g (n * 3) rfl (vs ty K 0) (fun W hW => HA.out W hW.1)) ?_
      go_simp
      refine seqH_take (.slice (some ⟨h, 0, none⟩) 21 21) rfl (Or.inl ⟨by rfl, fun W _ => by go_simp⟩) ?_
      go_simp
      refine seqH_take (.int .i64 n) rfl (Or.inl ⟨by rfl, fun W _ => by go_simp⟩) ?_
      go_simp
      refine seqH_take (.pointer (some ⟨h, n * 3, none⟩)) rfl (Or.inl ⟨by rfl, fun W _ => by go_simp⟩) ?_
      go_simp
      refine seqH_take (.agg (vs ty K 0)) rfl (yields_load_sub 29 (.tmp 27) rfl (by rfl) h (n * 3) rfl (vs ty K 0) (fun W hW => HB.out W hW.2)) ?_
      go_simp
      refine seqH_take (.bool false) rfl (yields_eq_op .neq (Or.inr rfl) 29 29 (.tmp 24) (.tmp 28) rfl (by rfl) (vs ty K 0) (vs ty K 0) rfl rfl guard29v false (neq_vs29 _ _ _)) ?_
      go_simp
      refine seqH_done ?_
      clear HA HB
      go_wp2
      go_roundg (21 - (n + 1))
      case rel => exact ⟨n + 1, by omega, rfl, by go_num, HL2.out, HL3.out, HV3.out, HB3.out.drew⟩
      case measure => omega
    · obtain rfl : n = 21 := by omega
      have HV3 := Lib.hid hv
      have HB3 := Lib.hid hb
      have hz : w.heap.size < wr.heap.size := (Array.getElem?_eq_some_iff.1 hv).1
      clear hl2 hl3 hv hb
      go_wp2_with fail
      refine wp_region_seq (fun W => W.heap[w.heap.size]? = some (.cells (vs a b c) 23 (0, 0))) [(0, false, 0), (2, false, 1), (1, true, 5), (3, true, 7), (4, false, 15), (5, false, 31)]
        6 (by kernel_rfl) (by kernel_rfl) (by kernel_rfl) (fun d _ _ _ _ h => by cases d <;> exact h) (by kernel_rfl) (by kernel_rfl) HV3.out ?_
      refine seqH_take (.agg (vs a b c)) rfl (yields_load 23 (.tmp 1) rfl (by rfl) w.heap.size rfl 23 (vs a b c) (0, 0) _ (fun W hW => hW) Try.underlying23 rfl HV.out) ?_
      go_simp
      refine seqH_take (.agg (vs a b c)) rfl (yields_load 23 (.tmp 1) rfl (by rfl) w.heap.size rfl 23 (vs a b c) (0, 0) _ (fun W hW => hW) Try.underlying23 rfl HV.out) ?_
      go_simp
      refine seqH_call rfl (by rfl) (fun K hK => ?_)
      have HK := Lib.hid hK
      clear hK
      go_simp
      refine (HD1.out _).mono ?_
      rintro e w4 ⟨rfl, hb4⟩
      have hv4 : w4.heap[w.heap.size]? = some (.cells (vs a b c) 23 (0, 0)) := by rw [hb4.block _ hz]; exact HV3.out
      have hb04 : Below w.heap.size w w4 := HB3.out.drew.trans (hb4.mono HB3.out.size)
      have hz4 : w.heap.size < w4.heap.size := (Array.getElem?_eq_some_iff.1 hv4).1
      clear hb4 hz
      refine HK.out _ _ hv4 ?_
      clear HK K
      go_simp
      refine seqH_call rfl (by rfl) (fun K hK => ?_)
      have HK := Lib.hid hK
      clear hK
      go_simp
      refine (HD2.out _).mono ?_
      rintro e w5 ⟨rfl, hb5⟩
      have hv5 : w5.heap[w.heap.size]? = some (.cells (vs a b c) 23 (0, 0)) := by rw [hb5.block _ hz4]; exact hv4
      have hb05 : Below w.heap.size w w5 := hb04.trans (hb5.mono hb04.size)
      clear hb5 hz4 hv4 hb04
      refine HK.out _ _ hv5 ?_
      clear HK K
      go_simp
      refine seqH_take (.bool true) rfl (yields_eq_op .eql (Or.inl rfl) 31 31 (.tmp 31) (.tmp 33) rfl (by rfl) (ws M) (ws M) rfl rfl guard29 true HEQ.out) ?_
      go_simp
      refine seqH_take (.bool true) rfl (Or.inl ⟨by rfl, fun W _ => by go_simp⟩) ?_
      go_simp
      refine seqH_done ?_
      have HB5 := Lib.hid hb05
      clear hv5 hb05
      go_wp2
      go_ret
      exact ⟨rfl, HB5.out⟩

theorem own : ownKnob Try.prog.godebug = none := by kernel_rfl

set_option maxRecDepth 100000 in
theorem lifted (os : Os) (started : os.Started) (H : Type) (enc : TypeId × Value → H) :
    ReturnsInHanded {} Try.checked os 3 .any (Rows.detectRowsSpec.pre6 enc Try.prog Try.f3 Rows.detectRowsRow.domain false) (Rows.detectRowsSpec.post enc Try.prog Try.f3 false true false false) := by
  refine returnsInHanded_of_change (C := Try.checked) own started (by kernel_rfl) Try.func3
    (ChangeSpec.witness6 (enc := enc) (C := Try.checked) false ⟨#[], #[.agg #[.int .i64 0, .int .i64 0, .int .i64 0]], []⟩ 8 (by kernel_rfl) (by kernel_rfl) (by kernel_rfl) (by kernel_rfl)) ?_
  intro W base args ds gs before hval0 hW hcnd _
  have hval : ∀ (j : Nat) t v, Try.f3.params[j]? = some t → args[j]? = some v → Value.okWide Try.prog W .any base t v := hval0
  have hW' := hW
  obtain ⟨p, q, hA0, hV, rfl, hfz, hnd⟩ := hW
  have hA : DataW.TrodAll enc Try.prog W 0 (fun _ => true) true Try.f3.params.toList args.toList ds p := hA0
  rw [Try.params3] at hA hval
  obtain ⟨v0, vs0, d0, ds0, p0, q0, hargs, rfl, rfl, h0, r0⟩ := trodAll_cons hA
  obtain ⟨rfl, rfl, rfl⟩ := trodAll_nil r0
  obtain rfl : args = #[v0] := by cases args; simp_all
  obtain ⟨rfl, rfl⟩ := trodVars_none hV
  obtain ⟨a0, b0, c0, rfl⟩ := Hd.open_vec (hval 0 23 v0 rfl rfl) h0
  clear hA0 hval0
  refine (walk a0 b0 c0  W).mono fun e W' ⟨he, hg⟩ => ?_
  subst he
  exact ⟨_, rfl, law_post Try.laid (by kernel_rfl) (by kernel_rfl) Try.underlying4 rfl rfl hW' hg⟩

theorem over : Rows.detectRowsRow.holds Try.pinned (OpenSpec.ofChange Rows.detectRowsSpec) :=
  OpenClaim.holds_of_wide 3 Try.f3 rfl rfl rfl rfl rfl rfl rfl ⟨rfl, rfl, rfl, rfl, rfl⟩ rfl rfl rfl rfl rfl (by kernel_rfl) Try.func3 (by kernel_rfl)
    (of_decide_eq_true (by kernel_rfl)) (by unfold Func.isWrapper; first | (rw [if_pos (by decide +kernel)]; kernel_rfl) | (rw [if_neg (by decide +kernel)]; exact ⟨rfl, rfl⟩))
    (fun os started H enc _ => lifted os started H enc)
end Go.Proofs.Ytpffolohkmokhaa.detectRows

namespace Go.Proofs.Ytpffolohkmokhaa
theorem detectRows_holds : Rows.DetectRowsSaid := detectRows.over
end Go.Proofs.Ytpffolohkmokhaa
