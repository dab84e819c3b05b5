/-
  Proved: DetectTwins returns true for every chain, every text and every vector, and changes nothing that was there.
  Conditions: none beside the row's own.
-/
import Derived.Test.YtpffolohkmokhaaDw
import Derived.Test.YtpffolohkmokhaaP
namespace Go.Proofs.Ytpffolohkmokhaa.detectTwins
open Go.ChangeShapes Go.WideShapes Go.ChangeAt Go.RowKit
open Go.ChangeMaps (open_string)
set_option linter.unusedVariables false

open Hs Hp Hd
attribute [local go_sem] t_and t_or t_xor t_not t_add t_sub t_add_wrap t_sub_wrap
theorem grown_refl (w : World) (b : Nat) : w.grownBy w (some b) := ⟨rfl, rfl, rfl, Nat.le_refl _, fun _ _ _ => rfl⟩
theorem grown_trans {w w1 w2 : World} {b : Nat} (h : w.grownBy w1 (some b)) (k : w1.grownBy w2 (some b)) : w.grownBy w2 (some b) :=
  ⟨k.os.trans h.os, k.tape.trans h.tape, k.output.trans h.output, Nat.le_trans h.size k.size, fun i hi hne => (k.block i (Nat.lt_of_lt_of_le hi h.size) hne).trans (h.block i hi hne)⟩
theorem stepN (x : Sh.Ch) (t : Nat) (v : UInt32) (w : World) : Calls Try.prog 16 #[.agg (cs x), .int .i64 t, .int .u32 (tn v)] w fun e w' => e = .returned (.agg (cs (Sh.step x t v))) ∧ Below w.heap.size w w' := step_any x t v w
theorem backN (x : Sh.Ch) (t : Nat) (v : UInt32) (w : World) : Calls Try.prog 17 #[.agg (cs x), .int .i64 t, .int .u32 (tn v)] w fun e w' => e = .returned (.agg (cs (Sh.back x t v))) ∧ Below w.heap.size w w' := back_any x t v w
/-- what the law holds: the chain, the vector, the difference, the words -/
structure Tq (w wr : World) (N : Nat) (x : Sh.Ch) (V : Array Value) (M W : List UInt32) : Prop where
  below : Below w.heap.size w wr
  lo : w.heap.size + 1 < N
  hi : N + 1 < wr.heap.size
  ch : wr.heap[w.heap.size]? = some (.cells (cs x) 36 (0, 0))
  ve : wr.heap[w.heap.size + 1]? = some (.cells V 23 (0, 0))
  m : wr.heap[N]? = some (.cells (ws M) 32 (0, 0))
  wd : wr.heap[N + 1]? = some (.cells (ws W) 32 (0, 0))
section
variable {w wr w1 : World} {N : Nat} {x : Sh.Ch} {V : Array Value} {M W : List UInt32}
theorem Tq.grown (h : Tq w wr N x V M W) {b : Nat} (hg : wr.grownBy w1 (some b)) (hb : N + 1 < b) : Tq w w1 N x V M W := by
  have hl := h.lo
  have hh := h.hi
  have k : ∀ i, i ≤ N + 1 → w1.heap[i]? = wr.heap[i]? := fun i hi => hg.block i (by omega) (fun e => by injection e with e; omega)
  exact ⟨h.below.grown hg h.below.size (fun i hi => by injection hi with hi; omega), hl, Nat.lt_of_lt_of_le hh hg.size, (k _ (by omega)).trans h.ch, (k _ (by omega)).trans h.ve, (k _ (by omega)).trans h.m, (k _ (by omega)).trans h.wd⟩
theorem Tq.more (h : Tq w wr N x V M W) (hb : Below wr.heap.size wr w1) : Tq w w1 N x V M W := by
  have hl := h.lo
  have hh := h.hi
  have k : ∀ i, i ≤ N + 1 → w1.heap[i]? = wr.heap[i]? := fun i hi => hb.block i (by omega)
  exact ⟨h.below.trans (hb.mono h.below.size), hl, Nat.lt_of_lt_of_le hh hb.size, (k _ (by omega)).trans h.ch, (k _ (by omega)).trans h.ve, (k _ (by omega)).trans h.m, (k _ (by omega)).trans h.wd⟩
theorem Tq.drew (h : Tq w wr N x V M W) : Tq w wr.drew N x V M W := ⟨h.below.drew, h.lo, h.hi, h.ch, h.ve, h.m, h.wd⟩
theorem Tq.alloc (h : Tq w wr N x V M W) (o : Obj) : Tq w (wr.alloc o) N x V M W := h.more ((Below.refl _ wr).alloc (Nat.le_refl _) _)
theorem Tq.row (h : Tq w wr N x V M W) (b : Nat) (hb : N + 1 < b) (r : Array Value) : Tq w (wr.setRow b r) N x V M W := h.grown (grown_setRow (grown_refl wr b) r) hb
end
/-- the two orders in which the places of first and last are laid -/
def tree11 : Tr := .take 0 0 (.take 1 1 (.fork 2 3 3 (.call 3 7 (.call 4 15 (.call 5 31 .done))) (.call 2 11 (.call 4 15 (.call 5 31 .done)))))
theorem two_rows (u : World) (z r : Array Value) (hz : z.size = r.size) : (((u.alloc (.cells z 40)).alloc (.cells z 40)).drew.setRow u.heap.size r).heap[u.heap.size + 1]? = some (.cells z 40 (0, 0)) := by
  rw [setRow_other _ _ _ _ (by omega)]; exact heap_alloc2_new u _ _
theorem two_rows' (u : World) (z r : Array Value) (hz : z.size = r.size) : (((u.alloc (.cells z 40)).alloc (.cells z 40)).drew.setRow (u.heap.size + 1) r).heap[u.heap.size]? = some (.cells z 40 (0, 0)) := by
  rw [setRow_other _ _ _ _ (by omega)]; exact heap_alloc2_old u _ _
theorem info36 (x : Sh.Ch) : (Try.prog.info? 36).map (·.size) = some (cs x).size := info27 x

set_option maxHeartbeats 16000000 in
set_option maxRecDepth 100000 in
theorem walk (x : Sh.Ch) (s : ByteArray) (a b c : Int) (hs : s.size ≤ maxLen) (w : World) : Calls Try.prog 5 #[.agg (cs x), .string s, .agg (vs a b c)] w fun e w' => e = .returned (.bool true) ∧ Below w.heap.size w w' := by
  have hz := zv30
  have hc0 := heap_alloc2_old w (.cells (cs x) 36) (.cells (vs a b c) 23)
  have hv0 := heap_alloc2_new w (.cells (cs x) 36) (.cells (vs a b c) 23)
  have hbw := ((Below.refl _ w).alloc (Nat.le_refl _) (.cells (cs x) 36)).alloc (by simp) (.cells (vs a b c) 23)
  have HC0 := Lib.hid hc0
  have HV0 := Lib.hid hv0
  have HBW := Lib.hid hbw
  clear hc0 hv0 hbw
  by_cases hl : s.size ≤ 200
  · have h200 : ¬ (200 : Int) < s.size := by omega
    have HD := Lib.hid (fun W => difference_any a b c W)
    have HE := Lib.hid (fun W => expand_any s W (by omega))
    have HPR := Lib.hid (fun W => press_any x s W (by omega))
    have HMK := Lib.hid (fun W => marked_any x s a b c W (by omega))
    have hmk : Dv.marked x s.data.toList (Dv.diff a b c) = Dv.same (Sh.add (Dv.fore (Dv.sib (Sh.words s.data.toList) (Dv.diff a b c)) (Dv.fore (Sh.words s.data.toList) x 0 58) 58 22) (Dv.rear (Dv.sib (Sh.words s.data.toList) (Dv.diff a b c)) (Dv.fore (Sh.words s.data.toList) x 0 58) 58 58)) (Sh.press x s.data.toList) := rfl
    have hne := neq_words (Dv.diff a b c) []
    rw [diff_nought] at hne
    rw [hmk] at HMK
    clear hmk hs hl
    generalize Dv.diff a b c = M at *
    generalize Sh.press x s.data.toList = E at *
    generalize Sh.words s.data.toList = W at *
    generalize decide (Dv.ok a b c) = ok at *
    have HNE := Lib.hid hne
    clear hne
    have HVI := Lib.hid (info23 a b c)
    generalize hVV : vs a b c = V at *
    clear hVV
    go_enter Try.func5, Try.ntmps5
    go_wp2_with fail
    refine (Hd.awake_any _).mono ?_
    rintro e1 w1 ⟨rfl, hb1⟩
    have hv1 := (hb1.block _ (by simp)).trans HV0.out
    have hc1 := (hb1.block _ (by simp; omega)).trans HC0.out
    have hb01 : Below w.heap.size w w1 := HBW.out.trans (hb1.mono (by simp; omega))
    have hz1 : w.heap.size + 1 < w1.heap.size := (Array.getElem?_eq_some_iff.1 hv1).1
    have HV1 := Lib.hid hv1
    clear hb1 HC0 HV0 HBW
    go_wp2_with (with_reducible refine wpList_load_row rfl 23 (.tmp 5) rfl (w.heap.size + 1) rfl 23 V (0, 0) _ HV1.out Try.underlying23 rfl HVI.out ?_)
    refine (HD.out _).mono ?_
    rintro e2 w2 ⟨rfl, hb2⟩
    go_wp2_with fail
    refine (HE.out _).mono ?_
    rintro e3 w3 ⟨rfl, hb3⟩
    have hb12 : Below w1.heap.size w1 w3 := hb2.trans (hb3.mono hb2.size)
    have hv3 : w3.heap[w.heap.size + 1]? = some (.cells V 23 (0, 0)) := (hb12.block _ hz1).trans hv1
    have hc3 : w3.heap[w.heap.size]? = some (.cells (cs x) 36 (0, 0)) := (hb12.block _ (by omega)).trans hc1
    have hb03 : Below w.heap.size w w3 := hb01.trans (hb12.mono hb01.size)
    have hz3 : w.heap.size + 1 < w3.heap.size := Nat.lt_of_lt_of_le hz1 hb12.size
    have HN7 := Lib.hid (heap_alloc2_old w3 (.cells (ws []) 32) (.cells (ws []) 32))
    have hn8 : (((w3.alloc (.cells (ws []) 32)).alloc (.cells (ws []) 32)).setRow w3.heap.size (ws M)).heap[w3.heap.size + 1]? = some (.cells (ws []) 32 (0, 0)) := by rw [setRow_other _ _ _ _ (by omega), heap_alloc2_new]
    have HN8 := Lib.hid hn8
    have hT : Tq w ((((w3.alloc (.cells (ws []) 32)).alloc (.cells (ws []) 32)).setRow w3.heap.size (ws M)).setRow (w3.heap.size + 1) (ws W)) w3.heap.size x V M W := by
      have hbb : Below w3.heap.size w3 ((((w3.alloc (.cells (ws []) 32)).alloc (.cells (ws []) 32)).setRow w3.heap.size (ws M)).setRow (w3.heap.size + 1) (ws W)) :=
        below_setRow (below_setRow (((Below.refl _ w3).alloc (Nat.le_refl _) _).alloc (by simp) _) (Nat.le_refl _) _) (by omega) _
      refine ⟨hb03.trans (hbb.mono hb03.size), hz3, by simp, (hbb.block _ (by omega)).trans hc3, (hbb.block _ hz3).trans hv3, ?_, setRow_heap _ _ _ _ _ _ HN8.out⟩
      rw [setRow_other _ _ _ _ (by omega)]
      exact setRow_heap _ _ _ _ _ _ HN7.out
    clear hb2 hb3 hb12 hv3 hc3 hb03 hn8 hv1 hc1 hb01 hz1 HV1 HD HE
    obtain ⟨w4, hw4⟩ : ∃ w4, w4 = ((((w3.alloc (.cells (ws []) 32)).alloc (.cells (ws []) 32)).setRow w3.heap.size (ws M)).setRow (w3.heap.size + 1) (ws W)) := ⟨_, rfl⟩
    rw [← hw4] at hT
    have HW4 := Lib.hid hw4
    have HN9 := Lib.hid (heap_alloc_new w4 (.cells #[.int .u32 0, .int .u32 0, .int .u32 0, .int .u32 0, .int .u32 0] 40))
    have HC4 := Lib.hid ((heap_alloc_old w4 (.cells #[.int .u32 0, .int .u32 0, .int .u32 0, .int .u32 0, .int .u32 0] 40) (by have := hT.hi; have := hT.lo; omega)).trans hT.ch)
    have HC4' := Lib.hid hT.ch
    have HT4 := Lib.hid hT
    clear hw4 hT
    go_wp2_with (first
      | (with_reducible refine wpList_store_row rfl 32 (.tmp 7) (.tmp 23) rfl w3.heap.size (ws M) rfl rfl 32 _ HN7.out (info30' _) (ws_sizes _ _) (Hp.ws_one _) ?_)
      | (with_reducible refine wpList_store_row rfl 32 (.tmp 8) (.tmp 25) rfl (w3.heap.size + 1) (ws W) rfl rfl 32 _ HN8.out (info30' _) (ws_sizes _ _) (Hp.ws_one _) ?_; rw [← HW4.out])
      | (with_reducible refine wpList_load_row rfl 36 (.tmp 3) rfl w.heap.size rfl 36 (cs x) (0, 0) _ HC4'.out Try.underlying36 rfl (info36 _) ?_)
      | (with_reducible refine wpList_store_row rfl 40 (.tmp 9) (.tmp 26) rfl w4.heap.size (cs x) rfl rfl 40 _ HN9.out (info28c _) (zero_size _) (cs_one _) ?_))
    clear hz HN7 HN8 HC4 HC4' HW4
    have hT5 : Tq w ((w4.alloc (.cells #[.int .u32 0, .int .u32 0, .int .u32 0, .int .u32 0, .int .u32 0] 40)).setRow w4.heap.size (cs x)) w3.heap.size x V M W := (HT4.out.alloc _).row _ HT4.out.hi _
    have hx5 : ((w4.alloc (.cells #[.int .u32 0, .int .u32 0, .int .u32 0, .int .u32 0, .int .u32 0] 40)).setRow w4.heap.size (cs x)).heap[w4.heap.size]? = some (.cells (cs x) 40 (0, 0)) := setRow_heap _ _ _ _ _ _ HN9.out
    have hi4 := HT4.out.hi
    generalize (w4.alloc (.cells #[.int .u32 0, .int .u32 0, .int .u32 0, .int .u32 0, .int .u32 0] 40)).setRow w4.heap.size (cs x) = u at *
    generalize w4.heap.size = xb at *
    generalize w3.heap.size = N at *
    have HT5 := Lib.hid hT5
    have HX0 := Lib.hid (show u.heap[xb]? = some (.cells (cs (Dv.fore W x 0 0)) 40 (0, 0)) from hx5)
    have HW := Lib.hid hT5.wd
    have HM := Lib.hid hT5.m
    have HWL := Lib.hid (show N + 1 < u.heap.size ∧ N + 1 ≠ xb from ⟨hT5.hi, by omega⟩)
    have HML := Lib.hid (show N < u.heap.size ∧ N ≠ xb from ⟨by have := hT5.hi; omega, by omega⟩)
    clear HT4 HN9 hT5 hx5
    go_loopg [10] 58 (fun gk i wr => ∃ n : Nat, n ≤ 58 ∧ gk = 58 - n ∧ i = .int .i64 (((0 + n : Nat) : Int)) ∧ u.grownBy wr (some xb) ∧ wr.heap[xb]? = some (.cells (cs (Dv.fore W x 0 n)) 40 (0, 0)))
    case atStart => exact ⟨0, Nat.zero_le _, rfl, rfl, grown_refl _ _, HX0.out⟩
    case round =>
      obtain ⟨n, hn, rfl, rfl, hgr, hxr⟩ := hrel
      clear HX0
      by_cases hlt : n < 58
      · as_aux_lemma =>
        have hnx : Dv.fore W x 0 (n + 1) = Sh.step (Dv.fore W x 0 n) (0 + n) (W.getD (0 + n) 0) := rfl
        have HQ := Lib.hid (show ((0 + n : Nat) : Int) + 1 = ((0 + (n + 1) : Nat) : Int) by omega)
        have h2 : ((0 + n : Nat) : Int) < 58 := by omega
        have ht : 0 + n < 80 := by omega
        generalize 0 + n = t at *
        have h1 : ((t : Nat) : Int) < 80 := by omega
        have h0 : (0 : Int) ≤ ((t : Nat) : Int) := by omega
        have hw0 : wr.heap[(N + 1)]? = some (.cells (ws W) 32 (0, 0)) := (hgr.block _ HWL.out.1 (fun e => by injection e with e; have := HWL.out.2; omega)).trans HW.out
        have hm0 : wr.heap[N]? = some (.cells (ws M) 32 (0, 0)) := (hgr.block _ HML.out.1 (fun e => by injection e with e; have := HML.out.2; omega)).trans HM.out
        generalize Dv.fore W x 0 n = X at *
        have HRW := Lib.hid (fun (W' : World) (h : W'.heap[(N + 1)]? = some (.cells (ws W) 32 (0, 0))) => row_of32 h t ht)
        have HRM := Lib.hid (fun (W' : World) (h : W'.heap[N]? = some (.cells (ws M) 32 (0, 0))) => row_of32 h t ht)
        generalize W.getD t 0 = v at *
        generalize M.getD t 0 = z at *
        have HNX := Lib.hid hnx
        have HGR := Lib.hid hgr
        have hw1 : (N + 1) < wr.heap.size := (Array.getElem?_eq_some_iff.1 hw0).1
        have hm1 : N < wr.heap.size := (Array.getElem?_eq_some_iff.1 hm0).1
        have hx1 : xb < wr.heap.size := (Array.getElem?_eq_some_iff.1 hxr).1
        have HXR := Lib.hid hxr
        have HW0 := Lib.hid hw0
        have HM0 := Lib.hid hm0
        clear hnx hgr hxr hw0 hm0 ht
        go_wp2_with fail
        refine wp_region_seq (fun W' => W'.heap[(N + 1)]? = some (.cells (ws W) 32 (0, 0)) ∧ W'.heap[N]? = some (.cells (ws M) 32 (0, 0))) [(1, false, 0), (2, false, 2), (3, false, 6), (4, false, 14), (0, true, 30), (5, true, 31), (6, true, 63)]
          7 (by kernel_rfl) (by kernel_rfl) (by kernel_rfl) (fun d _ _ _ _ h => by cases d <;> exact h) (by kernel_rfl) (by kernel_rfl) ⟨HW0.out, HM0.out⟩ ?_
        refine seqH_take (.int .i64 t) rfl (Or.inl ⟨by rfl, fun W _ => by go_simp⟩) ?_
        go_simp
        refine seqH_take (.int .i64 t) rfl (Or.inl ⟨by rfl, fun W _ => by go_simp⟩) ?_
        go_simp
        refine seqH_take (.pointer (some ⟨(N + 1), t, none⟩)) rfl (Or.inl ⟨by rfl, fun W _ => by go_simp⟩) ?_
        go_simp
        refine seqH_take (.int .u32 (tn v)) rfl (Or.inl ⟨by rfl, fun W hW => by have hc := HRW.out W hW.1; go_simp⟩) ?_
        go_simp
        refine seqH_call rfl (by rfl) (fun K hK => ?_)
        have HK := Lib.hid hK
        clear hK
        refine wp_load_row 40 (.tmp 9) rfl xb rfl 40 (cs X) (0, 0) _ HXR.out Try.underlying40 rfl (info28c _) ?_
        refine HK.out _ _ ⟨HW0.out, HM0.out⟩ ?_
        clear HK K
        go_simp
        refine seqH_call rfl (by rfl) (fun K hK => ?_)
        have HK := Lib.hid hK
        clear hK
        go_simp
        refine (stepN X t v _).mono ?_
        rintro e w2 ⟨rfl, hb2⟩
        have hw2 : w2.heap[(N + 1)]? = some (.cells (ws W) 32 (0, 0)) := (hb2.block _ hw1).trans HW0.out
        have hm2 : w2.heap[N]? = some (.cells (ws M) 32 (0, 0)) := (hb2.block _ hm1).trans HM0.out
        have hx2 : w2.heap[xb]? = some (.cells (cs X) 40 (0, 0)) := (hb2.block _ hx1).trans HXR.out
        have HG2 := Lib.hid (grown_drew HGR.out hb2)
        clear hb2
        refine HK.out _ _ ⟨hw2, hm2⟩ ?_
        clear HK K
        rw [← HNX.out]
        generalize hY : Dv.fore W x 0 (n + 1) = Y at *
        have HY := Lib.hid hY
        clear hY
        go_simp
        refine seqH_call rfl (by rfl) (fun K hK => ?_)
        have HK := Lib.hid hK
        clear hK
        refine wp_store_row 40 (.tmp 9) (.tmp 36) rfl xb (cs Y) rfl rfl 40 (cs X) hx2 (info28c _) (cs_sizes _ _) (cs_one _) ?_
        refine HK.out _ _ ⟨by rw [setRow_other _ _ _ _ (by have := HWL.out.2; omega)]; exact hw2, by rw [setRow_other _ _ _ _ (by have := HML.out.2; omega)]; exact hm2⟩ ?_
        clear HK K
        go_simp
        refine seqH_done ?_
        have HX2 := Lib.hid hx2
        clear hw2 hm2 hx2
        go_wp2
        go_roundg (58 - (n + 1))
        case rel => exact ⟨n + 1, by omega, rfl, by rw [← HQ.out], grown_setRow HG2.out _, by rw [HY.out]; exact setRow_heap _ _ _ _ _ _ HX2.out⟩
        case measure => omega
      · obtain rfl : n = 58 := by omega
        generalize Dv.fore W x 0 58 = S at *
        have hT := HT5.out.grown hgr (by omega)
        have hgx : xb < wr.heap.size := (Array.getElem?_eq_some_iff.1 hxr).1
        have HTA := Lib.hid hT
        have HXS := Lib.hid hxr
        have hiN := hT.hi
        clear HT5 HW HM HWL HML hgr hxr hT
        go_wp2_with fail
        have HPA := Lib.hid HTA.out.drew
        refine wp_region_tree (fun W' => W'.heap[xb]? = some (.cells (cs S) 40 (0, 0))) tree11 6 (by kernel_rfl) (by kernel_rfl) (by kernel_rfl) (fun d _ _ _ _ h => by cases d <;> exact h) (by kernel_rfl) HXS.out ?_
        refine trH_take (.agg (cs S)) rfl (yields_load 40 (.tmp 9) rfl (by rfl) xb rfl 40 (cs S) (0, 0) _ (fun W' hW => hW) Try.underlying40 rfl (info28c _)) ?_
        go_simp
        refine trH_take (.agg (cs S)) rfl (yields_load 40 (.tmp 9) rfl (by rfl) xb rfl 40 (cs S) (0, 0) _ (fun W' hW => hW) Try.underlying40 rfl (info28c _)) ?_
        go_simp
        refine trH_fork rfl (by rfl) rfl (by rfl) (fun K hK => ?_) (fun K hK => ?_)
        · as_aux_lemma =>
          have HK := Lib.hid hK
          clear hK
          go_simp
          refine HK.out _ _ ((heap_alloc_old _ _ (by show xb < wr.heap.size; exact hgx)).trans HXS.out) ?_
          clear HK K
          go_simp
          refine trH_call rfl (by rfl) (fun K hK => ?_)
          have HK := Lib.hid hK
          clear hK
          go_simp
          have hxx : ((wr.alloc (.cells #[.int .u32 0, .int .u32 0, .int .u32 0, .int .u32 0, .int .u32 0] 40)).alloc (.cells #[.int .u32 0, .int .u32 0, .int .u32 0, .int .u32 0, .int .u32 0] 40)).drew.heap[xb]? = some (.cells (cs S) 40 (0, 0)) := (heap_alloc_old _ _ (by simp; omega)).trans ((heap_alloc_old _ _ hgx).trans HXS.out)
          refine HK.out _ _ hxx ?_
          clear HK K
          go_simp
          refine trH_call rfl (by rfl) (fun K hK => ?_)
          have HK := Lib.hid hK
          clear hK
          have hz1 : ((wr.alloc (.cells #[.int .u32 0, .int .u32 0, .int .u32 0, .int .u32 0, .int .u32 0] 40)).alloc (.cells #[.int .u32 0, .int .u32 0, .int .u32 0, .int .u32 0, .int .u32 0] 40)).drew.heap[wr.heap.size]? = some (.cells #[.int .u32 0, .int .u32 0, .int .u32 0, .int .u32 0, .int .u32 0] 40 (0, 0)) := heap_alloc2_old wr _ _
          refine wp_store_row 40 (.tmp 11) (.tmp 37) rfl wr.heap.size (cs S) rfl rfl 40 #[.int .u32 0, .int .u32 0, .int .u32 0, .int .u32 0, .int .u32 0] hz1 (info28c _) (zero_size _) (cs_one _) ?_
          refine HK.out _ _ (by rw [setRow_other _ _ _ _ (by omega)]; exact hxx) ?_
          clear HK K
          go_simp
          refine trH_call rfl (by rfl) (fun K hK => ?_)
          have HK := Lib.hid hK
          clear hK
          have hz2 : (((wr.alloc (.cells #[.int .u32 0, .int .u32 0, .int .u32 0, .int .u32 0, .int .u32 0] 40)).alloc (.cells #[.int .u32 0, .int .u32 0, .int .u32 0, .int .u32 0, .int .u32 0] 40)).drew.setRow wr.heap.size (cs S)).heap[(wr.heap.size + 1)]? = some (.cells #[.int .u32 0, .int .u32 0, .int .u32 0, .int .u32 0, .int .u32 0] 40 (0, 0)) := two_rows wr _ _ rfl
          refine wp_store_row 40 (.tmp 12) (.tmp 38) rfl (wr.heap.size + 1) (cs S) rfl rfl 40 #[.int .u32 0, .int .u32 0, .int .u32 0, .int .u32 0, .int .u32 0] hz2 (info28c _) (zero_size _) (cs_one _) ?_
          refine HK.out _ _ (by rw [setRow_other _ _ _ _ (by omega), setRow_other _ _ _ _ (by omega)]; exact hxx) ?_
          clear HK K
          go_simp
          refine trH_done ?_
          have hq2 := setRow_heap _ _ _ (cs S) _ _ hz2
          have hp2 : ((((wr.alloc (.cells #[.int .u32 0, .int .u32 0, .int .u32 0, .int .u32 0, .int .u32 0] 40)).alloc (.cells #[.int .u32 0, .int .u32 0, .int .u32 0, .int .u32 0, .int .u32 0] 40)).drew.setRow wr.heap.size (cs S)).setRow (wr.heap.size + 1) (cs S)).heap[wr.heap.size]? = some (.cells (cs S) 40 (0, 0)) := by rw [setRow_other _ _ _ _ (by omega)]; exact setRow_heap _ _ _ (cs S) _ _ hz1
          have hT2 : Tq w ((((wr.alloc (.cells #[.int .u32 0, .int .u32 0, .int .u32 0, .int .u32 0, .int .u32 0] 40)).alloc (.cells #[.int .u32 0, .int .u32 0, .int .u32 0, .int .u32 0, .int .u32 0] 40)).drew.setRow wr.heap.size (cs S)).setRow (wr.heap.size + 1) (cs S)) N x V M W := ((((HTA.out.alloc _).alloc _).drew.row _ (by omega) _).row _ (by omega) _)
          clear hz1 hz2 hxx
          generalize (((wr.alloc (.cells #[.int .u32 0, .int .u32 0, .int .u32 0, .int .u32 0, .int .u32 0] 40)).alloc (.cells #[.int .u32 0, .int .u32 0, .int .u32 0, .int .u32 0, .int .u32 0] 40)).drew.setRow wr.heap.size (cs S)).setRow (wr.heap.size + 1) (cs S) = u2 at *
          obtain ⟨p, hp⟩ : ∃ p, p = wr.heap.size := ⟨_, rfl⟩
          obtain ⟨q, hq⟩ : ∃ q, q = (wr.heap.size + 1) := ⟨_, rfl⟩
          have hBp : N + 1 < p := by omega
          have hBq : N + 1 < q := by omega
          have hpq : p ≠ q := by omega
          rw [← hp] at hp2
          rw [← hq] at hq2
          rw [← hq, ← hp]
          clear hp hq HTA hgx
          clear HXS HPA
          have HX0 := Lib.hid (show u2.heap[p]? = some (.cells (cs (Dv.rear (Dv.sib W M) S 58 0)) 40 (0, 0)) from hp2)
          have HQ2 := Lib.hid hq2
          have HT2 := Lib.hid hT2
          have HW := Lib.hid hT2.wd
          have HM := Lib.hid hT2.m
          have HWL := Lib.hid (show N + 1 < u2.heap.size ∧ N + 1 ≠ p from ⟨hT2.hi, by omega⟩)
          have HML := Lib.hid (show N < u2.heap.size ∧ N ≠ p from ⟨by have := hT2.hi; omega, by omega⟩)
          have hq3 : q < u2.heap.size := (Array.getElem?_eq_some_iff.1 hq2).1
          have hp3 : p < u2.heap.size := (Array.getElem?_eq_some_iff.1 hp2).1
          clear hp2 hq2 hT2
          go_wp2
          go_loopg [13] 58 (fun gk i wr => ∃ n : Nat, n ≤ 58 ∧ gk = 58 - n ∧ i = .int .i64 ((58 : Int) - 1 - n) ∧ u2.grownBy wr (some p) ∧ wr.heap[p]? = some (.cells (cs (Dv.rear (Dv.sib W M) S 58 n)) 40 (0, 0)))
          case atStart => exact ⟨0, Nat.zero_le _, rfl, rfl, grown_refl _ _, HX0.out⟩
          case round =>
            obtain ⟨n, hn, rfl, rfl, hgr, hxr⟩ := hrel
            clear HX0
            by_cases hlt : n < 58
            · as_aux_lemma =>
              have hnx : Dv.rear (Dv.sib W M) S 58 (n + 1) = Sh.back (Dv.rear (Dv.sib W M) S 58 n) (58 - 1 - n) ((Dv.sib W M).getD (58 - 1 - n) 0) := rfl
              have hk : (58 : Int) - 1 - n = ((58 - 1 - n : Nat) : Int) := by omega
              rw [hk]
              clear hk
              have HQ := Lib.hid (show ((58 - 1 - n : Nat) : Int) - 1 = (58 : Int) - 1 - ((n + 1 : Nat) : Int) by omega)
              have ht : 58 - 1 - n < 80 := by omega
              rw [sib_get _ ht] at hnx
              generalize 58 - 1 - n = t at *
              have h1 : ((t : Nat) : Int) < 80 := by omega
              have h0 : (0 : Int) ≤ ((t : Nat) : Int) := by omega
              have hw0 : wr.heap[(N + 1)]? = some (.cells (ws W) 32 (0, 0)) := (hgr.block _ HWL.out.1 (fun e => by injection e with e; have := HWL.out.2; omega)).trans HW.out
              have hm0 : wr.heap[N]? = some (.cells (ws M) 32 (0, 0)) := (hgr.block _ HML.out.1 (fun e => by injection e with e; have := HML.out.2; omega)).trans HM.out
              generalize Dv.rear (Dv.sib W M) S 58 n = X at *
              have HRW := Lib.hid (fun (W' : World) (h : W'.heap[(N + 1)]? = some (.cells (ws W) 32 (0, 0))) => row_of32 h t ht)
              have HRM := Lib.hid (fun (W' : World) (h : W'.heap[N]? = some (.cells (ws M) 32 (0, 0))) => row_of32 h t ht)
              generalize W.getD t 0 = v at *
              generalize M.getD t 0 = z at *
              have HNX := Lib.hid hnx
              have HGR := Lib.hid hgr
              have hw1 : (N + 1) < wr.heap.size := (Array.getElem?_eq_some_iff.1 hw0).1
              have hm1 : N < wr.heap.size := (Array.getElem?_eq_some_iff.1 hm0).1
              have hx1 : p < wr.heap.size := (Array.getElem?_eq_some_iff.1 hxr).1
              have HXR := Lib.hid hxr
              have HW0 := Lib.hid hw0
              have HM0 := Lib.hid hm0
              clear hnx hgr hxr hw0 hm0 ht
              go_wp2_with fail
              refine wp_region_seq (fun W' => W'.heap[(N + 1)]? = some (.cells (ws W) 32 (0, 0)) ∧ W'.heap[N]? = some (.cells (ws M) 32 (0, 0))) [(1, false, 0), (2, false, 2), (3, false, 6), (4, false, 14), (5, false, 30), (6, false, 62), (7, false, 126), (8, false, 254), (0, true, 510), (9, true, 511), (10, true, 1023)]
                11 (by kernel_rfl) (by kernel_rfl) (by kernel_rfl) (fun d _ _ _ _ h => by cases d <;> exact h) (by kernel_rfl) (by kernel_rfl) ⟨HW0.out, HM0.out⟩ ?_
              refine seqH_take (.int .i64 t) rfl (Or.inl ⟨by rfl, fun W _ => by go_simp⟩) ?_
              go_simp
              refine seqH_take (.int .i64 t) rfl (Or.inl ⟨by rfl, fun W _ => by go_simp⟩) ?_
              go_simp
              refine seqH_take (.pointer (some ⟨(N + 1), t, none⟩)) rfl (Or.inl ⟨by rfl, fun W _ => by go_simp⟩) ?_
              go_simp
              refine seqH_take (.int .u32 (tn v)) rfl (Or.inl ⟨by rfl, fun W hW => by have hc := HRW.out W hW.1; go_simp⟩) ?_
              go_simp
              refine seqH_take (.int .i64 t) rfl (Or.inl ⟨by rfl, fun W _ => by go_simp⟩) ?_
              go_simp
              refine seqH_take (.pointer (some ⟨N, t, none⟩)) rfl (Or.inl ⟨by rfl, fun W _ => by go_simp⟩) ?_
              go_simp
              refine seqH_take (.int .u32 (tn z)) rfl (Or.inl ⟨by rfl, fun W hW => by have hc := HRM.out W hW.2; go_simp⟩) ?_
              go_simp
              refine seqH_take (.int .u32 (tn (v ^^^ z))) rfl (Or.inl ⟨by rfl, fun W _ => by go_simp⟩) ?_
              go_simp
              refine seqH_call rfl (by rfl) (fun K hK => ?_)
              have HK := Lib.hid hK
              clear hK
              refine wp_load_row 40 (.tmp 11) rfl p rfl 40 (cs X) (0, 0) _ HXR.out Try.underlying40 rfl (info28c _) ?_
              refine HK.out _ _ ⟨HW0.out, HM0.out⟩ ?_
              clear HK K
              go_simp
              refine seqH_call rfl (by rfl) (fun K hK => ?_)
              have HK := Lib.hid hK
              clear hK
              go_simp
              refine (backN X t (v ^^^ z) _).mono ?_
              rintro e w2 ⟨rfl, hb2⟩
              have hw2 : w2.heap[(N + 1)]? = some (.cells (ws W) 32 (0, 0)) := (hb2.block _ hw1).trans HW0.out
              have hm2 : w2.heap[N]? = some (.cells (ws M) 32 (0, 0)) := (hb2.block _ hm1).trans HM0.out
              have hx2 : w2.heap[p]? = some (.cells (cs X) 40 (0, 0)) := (hb2.block _ hx1).trans HXR.out
              have HG2 := Lib.hid (grown_drew HGR.out hb2)
              clear hb2
              refine HK.out _ _ ⟨hw2, hm2⟩ ?_
              clear HK K
              rw [← HNX.out]
              generalize hY : Dv.rear (Dv.sib W M) S 58 (n + 1) = Y at *
              have HY := Lib.hid hY
              clear hY
              go_simp
              refine seqH_call rfl (by rfl) (fun K hK => ?_)
              have HK := Lib.hid hK
              clear hK
              refine wp_store_row 40 (.tmp 11) (.tmp 52) rfl p (cs Y) rfl rfl 40 (cs X) hx2 (info28c _) (cs_sizes _ _) (cs_one _) ?_
              refine HK.out _ _ ⟨by rw [setRow_other _ _ _ _ (by have := HWL.out.2; omega)]; exact hw2, by rw [setRow_other _ _ _ _ (by have := HML.out.2; omega)]; exact hm2⟩ ?_
              clear HK K
              go_simp
              refine seqH_done ?_
              have HX2 := Lib.hid hx2
              clear hw2 hm2 hx2
              go_wp2
              go_roundg (58 - (n + 1))
              case rel => exact ⟨n + 1, by omega, rfl, by rw [← HQ.out], grown_setRow HG2.out _, by rw [HY.out]; exact setRow_heap _ _ _ _ _ _ HX2.out⟩
              case measure => omega
            · obtain rfl : n = 58 := by omega
              generalize Dv.rear (Dv.sib W M) S 58 58 = FI at *
              have hT3 := HT2.out.grown hgr hBp
              have hqw : wr.heap[q]? = some (.cells (cs S) 40 (0, 0)) := (hgr.block q hq3 (fun e => by injection e with e; omega)).trans HQ2.out
              have hend : ¬ (0 : Int) ≤ (58 : Int) - 1 - ((58 : Nat) : Int) := by omega
              have HP3 := Lib.hid hxr
              have hq4 : q < wr.heap.size := (Array.getElem?_eq_some_iff.1 hqw).1
              have hp4 : p < wr.heap.size := (Array.getElem?_eq_some_iff.1 hxr).1
              clear HT2 HQ2 HW HM HWL HML hq3 hp3 hgr hxr
              have HX0 := Lib.hid (show wr.heap[q]? = some (.cells (cs (Dv.fore (Dv.sib W M) S 58 0)) 40 (0, 0)) from hqw)
              have HT2 := Lib.hid hT3
              have HW := Lib.hid hT3.wd
              have HM := Lib.hid hT3.m
              have HWL := Lib.hid (show N + 1 < wr.heap.size ∧ N + 1 ≠ q from ⟨hT3.hi, by omega⟩)
              have HML := Lib.hid (show N < wr.heap.size ∧ N ≠ q from ⟨by have := hT3.hi; omega, by omega⟩)
              clear hT3 hqw
              generalize wr = u3 at *
              go_wp2
              clear hend
              go_loopg [14] 22 (fun gk i wr => ∃ n : Nat, n ≤ 22 ∧ gk = 22 - n ∧ i = .int .i64 (((58 + n : Nat) : Int)) ∧ u3.grownBy wr (some q) ∧ wr.heap[q]? = some (.cells (cs (Dv.fore (Dv.sib W M) S 58 n)) 40 (0, 0)))
              case atStart => exact ⟨0, Nat.zero_le _, rfl, rfl, grown_refl _ _, HX0.out⟩
              case round =>
                obtain ⟨n, hn, rfl, rfl, hgr, hxr⟩ := hrel
                clear HX0
                by_cases hlt : n < 22
                · as_aux_lemma =>
                  have hnx : Dv.fore (Dv.sib W M) S 58 (n + 1) = Sh.step (Dv.fore (Dv.sib W M) S 58 n) (58 + n) ((Dv.sib W M).getD (58 + n) 0) := rfl
                  have HQ := Lib.hid (show ((58 + n : Nat) : Int) + 1 = ((58 + (n + 1) : Nat) : Int) by omega)
                  have ht : 58 + n < 80 := by omega
                  rw [sib_get _ ht] at hnx
                  generalize 58 + n = t at *
                  have h1 : ((t : Nat) : Int) < 80 := by omega
                  have h0 : (0 : Int) ≤ ((t : Nat) : Int) := by omega
                  have hw0 : wr.heap[(N + 1)]? = some (.cells (ws W) 32 (0, 0)) := (hgr.block _ HWL.out.1 (fun e => by injection e with e; have := HWL.out.2; omega)).trans HW.out
                  have hm0 : wr.heap[N]? = some (.cells (ws M) 32 (0, 0)) := (hgr.block _ HML.out.1 (fun e => by injection e with e; have := HML.out.2; omega)).trans HM.out
                  generalize Dv.fore (Dv.sib W M) S 58 n = X at *
                  have HRW := Lib.hid (fun (W' : World) (h : W'.heap[(N + 1)]? = some (.cells (ws W) 32 (0, 0))) => row_of32 h t ht)
                  have HRM := Lib.hid (fun (W' : World) (h : W'.heap[N]? = some (.cells (ws M) 32 (0, 0))) => row_of32 h t ht)
                  generalize W.getD t 0 = v at *
                  generalize M.getD t 0 = z at *
                  have HNX := Lib.hid hnx
                  have HGR := Lib.hid hgr
                  have hw1 : (N + 1) < wr.heap.size := (Array.getElem?_eq_some_iff.1 hw0).1
                  have hm1 : N < wr.heap.size := (Array.getElem?_eq_some_iff.1 hm0).1
                  have hx1 : q < wr.heap.size := (Array.getElem?_eq_some_iff.1 hxr).1
                  have HXR := Lib.hid hxr
                  have HW0 := Lib.hid hw0
                  have HM0 := Lib.hid hm0
                  clear hnx hgr hxr hw0 hm0 ht
                  go_wp2_with fail
                  refine wp_region_seq (fun W' => W'.heap[(N + 1)]? = some (.cells (ws W) 32 (0, 0)) ∧ W'.heap[N]? = some (.cells (ws M) 32 (0, 0))) [(1, false, 0), (2, false, 2), (3, false, 6), (4, false, 14), (5, false, 30), (6, false, 62), (7, false, 126), (8, false, 254), (0, true, 510), (9, true, 511), (10, true, 1023)]
                    11 (by kernel_rfl) (by kernel_rfl) (by kernel_rfl) (fun d _ _ _ _ h => by cases d <;> exact h) (by kernel_rfl) (by kernel_rfl) ⟨HW0.out, HM0.out⟩ ?_
                  refine seqH_take (.int .i64 t) rfl (Or.inl ⟨by rfl, fun W _ => by go_simp⟩) ?_
                  go_simp
                  refine seqH_take (.int .i64 t) rfl (Or.inl ⟨by rfl, fun W _ => by go_simp⟩) ?_
                  go_simp
                  refine seqH_take (.pointer (some ⟨(N + 1), t, none⟩)) rfl (Or.inl ⟨by rfl, fun W _ => by go_simp⟩) ?_
                  go_simp
                  refine seqH_take (.int .u32 (tn v)) rfl (Or.inl ⟨by rfl, fun W hW => by have hc := HRW.out W hW.1; go_simp⟩) ?_
                  go_simp
                  refine seqH_take (.int .i64 t) rfl (Or.inl ⟨by rfl, fun W _ => by go_simp⟩) ?_
                  go_simp
                  refine seqH_take (.pointer (some ⟨N, t, none⟩)) rfl (Or.inl ⟨by rfl, fun W _ => by go_simp⟩) ?_
                  go_simp
                  refine seqH_take (.int .u32 (tn z)) rfl (Or.inl ⟨by rfl, fun W hW => by have hc := HRM.out W hW.2; go_simp⟩) ?_
                  go_simp
                  refine seqH_take (.int .u32 (tn (v ^^^ z))) rfl (Or.inl ⟨by rfl, fun W _ => by go_simp⟩) ?_
                  go_simp
                  refine seqH_call rfl (by rfl) (fun K hK => ?_)
                  have HK := Lib.hid hK
                  clear hK
                  refine wp_load_row 40 (.tmp 12) rfl q rfl 40 (cs X) (0, 0) _ HXR.out Try.underlying40 rfl (info28c _) ?_
                  refine HK.out _ _ ⟨HW0.out, HM0.out⟩ ?_
                  clear HK K
                  go_simp
                  refine seqH_call rfl (by rfl) (fun K hK => ?_)
                  have HK := Lib.hid hK
                  clear hK
                  go_simp
                  refine (stepN X t (v ^^^ z) _).mono ?_
                  rintro e w2 ⟨rfl, hb2⟩
                  have hw2 : w2.heap[(N + 1)]? = some (.cells (ws W) 32 (0, 0)) := (hb2.block _ hw1).trans HW0.out
                  have hm2 : w2.heap[N]? = some (.cells (ws M) 32 (0, 0)) := (hb2.block _ hm1).trans HM0.out
                  have hx2 : w2.heap[q]? = some (.cells (cs X) 40 (0, 0)) := (hb2.block _ hx1).trans HXR.out
                  have HG2 := Lib.hid (grown_drew HGR.out hb2)
                  clear hb2
                  refine HK.out _ _ ⟨hw2, hm2⟩ ?_
                  clear HK K
                  rw [← HNX.out]
                  generalize hY : Dv.fore (Dv.sib W M) S 58 (n + 1) = Y at *
                  have HY := Lib.hid hY
                  clear hY
                  go_simp
                  refine seqH_call rfl (by rfl) (fun K hK => ?_)
                  have HK := Lib.hid hK
                  clear hK
                  refine wp_store_row 40 (.tmp 12) (.tmp 66) rfl q (cs Y) rfl rfl 40 (cs X) hx2 (info28c _) (cs_sizes _ _) (cs_one _) ?_
                  refine HK.out _ _ ⟨by rw [setRow_other _ _ _ _ (by have := HWL.out.2; omega)]; exact hw2, by rw [setRow_other _ _ _ _ (by have := HML.out.2; omega)]; exact hm2⟩ ?_
                  clear HK K
                  go_simp
                  refine seqH_done ?_
                  have HX2 := Lib.hid hx2
                  clear hw2 hm2 hx2
                  go_wp2
                  go_roundg (22 - (n + 1))
                  case rel => exact ⟨n + 1, by omega, rfl, by rw [← HQ.out], grown_setRow HG2.out _, by rw [HY.out]; exact setRow_heap _ _ _ _ _ _ HX2.out⟩
                  case measure => omega
                · obtain rfl : n = 22 := by omega
                  generalize Dv.fore (Dv.sib W M) S 58 22 = LA at *
                  have hT4 := HT2.out.grown hgr hBq
                  have hpw : wr.heap[p]? = some (.cells (cs FI) 40 (0, 0)) := (hgr.block p hp4 (fun e => by injection e with e; omega)).trans HP3.out
                  have HC := Lib.hid hT4.ch
                  have hq5 : q < wr.heap.size := (Array.getElem?_eq_some_iff.1 hxr).1
                  have hp5 : p < wr.heap.size := (Array.getElem?_eq_some_iff.1 hpw).1
                  have HT4 := Lib.hid hT4
                  have HPW := Lib.hid hpw
                  have HQW := Lib.hid hxr
                  clear HT2 HP3 HW HM HWL HML hp4 hq4 hgr hxr hpw hT4
                  go_wp2_with (with_reducible refine wpList_load_row rfl 36 (.tmp 3) rfl w.heap.size rfl 36 (cs x) (0, 0) _ HC.out Try.underlying36 rfl (info36 _) ?_)
                  refine (HPR.out _).mono ?_
                  rintro e5 w5 ⟨rfl, hb5⟩
                  have HN := Lib.hid (heap_alloc_new w5 (.cells #[.int .u32 0, .int .u32 0, .int .u32 0, .int .u32 0, .int .u32 0] 40))
                  have hbe : Below w5.heap.size w5 ((w5.alloc (.cells #[.int .u32 0, .int .u32 0, .int .u32 0, .int .u32 0, .int .u32 0] 40)).setRow w5.heap.size (cs E)) := below_setRow ((Below.refl _ w5).alloc (Nat.le_refl _) _) (Nat.le_refl _) _
                  have hT6 := (HT4.out.more hb5).more hbe
                  have hp6 := (hbe.block _ (Nat.lt_of_lt_of_le hp5 hb5.size)).trans ((hb5.block _ hp5).trans HPW.out)
                  have hq6 := (hbe.block _ (Nat.lt_of_lt_of_le hq5 hb5.size)).trans ((hb5.block _ hq5).trans HQW.out)
                  have he6 := setRow_heap _ _ _ (cs E) _ _ HN.out
                  have hqe : q < w5.heap.size := Nat.lt_of_lt_of_le hq5 hb5.size
                  clear hb5 hbe HT4 HPW HQW HC HPR hp5 hq5
                  go_wp2_with (with_reducible refine wpList_store_row rfl 40 (.tmp 15) (.tmp 69) rfl w5.heap.size (cs E) rfl rfl 40 _ HN.out (info28c _) (zero_size _) (cs_one _) ?_)
                  clear HN
                  generalize (w5.alloc (.cells #[.int .u32 0, .int .u32 0, .int .u32 0, .int .u32 0, .int .u32 0] 40)).setRow w5.heap.size (cs E) = u6 at *
                  generalize w5.heap.size = eb at *
                  have HT6 := Lib.hid hT6
                  have HP6 := Lib.hid (row_cs40 hp6)
                  have HQ6 := Lib.hid (row_cs40 hq6)
                  have HE6 := Lib.hid he6
                  have hp7 : p < u6.heap.size := (Array.getElem?_eq_some_iff.1 hp6).1
                  have he7 : eb < u6.heap.size := (Array.getElem?_eq_some_iff.1 he6).1
                  clear hT6 hp6 hq6 he6
                  go_loopg [16] 5 (fun gk i wr => ∃ n : Nat, n ≤ 5 ∧ gk = 5 - n ∧ i = .int .i64 n ∧ u6.grownBy wr (some q) ∧ wr.rowIs q 40 5 (fun j => .int .u32 (tn (if j < n then fld LA j + fld FI j else fld LA j))))
                  case atStart => exact ⟨0, Nat.zero_le _, rfl, rfl, grown_refl _ _, HQ6.out.congr fun j _ => by rw [if_neg (by omega)]⟩
                  case round =>
                    obtain ⟨t, hn, rfl, rfl, hgr, hrw⟩ := hrel
                    clear HQ6
                    by_cases hlt : t < 5
                    · have h1 : ((t : Nat) : Int) < 5 := by omega
                      have h0 : (0 : Int) ≤ ((t : Nat) : Int) := by omega
                      have c1 := hrw.cell hlt
                      rw [if_neg (by omega)] at c1
                      have c2 : wr.cell? ⟨p, t, none⟩ = some (.int .u32 (tn (fld FI t))) := (HP6.out.of_block (hgr.block p hp7 (fun e => by injection e with e; omega))).cell hlt
                      have cf := hrw.frozen t
                      have hput : (wr.drew.setCell ⟨q, t, none⟩ (.int .u32 (tn (fld LA t + fld FI t)))).rowIs q 40 5 (fun j => .int .u32 (tn (if j < t + 1 then fld LA j + fld FI j else fld LA j))) := (hrw.drew.set t _).congr fun j _ => by
                        by_cases e : j = t
                        · subst e; rw [if_pos rfl, if_pos (by omega)]
                        · rw [if_neg e]
                          by_cases hlj : j < t
                          · rw [if_pos hlj, if_pos (by omega)]
                          · rw [if_neg hlj, if_neg (by omega)]
                      have hgd : u6.grownBy wr.drew (some q) := ⟨hgr.os, hgr.tape, hgr.output, hgr.size, hgr.block⟩
                      have HG := Lib.hid (fun v => grown_trans hgd (Lib.grownBy_setCell wr.drew q t v))
                      generalize fld LA t = y1 at *
                      generalize fld FI t = y2 at *
                      have HPT := Lib.hid hput
                      clear hput hgd hgr hrw
                      go_wp2_with fail
                      refine wp_region_still_tail 9 (by kernel_rfl) (by kernel_rfl) ?_
                      simp only [List.take_succ_cons, List.take_zero, List.drop_succ_cons, List.drop_zero]
                      change wpStill _ _ (World.drew _) (fun a' => wpList _ _ _ _ a' (World.drew _)) _ _
                      iterate 9 still_step
                      refine wpStill_nil ?_
                      go_wp2
                      go_roundg (5 - (t + 1))
                      case rel => exact ⟨t + 1, by omega, rfl, by go_num, HG.out _, HPT.out⟩
                      case measure => omega
                    · obtain rfl : t = 5 := by omega
                      have hT8 := HT6.out.grown hgr hBq
                      have hl8 : wr.heap[q]? = some (.cells (cs (Sh.add LA FI)) 40 (0, 0)) := cs_row40 (hrw.congr fun j hj => by rw [if_pos hj, fld_add])
                      have he8 : wr.heap[eb]? = some (.cells (cs E) 40 (0, 0)) := (hgr.block eb he7 (fun e => by injection e with e; omega)).trans HE6.out
                      have HEQ := Lib.hid (fun W' => eql_chain (Sh.add LA FI) E W')
                      generalize Sh.add LA FI = LL at *
                      generalize Dv.same LL E = sm at *
                      clear hgr hrw HT6 HE6 HP6 hp7 he7
                      have hs8 : wr.heap.size ≤ wr.heap.size := Nat.le_refl _
                      have HT8 := Lib.hid hT8
                      have HL8 := Lib.hid hl8
                      have HE8 := Lib.hid he8
                      clear hT8 hl8 he8 hs8
                      go_wp2_with fail
                      cases ok
                      case false => as_aux_lemma =>
                        replace HNE : RowKit.Hid (∀ W, (binOp .neq 32 (.agg (ws M)) (.agg (ws []))).run Try.prog W = .ok (.bool false) W) := HNE
                        refine wp_region_seq (fun W' => Tq w W' N x V M W ∧ W'.heap[q]? = some (.cells (cs LL) 40 (0, 0)) ∧ W'.heap[eb]? = some (.cells (cs E) 40 (0, 0))) [(0, false, 0), (1, false, 1), (2, false, 3), (4, false, 7), (5, false, 23), (6, false, 55), (3, true, 119), (7, false, 127), (8, false, 255), (9, false, 511), (10, false, 1023), (11, false, 2047), (12, false, 4095), (13, false, 8191)]
                          14 (by kernel_rfl) (by kernel_rfl) (by kernel_rfl) (fun d _ _ _ _ h => by cases d <;> exact h) (by kernel_rfl) (by kernel_rfl) ⟨HT8.out.drew, HL8.out, HE8.out⟩ ?_
                        refine seqH_take (.agg (cs x)) rfl (yields_load 36 (.tmp 3) rfl (by rfl) w.heap.size rfl 36 (cs x) (0, 0) _ (fun W' hW => hW.1.ch) Try.underlying36 rfl (info36 _)) ?_
                        go_simp
                        refine seqH_take (.string s) rfl (Or.inl ⟨by rfl, fun W _ => by go_simp⟩) ?_
                        go_simp
                        refine seqH_take (.agg V) rfl (yields_load 23 (.tmp 5) rfl (by rfl) (w.heap.size + 1) rfl 23 V (0, 0) _ (fun W' hW => hW.1.ve) Try.underlying23 rfl HVI.out) ?_
                        go_simp
                        refine seqH_take (.agg (ws M)) rfl (yields_load 32 (.tmp 7) rfl (by rfl) N rfl 32 (ws M) (0, 0) _ (fun W' hW => hW.1.m) Try.underlying32 rfl (info30' _)) ?_
                        go_simp
                        refine seqH_take (.agg (ws [])) rfl (yields_build0 32 rfl (by rfl) (ws []) built32) ?_
                        go_simp
                        refine seqH_take (.bool false) rfl (yields_eq_op .neq (Or.inr rfl) 32 32 (.tmp 87) (.tmp 88) rfl (by rfl) (ws M) (ws []) rfl rfl guard32 false HNE.out) ?_
                        go_simp
                        refine seqH_call rfl (by rfl) (fun K hK => ?_)
                        have HK := Lib.hid hK
                        clear hK
                        go_simp
                        refine (HMK.out _).mono ?_
                        rintro e9 w9 ⟨rfl, hb9⟩
                        have hT9 := HT8.out.drew.more hb9
                        have hl9 : w9.heap[q]? = some (.cells (cs LL) 40 (0, 0)) := (hb9.block _ (Array.getElem?_eq_some_iff.1 HL8.out).1).trans HL8.out
                        have he9 : w9.heap[eb]? = some (.cells (cs E) 40 (0, 0)) := (hb9.block _ (Array.getElem?_eq_some_iff.1 HE8.out).1).trans HE8.out
                        clear hb9
                        refine HK.out _ _ ⟨hT9, hl9, he9⟩ ?_
                        have HB9 := Lib.hid hT9.below
                        clear HK K HT8 HL8 HE8 hT9 hl9 he9
                        rw [Bool.false_and]
                        go_simp
                        refine seqH_take (.bool false) rfl (Or.inl ⟨by rfl, fun W _ => by go_simp⟩) ?_
                        go_simp
                        refine seqH_take undef rfl (Or.inr ⟨by rfl, rfl⟩) ?_
                        go_simp
                        refine seqH_take undef rfl (Or.inr ⟨by rfl, rfl⟩) ?_
                        go_simp
                        refine seqH_take undef rfl (Or.inr ⟨by rfl, rfl⟩) ?_
                        go_simp
                        refine seqH_take (.bool false) rfl (Or.inl ⟨by rfl, fun W _ => by go_simp⟩) ?_
                        go_simp
                        refine seqH_take (.bool true) rfl (Or.inl ⟨by rfl, fun W _ => by go_simp⟩) ?_
                        go_simp
                        refine seqH_take (.bool true) rfl (Or.inl ⟨by rfl, fun W _ => by go_simp⟩) ?_
                        go_simp
                        refine seqH_done ?_
                        go_wp2
                        go_ret
                        exact ⟨rfl, HB9.out⟩
                      case true => as_aux_lemma =>
                        replace HNE : RowKit.Hid (∀ W, (binOp .neq 32 (.agg (ws M)) (.agg (ws []))).run Try.prog W = .ok (.bool true) W) := HNE
                        refine wp_region_seq (fun W' => Tq w W' N x V M W ∧ W'.heap[q]? = some (.cells (cs LL) 40 (0, 0)) ∧ W'.heap[eb]? = some (.cells (cs E) 40 (0, 0))) [(0, false, 0), (1, false, 1), (2, false, 3), (4, false, 7), (5, false, 23), (6, false, 55), (3, true, 119), (7, false, 127), (8, false, 255), (9, false, 511), (10, false, 1023), (11, false, 2047), (12, false, 4095), (13, false, 8191)]
                          14 (by kernel_rfl) (by kernel_rfl) (by kernel_rfl) (fun d _ _ _ _ h => by cases d <;> exact h) (by kernel_rfl) (by kernel_rfl) ⟨HT8.out.drew, HL8.out, HE8.out⟩ ?_
                        refine seqH_take (.agg (cs x)) rfl (yields_load 36 (.tmp 3) rfl (by rfl) w.heap.size rfl 36 (cs x) (0, 0) _ (fun W' hW => hW.1.ch) Try.underlying36 rfl (info36 _)) ?_
                        go_simp
                        refine seqH_take (.string s) rfl (Or.inl ⟨by rfl, fun W _ => by go_simp⟩) ?_
                        go_simp
                        refine seqH_take (.agg V) rfl (yields_load 23 (.tmp 5) rfl (by rfl) (w.heap.size + 1) rfl 23 V (0, 0) _ (fun W' hW => hW.1.ve) Try.underlying23 rfl HVI.out) ?_
                        go_simp
                        refine seqH_take (.agg (ws M)) rfl (yields_load 32 (.tmp 7) rfl (by rfl) N rfl 32 (ws M) (0, 0) _ (fun W' hW => hW.1.m) Try.underlying32 rfl (info30' _)) ?_
                        go_simp
                        refine seqH_take (.agg (ws [])) rfl (yields_build0 32 rfl (by rfl) (ws []) built32) ?_
                        go_simp
                        refine seqH_take (.bool true) rfl (yields_eq_op .neq (Or.inr rfl) 32 32 (.tmp 87) (.tmp 88) rfl (by rfl) (ws M) (ws []) rfl rfl guard32 true HNE.out) ?_
                        go_simp
                        refine seqH_call rfl (by rfl) (fun K hK => ?_)
                        have HK := Lib.hid hK
                        clear hK
                        go_simp
                        refine (HMK.out _).mono ?_
                        rintro e9 w9 ⟨rfl, hb9⟩
                        have hT9 := HT8.out.drew.more hb9
                        have hl9 : w9.heap[q]? = some (.cells (cs LL) 40 (0, 0)) := (hb9.block _ (Array.getElem?_eq_some_iff.1 HL8.out).1).trans HL8.out
                        have he9 : w9.heap[eb]? = some (.cells (cs E) 40 (0, 0)) := (hb9.block _ (Array.getElem?_eq_some_iff.1 HE8.out).1).trans HE8.out
                        clear hb9
                        refine HK.out _ _ ⟨hT9, hl9, he9⟩ ?_
                        have HB9 := Lib.hid hT9.below
                        clear HK K HT8 HL8 HE8 hT9 hl9 he9
                        rw [Bool.true_and]
                        go_simp
                        refine seqH_take (.bool true) rfl (Or.inl ⟨by rfl, fun W _ => by go_simp⟩) ?_
                        go_simp
                        refine seqH_take (.agg (cs LL)) rfl (yields_load 40 (.tmp 12) rfl (by rfl) q rfl 40 (cs LL) (0, 0) _ (fun W' hW => hW.2.1) Try.underlying40 rfl (info28c _)) ?_
                        go_simp
                        refine seqH_take (.agg (cs E)) rfl (yields_load 40 (.tmp 15) rfl (by rfl) eb rfl 40 (cs E) (0, 0) _ (fun W' hW => hW.2.2) Try.underlying40 rfl (info28c _)) ?_
                        go_simp
                        refine seqH_take (.bool sm) rfl (yields_eq_op .eql (Or.inl rfl) 40 40 (.tmp 91) (.tmp 92) rfl (by rfl) (cs LL) (cs E) rfl rfl guard28 sm HEQ.out) ?_
                        go_simp
                        refine seqH_take (.bool sm) rfl (Or.inl ⟨by rfl, fun W _ => by go_simp⟩) ?_
                        go_simp
                        refine seqH_take (.bool true) rfl (Or.inl ⟨by rfl, fun W _ => by go_simp⟩) ?_
                        go_simp
                        refine seqH_take (.bool true) rfl (Or.inl ⟨by rfl, fun W _ => by go_simp⟩) ?_
                        go_simp
                        refine seqH_done ?_
                        go_wp2
                        go_ret
                        exact ⟨rfl, HB9.out⟩
        · as_aux_lemma =>
          have HK := Lib.hid hK
          clear hK
          go_simp
          refine HK.out _ _ ((heap_alloc_old _ _ (by show xb < wr.heap.size; exact hgx)).trans HXS.out) ?_
          clear HK K
          go_simp
          refine trH_call rfl (by rfl) (fun K hK => ?_)
          have HK := Lib.hid hK
          clear hK
          go_simp
          have hxx : ((wr.alloc (.cells #[.int .u32 0, .int .u32 0, .int .u32 0, .int .u32 0, .int .u32 0] 40)).alloc (.cells #[.int .u32 0, .int .u32 0, .int .u32 0, .int .u32 0, .int .u32 0] 40)).drew.heap[xb]? = some (.cells (cs S) 40 (0, 0)) := (heap_alloc_old _ _ (by simp; omega)).trans ((heap_alloc_old _ _ hgx).trans HXS.out)
          refine HK.out _ _ hxx ?_
          clear HK K
          go_simp
          refine trH_call rfl (by rfl) (fun K hK => ?_)
          have HK := Lib.hid hK
          clear hK
          have hz1 : ((wr.alloc (.cells #[.int .u32 0, .int .u32 0, .int .u32 0, .int .u32 0, .int .u32 0] 40)).alloc (.cells #[.int .u32 0, .int .u32 0, .int .u32 0, .int .u32 0, .int .u32 0] 40)).drew.heap[(wr.heap.size + 1)]? = some (.cells #[.int .u32 0, .int .u32 0, .int .u32 0, .int .u32 0, .int .u32 0] 40 (0, 0)) := heap_alloc2_new wr _ _
          refine wp_store_row 40 (.tmp 11) (.tmp 37) rfl (wr.heap.size + 1) (cs S) rfl rfl 40 #[.int .u32 0, .int .u32 0, .int .u32 0, .int .u32 0, .int .u32 0] hz1 (info28c _) (zero_size _) (cs_one _) ?_
          refine HK.out _ _ (by rw [setRow_other _ _ _ _ (by omega)]; exact hxx) ?_
          clear HK K
          go_simp
          refine trH_call rfl (by rfl) (fun K hK => ?_)
          have HK := Lib.hid hK
          clear hK
          have hz2 : (((wr.alloc (.cells #[.int .u32 0, .int .u32 0, .int .u32 0, .int .u32 0, .int .u32 0] 40)).alloc (.cells #[.int .u32 0, .int .u32 0, .int .u32 0, .int .u32 0, .int .u32 0] 40)).drew.setRow (wr.heap.size + 1) (cs S)).heap[wr.heap.size]? = some (.cells #[.int .u32 0, .int .u32 0, .int .u32 0, .int .u32 0, .int .u32 0] 40 (0, 0)) := two_rows' wr _ _ rfl
          refine wp_store_row 40 (.tmp 12) (.tmp 38) rfl wr.heap.size (cs S) rfl rfl 40 #[.int .u32 0, .int .u32 0, .int .u32 0, .int .u32 0, .int .u32 0] hz2 (info28c _) (zero_size _) (cs_one _) ?_
          refine HK.out _ _ (by rw [setRow_other _ _ _ _ (by omega), setRow_other _ _ _ _ (by omega)]; exact hxx) ?_
          clear HK K
          go_simp
          refine trH_done ?_
          have hq2 := setRow_heap _ _ _ (cs S) _ _ hz2
          have hp2 : ((((wr.alloc (.cells #[.int .u32 0, .int .u32 0, .int .u32 0, .int .u32 0, .int .u32 0] 40)).alloc (.cells #[.int .u32 0, .int .u32 0, .int .u32 0, .int .u32 0, .int .u32 0] 40)).drew.setRow (wr.heap.size + 1) (cs S)).setRow wr.heap.size (cs S)).heap[(wr.heap.size + 1)]? = some (.cells (cs S) 40 (0, 0)) := by rw [setRow_other _ _ _ _ (by omega)]; exact setRow_heap _ _ _ (cs S) _ _ hz1
          have hT2 : Tq w ((((wr.alloc (.cells #[.int .u32 0, .int .u32 0, .int .u32 0, .int .u32 0, .int .u32 0] 40)).alloc (.cells #[.int .u32 0, .int .u32 0, .int .u32 0, .int .u32 0, .int .u32 0] 40)).drew.setRow (wr.heap.size + 1) (cs S)).setRow wr.heap.size (cs S)) N x V M W := ((((HTA.out.alloc _).alloc _).drew.row _ (by omega) _).row _ (by omega) _)
          clear hz1 hz2 hxx
          generalize (((wr.alloc (.cells #[.int .u32 0, .int .u32 0, .int .u32 0, .int .u32 0, .int .u32 0] 40)).alloc (.cells #[.int .u32 0, .int .u32 0, .int .u32 0, .int .u32 0, .int .u32 0] 40)).drew.setRow (wr.heap.size + 1) (cs S)).setRow wr.heap.size (cs S) = u2 at *
          obtain ⟨p, hp⟩ : ∃ p, p = (wr.heap.size + 1) := ⟨_, rfl⟩
          obtain ⟨q, hq⟩ : ∃ q, q = wr.heap.size := ⟨_, rfl⟩
          have hBp : N + 1 < p := by omega
          have hBq : N + 1 < q := by omega
          have hpq : p ≠ q := by omega
          rw [← hp] at hp2
          rw [← hq] at hq2
          rw [← hp, ← hq]
          clear hp hq HTA hgx
          clear HXS HPA
          have HX0 := Lib.hid (show u2.heap[p]? = some (.cells (cs (Dv.rear (Dv.sib W M) S 58 0)) 40 (0, 0)) from hp2)
          have HQ2 := Lib.hid hq2
          have HT2 := Lib.hid hT2
          have HW := Lib.hid hT2.wd
          have HM := Lib.hid hT2.m
          have HWL := Lib.hid (show N + 1 < u2.heap.size ∧ N + 1 ≠ p from ⟨hT2.hi, by omega⟩)
          have HML := Lib.hid (show N < u2.heap.size ∧ N ≠ p from ⟨by have := hT2.hi; omega, by omega⟩)
          have hq3 : q < u2.heap.size := (Array.getElem?_eq_some_iff.1 hq2).1
          have hp3 : p < u2.heap.size := (Array.getElem?_eq_some_iff.1 hp2).1
          clear hp2 hq2 hT2
          go_wp2
          go_loopg [13] 58 (fun gk i wr => ∃ n : Nat, n ≤ 58 ∧ gk = 58 - n ∧ i = .int .i64 ((58 : Int) - 1 - n) ∧ u2.grownBy wr (some p) ∧ wr.heap[p]? = some (.cells (cs (Dv.rear (Dv.sib W M) S 58 n)) 40 (0, 0)))
          case atStart => exact ⟨0, Nat.zero_le _, rfl, rfl, grown_refl _ _, HX0.out⟩
          case round =>
            obtain ⟨n, hn, rfl, rfl, hgr, hxr⟩ := hrel
            clear HX0
            by_cases hlt : n < 58
            · as_aux_lemma =>
              have hnx : Dv.rear (Dv.sib W M) S 58 (n + 1) = Sh.back (Dv.rear (Dv.sib W M) S 58 n) (58 - 1 - n) ((Dv.sib W M).getD (58 - 1 - n) 0) := rfl
              have hk : (58 : Int) - 1 - n = ((58 - 1 - n : Nat) : Int) := by omega
              rw [hk]
              clear hk
              have HQ := Lib.hid (show ((58 - 1 - n : Nat) : Int) - 1 = (58 : Int) - 1 - ((n + 1 : Nat) : Int) by omega)
              have ht : 58 - 1 - n < 80 := by omega
              rw [sib_get _ ht] at hnx
              generalize 58 - 1 - n = t at *
              have h1 : ((t : Nat) : Int) < 80 := by omega
              have h0 : (0 : Int) ≤ ((t : Nat) : Int) := by omega
              have hw0 : wr.heap[(N + 1)]? = some (.cells (ws W) 32 (0, 0)) := (hgr.block _ HWL.out.1 (fun e => by injection e with e; have := HWL.out.2; omega)).trans HW.out
              have hm0 : wr.heap[N]? = some (.cells (ws M) 32 (0, 0)) := (hgr.block _ HML.out.1 (fun e => by injection e with e; have := HML.out.2; omega)).trans HM.out
              generalize Dv.rear (Dv.sib W M) S 58 n = X at *
              have HRW := Lib.hid (fun (W' : World) (h : W'.heap[(N + 1)]? = some (.cells (ws W) 32 (0, 0))) => row_of32 h t ht)
              have HRM := Lib.hid (fun (W' : World) (h : W'.heap[N]? = some (.cells (ws M) 32 (0, 0))) => row_of32 h t ht)
              generalize W.getD t 0 = v at *
              generalize M.getD t 0 = z at *
              have HNX := Lib.hid hnx
              have HGR := Lib.hid hgr
              have hw1 : (N + 1) < wr.heap.size := (Array.getElem?_eq_some_iff.1 hw0).1
              have hm1 : N < wr.heap.size := (Array.getElem?_eq_some_iff.1 hm0).1
              have hx1 : p < wr.heap.size := (Array.getElem?_eq_some_iff.1 hxr).1
              have HXR := Lib.hid hxr
              have HW0 := Lib.hid hw0
              have HM0 := Lib.hid hm0
              clear hnx hgr hxr hw0 hm0 ht
              go_wp2_with fail
              refine wp_region_seq (fun W' => W'.heap[(N + 1)]? = some (.cells (ws W) 32 (0, 0)) ∧ W'.heap[N]? = some (.cells (ws M) 32 (0, 0))) [(1, false, 0), (2, false, 2), (3, false, 6), (4, false, 14), (5, false, 30), (6, false, 62), (7, false, 126), (8, false, 254), (0, true, 510), (9, true, 511), (10, true, 1023)]
                11 (by kernel_rfl) (by kernel_rfl) (by kernel_rfl) (fun d _ _ _ _ h => by cases d <;> exact h) (by kernel_rfl) (by kernel_rfl) ⟨HW0.out, HM0.out⟩ ?_
              refine seqH_take (.int .i64 t) rfl (Or.inl ⟨by rfl, fun W _ => by go_simp⟩) ?_
              go_simp
              refine seqH_take (.int .i64 t) rfl (Or.inl ⟨by rfl, fun W _ => by go_simp⟩) ?_
              go_simp
              refine seqH_take (.pointer (some ⟨(N + 1), t, none⟩)) rfl (Or.inl ⟨by rfl, fun W _ => by go_simp⟩) ?_
              go_simp
              refine seqH_take (.int .u32 (tn v)) rfl (Or.inl ⟨by rfl, fun W hW => by have hc := HRW.out W hW.1; go_simp⟩) ?_
              go_simp
              refine seqH_take (.int .i64 t) rfl (Or.inl ⟨by rfl, fun W _ => by go_simp⟩) ?_
              go_simp
              refine seqH_take (.pointer (some ⟨N, t, none⟩)) rfl (Or.inl ⟨by rfl, fun W _ => by go_simp⟩) ?_
              go_simp
              refine seqH_take (.int .u32 (tn z)) rfl (Or.inl ⟨by rfl, fun W hW => by have hc := HRM.out W hW.2; go_simp⟩) ?_
              go_simp
              refine seqH_take (.int .u32 (tn (v ^^^ z))) rfl (Or.inl ⟨by rfl, fun W _ => by go_simp⟩) ?_
              go_simp
              refine seqH_call rfl (by rfl) (fun K hK => ?_)
              have HK := Lib.hid hK
              clear hK
              refine wp_load_row 40 (.tmp 11) rfl p rfl 40 (cs X) (0, 0) _ HXR.out Try.underlying40 rfl (info28c _) ?_
              refine HK.out _ _ ⟨HW0.out, HM0.out⟩ ?_
              clear HK K
              go_simp
              refine seqH_call rfl (by rfl) (fun K hK => ?_)
              have HK := Lib.hid hK
              clear hK
              go_simp
              refine (backN X t (v ^^^ z) _).mono ?_
              rintro e w2 ⟨rfl, hb2⟩
              have hw2 : w2.heap[(N + 1)]? = some (.cells (ws W) 32 (0, 0)) := (hb2.block _ hw1).trans HW0.out
              have hm2 : w2.heap[N]? = some (.cells (ws M) 32 (0, 0)) := (hb2.block _ hm1).trans HM0.out
              have hx2 : w2.heap[p]? = some (.cells (cs X) 40 (0, 0)) := (hb2.block _ hx1).trans HXR.out
              have HG2 := Lib.hid (grown_drew HGR.out hb2)
              clear hb2
              refine HK.out _ _ ⟨hw2, hm2⟩ ?_
              clear HK K
              rw [← HNX.out]
              generalize hY : Dv.rear (Dv.sib W M) S 58 (n + 1) = Y at *
              have HY := Lib.hid hY
              clear hY
              go_simp
              refine seqH_call rfl (by rfl) (fun K hK => ?_)
              have HK := Lib.hid hK
              clear hK
              refine wp_store_row 40 (.tmp 11) (.tmp 52) rfl p (cs Y) rfl rfl 40 (cs X) hx2 (info28c _) (cs_sizes _ _) (cs_one _) ?_
              refine HK.out _ _ ⟨by rw [setRow_other _ _ _ _ (by have := HWL.out.2; omega)]; exact hw2, by rw [setRow_other _ _ _ _ (by have := HML.out.2; omega)]; exact hm2⟩ ?_
              clear HK K
              go_simp
              refine seqH_done ?_
              have HX2 := Lib.hid hx2
              clear hw2 hm2 hx2
              go_wp2
              go_roundg (58 - (n + 1))
              case rel => exact ⟨n + 1, by omega, rfl, by rw [← HQ.out], grown_setRow HG2.out _, by rw [HY.out]; exact setRow_heap _ _ _ _ _ _ HX2.out⟩
              case measure => omega
            · obtain rfl : n = 58 := by omega
              generalize Dv.rear (Dv.sib W M) S 58 58 = FI at *
              have hT3 := HT2.out.grown hgr hBp
              have hqw : wr.heap[q]? = some (.cells (cs S) 40 (0, 0)) := (hgr.block q hq3 (fun e => by injection e with e; omega)).trans HQ2.out
              have hend : ¬ (0 : Int) ≤ (58 : Int) - 1 - ((58 : Nat) : Int) := by omega
              have HP3 := Lib.hid hxr
              have hq4 : q < wr.heap.size := (Array.getElem?_eq_some_iff.1 hqw).1
              have hp4 : p < wr.heap.size := (Array.getElem?_eq_some_iff.1 hxr).1
              clear HT2 HQ2 HW HM HWL HML hq3 hp3 hgr hxr
              have HX0 := Lib.hid (show wr.heap[q]? = some (.cells (cs (Dv.fore (Dv.sib W M) S 58 0)) 40 (0, 0)) from hqw)
              have HT2 := Lib.hid hT3
              have HW := Lib.hid hT3.wd
              have HM := Lib.hid hT3.m
              have HWL := Lib.hid (show N + 1 < wr.heap.size ∧ N + 1 ≠ q from ⟨hT3.hi, by omega⟩)
              have HML := Lib.hid (show N < wr.heap.size ∧ N ≠ q from ⟨by have := hT3.hi; omega, by omega⟩)
              clear hT3 hqw
              generalize wr = u3 at *
              go_wp2
              clear hend
              go_loopg [14] 22 (fun gk i wr => ∃ n : Nat, n ≤ 22 ∧ gk = 22 - n ∧ i = .int .i64 (((58 + n : Nat) : Int)) ∧ u3.grownBy wr (some q) ∧ wr.heap[q]? = some (.cells (cs (Dv.fore (Dv.sib W M) S 58 n)) 40 (0, 0)))
              case atStart => exact ⟨0, Nat.zero_le _, rfl, rfl, grown_refl _ _, HX0.out⟩
              case round =>
                obtain ⟨n, hn, rfl, rfl, hgr, hxr⟩ := hrel
                clear HX0
                by_cases hlt : n < 22
                · as_aux_lemma =>
                  have hnx : Dv.fore (Dv.sib W M) S 58 (n + 1) = Sh.step (Dv.fore (Dv.sib W M) S 58 n) (58 + n) ((Dv.sib W M).getD (58 + n) 0) := rfl
                  have HQ := Lib.hid (show ((58 + n : Nat) : Int) + 1 = ((58 + (n + 1) : Nat) : Int) by omega)
                  have ht : 58 + n < 80 := by omega
                  rw [sib_get _ ht] at hnx
                  generalize 58 + n = t at *
                  have h1 : ((t : Nat) : Int) < 80 := by omega
                  have h0 : (0 : Int) ≤ ((t : Nat) : Int) := by omega
                  have hw0 : wr.heap[(N + 1)]? = some (.cells (ws W) 32 (0, 0)) := (hgr.block _ HWL.out.1 (fun e => by injection e with e; have := HWL.out.2; omega)).trans HW.out
                  have hm0 : wr.heap[N]? = some (.cells (ws M) 32 (0, 0)) := (hgr.block _ HML.out.1 (fun e => by injection e with e; have := HML.out.2; omega)).trans HM.out
                  generalize Dv.fore (Dv.sib W M) S 58 n = X at *
                  have HRW := Lib.hid (fun (W' : World) (h : W'.heap[(N + 1)]? = some (.cells (ws W) 32 (0, 0))) => row_of32 h t ht)
                  have HRM := Lib.hid (fun (W' : World) (h : W'.heap[N]? = some (.cells (ws M) 32 (0, 0))) => row_of32 h t ht)
                  generalize W.getD t 0 = v at *
                  generalize M.getD t 0 = z at *
                  have HNX := Lib.hid hnx
                  have HGR := Lib.hid hgr
                  have hw1 : (N + 1) < wr.heap.size := (Array.getElem?_eq_some_iff.1 hw0).1
                  have hm1 : N < wr.heap.size := (Array.getElem?_eq_some_iff.1 hm0).1
                  have hx1 : q < wr.heap.size := (Array.getElem?_eq_some_iff.1 hxr).1
                  have HXR := Lib.hid hxr
                  have HW0 := Lib.hid hw0
                  have HM0 := Lib.hid hm0
                  clear hnx hgr hxr hw0 hm0 ht
                  go_wp2_with fail
                  refine wp_region_seq (fun W' => W'.heap[(N + 1)]? = some (.cells (ws W) 32 (0, 0)) ∧ W'.heap[N]? = some (.cells (ws M) 32 (0, 0))) [(1, false, 0), (2, false, 2), (3, false, 6), (4, false, 14), (5, false, 30), (6, false, 62), (7, false, 126), (8, false, 254), (0, true, 510), (9, true, 511), (10, true, 1023)]
                    11 (by kernel_rfl) (by kernel_rfl) (by kernel_rfl) (fun d _ _ _ _ h => by cases d <;> exact h) (by kernel_rfl) (by kernel_rfl) ⟨HW0.out, HM0.out⟩ ?_
                  refine seqH_take (.int .i64 t) rfl (Or.inl ⟨by rfl, fun W _ => by go_simp⟩) ?_
                  go_simp
                  refine seqH_take (.int .i64 t) rfl (Or.inl ⟨by rfl, fun W _ => by go_simp⟩) ?_
                  go_simp
                  refine seqH_take (.pointer (some ⟨(N + 1), t, none⟩)) rfl (Or.inl ⟨by rfl, fun W _ => by go_simp⟩) ?_
                  go_simp
                  refine seqH_take (.int .u32 (tn v)) rfl (Or.inl ⟨by rfl, fun W hW => by have hc := HRW.out W hW.1; go_simp⟩) ?_
                  go_simp
                  refine seqH_take (.int .i64 t) rfl (Or.inl ⟨by rfl, fun W _ => by go_simp⟩) ?_
                  go_simp
                  refine seqH_take (.pointer (some ⟨N, t, none⟩)) rfl (Or.inl ⟨by rfl, fun W _ => by go_simp⟩) ?_
                  go_simp
                  refine seqH_take (.int .u32 (tn z)) rfl (Or.inl ⟨by rfl, fun W hW => by have hc := HRM.out W hW.2; go_simp⟩) ?_
                  go_simp
                  refine seqH_take (.int .u32 (tn (v ^^^ z))) rfl (Or.inl ⟨by rfl, fun W _ => by go_simp⟩) ?_
                  go_simp
                  refine seqH_call rfl (by rfl) (fun K hK => ?_)
                  have HK := Lib.hid hK
                  clear hK
                  refine wp_load_row 40 (.tmp 12) rfl q rfl 40 (cs X) (0, 0) _ HXR.out Try.underlying40 rfl (info28c _) ?_
                  refine HK.out _ _ ⟨HW0.out, HM0.out⟩ ?_
                  clear HK K
                  go_simp
                  refine seqH_call rfl (by rfl) (fun K hK => ?_)
                  have HK := Lib.hid hK
                  clear hK
                  go_simp
                  refine (stepN X t (v ^^^ z) _).mono ?_
                  rintro e w2 ⟨rfl, hb2⟩
                  have hw2 : w2.heap[(N + 1)]? = some (.cells (ws W) 32 (0, 0)) := (hb2.block _ hw1).trans HW0.out
                  have hm2 : w2.heap[N]? = some (.cells (ws M) 32 (0, 0)) := (hb2.block _ hm1).trans HM0.out
                  have hx2 : w2.heap[q]? = some (.cells (cs X) 40 (0, 0)) := (hb2.block _ hx1).trans HXR.out
                  have HG2 := Lib.hid (grown_drew HGR.out hb2)
                  clear hb2
                  refine HK.out _ _ ⟨hw2, hm2⟩ ?_
                  clear HK K
                  rw [← HNX.out]
                  generalize hY : Dv.fore (Dv.sib W M) S 58 (n + 1) = Y at *
                  have HY := Lib.hid hY
                  clear hY
                  go_simp
                  refine seqH_call rfl (by rfl) (fun K hK => ?_)
                  have HK := Lib.hid hK
                  clear hK
                  refine wp_store_row 40 (.tmp 12) (.tmp 66) rfl q (cs Y) rfl rfl 40 (cs X) hx2 (info28c _) (cs_sizes _ _) (cs_one _) ?_
                  refine HK.out _ _ ⟨by rw [setRow_other _ _ _ _ (by have := HWL.out.2; omega)]; exact hw2, by rw [setRow_other _ _ _ _ (by have := HML.out.2; omega)]; exact hm2⟩ ?_
                  clear HK K
                  go_simp
                  refine seqH_done ?_
                  have HX2 := Lib.hid hx2
                  clear hw2 hm2 hx2
                  go_wp2
                  go_roundg (22 - (n + 1))
                  case rel => exact ⟨n + 1, by omega, rfl, by rw [← HQ.out], grown_setRow HG2.out _, by rw [HY.out]; exact setRow_heap _ _ _ _ _ _ HX2.out⟩
                  case measure => omega
                · obtain rfl : n = 22 := by omega
                  generalize Dv.fore (Dv.sib W M) S 58 22 = LA at *
                  have hT4 := HT2.out.grown hgr hBq
                  have hpw : wr.heap[p]? = some (.cells (cs FI) 40 (0, 0)) := (hgr.block p hp4 (fun e => by injection e with e; omega)).trans HP3.out
                  have HC := Lib.hid hT4.ch
                  have hq5 : q < wr.heap.size := (Array.getElem?_eq_some_iff.1 hxr).1
                  have hp5 : p < wr.heap.size := (Array.getElem?_eq_some_iff.1 hpw).1
                  have HT4 := Lib.hid hT4
                  have HPW := Lib.hid hpw
                  have HQW := Lib.hid hxr
                  clear HT2 HP3 HW HM HWL HML hp4 hq4 hgr hxr hpw hT4
                  go_wp2_with (with_reducible refine wpList_load_row rfl 36 (.tmp 3) rfl w.heap.size rfl 36 (cs x) (0, 0) _ HC.out Try.underlying36 rfl (info36 _) ?_)
                  refine (HPR.out _).mono ?_
                  rintro e5 w5 ⟨rfl, hb5⟩
                  have HN := Lib.hid (heap_alloc_new w5 (.cells #[.int .u32 0, .int .u32 0, .int .u32 0, .int .u32 0, .int .u32 0] 40))
                  have hbe : Below w5.heap.size w5 ((w5.alloc (.cells #[.int .u32 0, .int .u32 0, .int .u32 0, .int .u32 0, .int .u32 0] 40)).setRow w5.heap.size (cs E)) := below_setRow ((Below.refl _ w5).alloc (Nat.le_refl _) _) (Nat.le_refl _) _
                  have hT6 := (HT4.out.more hb5).more hbe
                  have hp6 := (hbe.block _ (Nat.lt_of_lt_of_le hp5 hb5.size)).trans ((hb5.block _ hp5).trans HPW.out)
                  have hq6 := (hbe.block _ (Nat.lt_of_lt_of_le hq5 hb5.size)).trans ((hb5.block _ hq5).trans HQW.out)
                  have he6 := setRow_heap _ _ _ (cs E) _ _ HN.out
                  have hqe : q < w5.heap.size := Nat.lt_of_lt_of_le hq5 hb5.size
                  clear hb5 hbe HT4 HPW HQW HC HPR hp5 hq5
                  go_wp2_with (with_reducible refine wpList_store_row rfl 40 (.tmp 15) (.tmp 69) rfl w5.heap.size (cs E) rfl rfl 40 _ HN.out (info28c _) (zero_size _) (cs_one _) ?_)
                  clear HN
                  generalize (w5.alloc (.cells #[.int .u32 0, .int .u32 0, .int .u32 0, .int .u32 0, .int .u32 0] 40)).setRow w5.heap.size (cs E) = u6 at *
                  generalize w5.heap.size = eb at *
                  have HT6 := Lib.hid hT6
                  have HP6 := Lib.hid (row_cs40 hp6)
                  have HQ6 := Lib.hid (row_cs40 hq6)
                  have HE6 := Lib.hid he6
                  have hp7 : p < u6.heap.size := (Array.getElem?_eq_some_iff.1 hp6).1
                  have he7 : eb < u6.heap.size := (Array.getElem?_eq_some_iff.1 he6).1
                  clear hT6 hp6 hq6 he6
                  go_loopg [16] 5 (fun gk i wr => ∃ n : Nat, n ≤ 5 ∧ gk = 5 - n ∧ i = .int .i64 n ∧ u6.grownBy wr (some q) ∧ wr.rowIs q 40 5 (fun j => .int .u32 (tn (if j < n then fld LA j + fld FI j else fld LA j))))
                  case atStart => exact ⟨0, Nat.zero_le _, rfl, rfl, grown_refl _ _, HQ6.out.congr fun j _ => by rw [if_neg (by omega)]⟩
                  case round =>
                    obtain ⟨t, hn, rfl, rfl, hgr, hrw⟩ := hrel
                    clear HQ6
                    by_cases hlt : t < 5
                    · have h1 : ((t : Nat) : Int) < 5 := by omega
                      have h0 : (0 : Int) ≤ ((t : Nat) : Int) := by omega
                      have c1 := hrw.cell hlt
                      rw [if_neg (by omega)] at c1
                      have c2 : wr.cell? ⟨p, t, none⟩ = some (.int .u32 (tn (fld FI t))) := (HP6.out.of_block (hgr.block p hp7 (fun e => by injection e with e; omega))).cell hlt
                      have cf := hrw.frozen t
                      have hput : (wr.drew.setCell ⟨q, t, none⟩ (.int .u32 (tn (fld LA t + fld FI t)))).rowIs q 40 5 (fun j => .int .u32 (tn (if j < t + 1 then fld LA j + fld FI j else fld LA j))) := (hrw.drew.set t _).congr fun j _ => by
                        by_cases e : j = t
                        · subst e; rw [if_pos rfl, if_pos (by omega)]
                        · rw [if_neg e]
                          by_cases hlj : j < t
                          · rw [if_pos hlj, if_pos (by omega)]
                          · rw [if_neg hlj, if_neg (by omega)]
                      have hgd : u6.grownBy wr.drew (some q) := ⟨hgr.os, hgr.tape, hgr.output, hgr.size, hgr.block⟩
                      have HG := Lib.hid (fun v => grown_trans hgd (Lib.grownBy_setCell wr.drew q t v))
                      generalize fld LA t = y1 at *
                      generalize fld FI t = y2 at *
                      have HPT := Lib.hid hput
                      clear hput hgd hgr hrw
                      go_wp2_with fail
                      refine wp_region_still_tail 9 (by kernel_rfl) (by kernel_rfl) ?_
                      simp only [List.take_succ_cons, List.take_zero, List.drop_succ_cons, List.drop_zero]
                      change wpStill _ _ (World.drew _) (fun a' => wpList _ _ _ _ a' (World.drew _)) _ _
                      iterate 9 still_step
                      refine wpStill_nil ?_
                      go_wp2
                      go_roundg (5 - (t + 1))
                      case rel => exact ⟨t + 1, by omega, rfl, by go_num, HG.out _, HPT.out⟩
                      case measure => omega
                    · obtain rfl : t = 5 := by omega
                      have hT8 := HT6.out.grown hgr hBq
                      have hl8 : wr.heap[q]? = some (.cells (cs (Sh.add LA FI)) 40 (0, 0)) := cs_row40 (hrw.congr fun j hj => by rw [if_pos hj, fld_add])
                      have he8 : wr.heap[eb]? = some (.cells (cs E) 40 (0, 0)) := (hgr.block eb he7 (fun e => by injection e with e; omega)).trans HE6.out
                      have HEQ := Lib.hid (fun W' => eql_chain (Sh.add LA FI) E W')
                      generalize Sh.add LA FI = LL at *
                      generalize Dv.same LL E = sm at *
                      clear hgr hrw HT6 HE6 HP6 hp7 he7
                      have hs8 : wr.heap.size ≤ wr.heap.size := Nat.le_refl _
                      have HT8 := Lib.hid hT8
                      have HL8 := Lib.hid hl8
                      have HE8 := Lib.hid he8
                      clear hT8 hl8 he8 hs8
                      go_wp2_with fail
                      cases ok
                      case false => as_aux_lemma =>
                        replace HNE : RowKit.Hid (∀ W, (binOp .neq 32 (.agg (ws M)) (.agg (ws []))).run Try.prog W = .ok (.bool false) W) := HNE
                        refine wp_region_seq (fun W' => Tq w W' N x V M W ∧ W'.heap[q]? = some (.cells (cs LL) 40 (0, 0)) ∧ W'.heap[eb]? = some (.cells (cs E) 40 (0, 0))) [(0, false, 0), (1, false, 1), (2, false, 3), (4, false, 7), (5, false, 23), (6, false, 55), (3, true, 119), (7, false, 127), (8, false, 255), (9, false, 511), (10, false, 1023), (11, false, 2047), (12, false, 4095), (13, false, 8191)]
                          14 (by kernel_rfl) (by kernel_rfl) (by kernel_rfl) (fun d _ _ _ _ h => by cases d <;> exact h) (by kernel_rfl) (by kernel_rfl) ⟨HT8.out.drew, HL8.out, HE8.out⟩ ?_
                        refine seqH_take (.agg (cs x)) rfl (yields_load 36 (.tmp 3) rfl (by rfl) w.heap.size rfl 36 (cs x) (0, 0) _ (fun W' hW => hW.1.ch) Try.underlying36 rfl (info36 _)) ?_
                        go_simp
                        refine seqH_take (.string s) rfl (Or.inl ⟨by rfl, fun W _ => by go_simp⟩) ?_
                        go_simp
                        refine seqH_take (.agg V) rfl (yields_load 23 (.tmp 5) rfl (by rfl) (w.heap.size + 1) rfl 23 V (0, 0) _ (fun W' hW => hW.1.ve) Try.underlying23 rfl HVI.out) ?_
                        go_simp
                        refine seqH_take (.agg (ws M)) rfl (yields_load 32 (.tmp 7) rfl (by rfl) N rfl 32 (ws M) (0, 0) _ (fun W' hW => hW.1.m) Try.underlying32 rfl (info30' _)) ?_
                        go_simp
                        refine seqH_take (.agg (ws [])) rfl (yields_build0 32 rfl (by rfl) (ws []) built32) ?_
                        go_simp
                        refine seqH_take (.bool false) rfl (yields_eq_op .neq (Or.inr rfl) 32 32 (.tmp 87) (.tmp 88) rfl (by rfl) (ws M) (ws []) rfl rfl guard32 false HNE.out) ?_
                        go_simp
                        refine seqH_call rfl (by rfl) (fun K hK => ?_)
                        have HK := Lib.hid hK
                        clear hK
                        go_simp
                        refine (HMK.out _).mono ?_
                        rintro e9 w9 ⟨rfl, hb9⟩
                        have hT9 := HT8.out.drew.more hb9
                        have hl9 : w9.heap[q]? = some (.cells (cs LL) 40 (0, 0)) := (hb9.block _ (Array.getElem?_eq_some_iff.1 HL8.out).1).trans HL8.out
                        have he9 : w9.heap[eb]? = some (.cells (cs E) 40 (0, 0)) := (hb9.block _ (Array.getElem?_eq_some_iff.1 HE8.out).1).trans HE8.out
                        clear hb9
                        refine HK.out _ _ ⟨hT9, hl9, he9⟩ ?_
                        have HB9 := Lib.hid hT9.below
                        clear HK K HT8 HL8 HE8 hT9 hl9 he9
                        rw [Bool.false_and]
                        go_simp
                        refine seqH_take (.bool false) rfl (Or.inl ⟨by rfl, fun W _ => by go_simp⟩) ?_
                        go_simp
                        refine seqH_take undef rfl (Or.inr ⟨by rfl, rfl⟩) ?_
                        go_simp
                        refine seqH_take undef rfl (Or.inr ⟨by rfl, rfl⟩) ?_
                        go_simp
                        refine seqH_take undef rfl (Or.inr ⟨by rfl, rfl⟩) ?_
                        go_simp
                        refine seqH_take (.bool false) rfl (Or.inl ⟨by rfl, fun W _ => by go_simp⟩) ?_
                        go_simp
                        refine seqH_take (.bool true) rfl (Or.inl ⟨by rfl, fun W _ => by go_simp⟩) ?_
                        go_simp
                        refine seqH_take (.bool true) rfl (Or.inl ⟨by rfl, fun W _ => by go_simp⟩) ?_
                        go_simp
                        refine seqH_done ?_
                        go_wp2
                        go_ret
                        exact ⟨rfl, HB9.out⟩
                      case true => as_aux_lemma =>
                        replace HNE : RowKit.Hid (∀ W, (binOp .neq 32 (.agg (ws M)) (.agg (ws []))).run Try.prog W = .ok (.bool true) W) := HNE
                        refine wp_region_seq (fun W' => Tq w W' N x V M W ∧ W'.heap[q]? = some (.cells (cs LL) 40 (0, 0)) ∧ W'.heap[eb]? = some (.cells (cs E) 40 (0, 0))) [(0, false, 0), (1, false, 1), (2, false, 3), (4, false, 7), (5, false, 23), (6, false, 55), (3, true, 119), (7, false, 127), (8, false, 255), (9, false, 511), (10, false, 1023), (11, false, 2047), (12, false, 4095), (13, false, 8191)]
                          14 (by kernel_rfl) (by kernel_rfl) (by kernel_rfl) (fun d _ _ _ _ h => by cases d <;> exact h) (by kernel_rfl) (by kernel_rfl) ⟨HT8.out.drew, HL8.out, HE8.out⟩ ?_
                        refine seqH_take (.agg (cs x)) rfl (yields_load 36 (.tmp 3) rfl (by rfl) w.heap.size rfl 36 (cs x) (0, 0) _ (fun W' hW => hW.1.ch) Try.underlying36 rfl (info36 _)) ?_
                        go_simp
                        refine seqH_take (.string s) rfl (Or.inl ⟨by rfl, fun W _ => by go_simp⟩) ?_
                        go_simp
                        refine seqH_take (.agg V) rfl (yields_load 23 (.tmp 5) rfl (by rfl) (w.heap.size + 1) rfl 23 V (0, 0) _ (fun W' hW => hW.1.ve) Try.underlying23 rfl HVI.out) ?_
                        go_simp
                        refine seqH_take (.agg (ws M)) rfl (yields_load 32 (.tmp 7) rfl (by rfl) N rfl 32 (ws M) (0, 0) _ (fun W' hW => hW.1.m) Try.underlying32 rfl (info30' _)) ?_
                        go_simp
                        refine seqH_take (.agg (ws [])) rfl (yields_build0 32 rfl (by rfl) (ws []) built32) ?_
                        go_simp
                        refine seqH_take (.bool true) rfl (yields_eq_op .neq (Or.inr rfl) 32 32 (.tmp 87) (.tmp 88) rfl (by rfl) (ws M) (ws []) rfl rfl guard32 true HNE.out) ?_
                        go_simp
                        refine seqH_call rfl (by rfl) (fun K hK => ?_)
                        have HK := Lib.hid hK
                        clear hK
                        go_simp
                        refine (HMK.out _).mono ?_
                        rintro e9 w9 ⟨rfl, hb9⟩
                        have hT9 := HT8.out.drew.more hb9
                        have hl9 : w9.heap[q]? = some (.cells (cs LL) 40 (0, 0)) := (hb9.block _ (Array.getElem?_eq_some_iff.1 HL8.out).1).trans HL8.out
                        have he9 : w9.heap[eb]? = some (.cells (cs E) 40 (0, 0)) := (hb9.block _ (Array.getElem?_eq_some_iff.1 HE8.out).1).trans HE8.out
                        clear hb9
                        refine HK.out _ _ ⟨hT9, hl9, he9⟩ ?_
                        have HB9 := Lib.hid hT9.below
                        clear HK K HT8 HL8 HE8 hT9 hl9 he9
                        rw [Bool.true_and]
                        go_simp
                        refine seqH_take (.bool true) rfl (Or.inl ⟨by rfl, fun W _ => by go_simp⟩) ?_
                        go_simp
                        refine seqH_take (.agg (cs LL)) rfl (yields_load 40 (.tmp 12) rfl (by rfl) q rfl 40 (cs LL) (0, 0) _ (fun W' hW => hW.2.1) Try.underlying40 rfl (info28c _)) ?_
                        go_simp
                        refine seqH_take (.agg (cs E)) rfl (yields_load 40 (.tmp 15) rfl (by rfl) eb rfl 40 (cs E) (0, 0) _ (fun W' hW => hW.2.2) Try.underlying40 rfl (info28c _)) ?_
                        go_simp
                        refine seqH_take (.bool sm) rfl (yields_eq_op .eql (Or.inl rfl) 40 40 (.tmp 91) (.tmp 92) rfl (by rfl) (cs LL) (cs E) rfl rfl guard28 sm HEQ.out) ?_
                        go_simp
                        refine seqH_take (.bool sm) rfl (Or.inl ⟨by rfl, fun W _ => by go_simp⟩) ?_
                        go_simp
                        refine seqH_take (.bool true) rfl (Or.inl ⟨by rfl, fun W _ => by go_simp⟩) ?_
                        go_simp
                        refine seqH_take (.bool true) rfl (Or.inl ⟨by rfl, fun W _ => by go_simp⟩) ?_
                        go_simp
                        refine seqH_done ?_
                        go_wp2
                        go_ret
                        exact ⟨rfl, HB9.out⟩
  · have h200 : (200 : Int) < s.size := by omega
    go_enter Try.func5, Try.ntmps5
    go_wp2_with fail
    refine (Hd.awake_any _).mono ?_
    rintro e1 w1 ⟨rfl, hb1⟩
    have HB1 := Lib.hid (HBW.out.trans (hb1.mono (by simp; omega)))
    clear hb1
    go_wp2
    go_ret
    exact ⟨rfl, HB1.out⟩

theorem own : ownKnob Try.prog.godebug = none := by kernel_rfl

set_option maxRecDepth 100000 in
theorem lifted (os : Os) (started : os.Started) (H : Type) (enc : TypeId × Value → H) :
    ReturnsInHanded {} Try.checked os 5 .any (Rows.detectTwinsSpec.pre6 enc Try.prog Try.f5 Rows.detectTwinsRow.domain false) (Rows.detectTwinsSpec.post enc Try.prog Try.f5 false true false false) := by
  refine returnsInHanded_of_change (C := Try.checked) own started (by kernel_rfl) Try.func5
    (ChangeSpec.witness6 (enc := enc) (C := Try.checked) false ⟨#[], #[.agg #[.int .u32 0, .int .u32 0, .int .u32 0, .int .u32 0, .int .u32 0], .string ByteArray.empty, .agg #[.int .i64 0, .int .i64 0, .int .i64 0]], []⟩ 8 (by kernel_rfl) (by kernel_rfl) (by kernel_rfl) (by kernel_rfl)) ?_
  intro W base args ds gs before hval0 hW hcnd _
  have hval : ∀ (j : Nat) t v, Try.f5.params[j]? = some t → args[j]? = some v → Value.okWide Try.prog W .any base t v := hval0
  have hW' := hW
  obtain ⟨p, q, hA0, hV, rfl, hfz, hnd⟩ := hW
  have hA : DataW.TrodAll enc Try.prog W 0 (fun _ => true) true Try.f5.params.toList args.toList ds p := hA0
  rw [Try.params5] at hA hval
  obtain ⟨v0, vs0, d0, ds0, p0, q0, hargs, rfl, rfl, h0, r0⟩ := trodAll_cons hA
  obtain ⟨v1, vs1, d1, ds1, p1, q1, rfl, rfl, rfl, h1, r1⟩ := trodAll_cons r0
  obtain ⟨v2, vs2, d2, ds2, p2, q2, rfl, rfl, rfl, h2, r2⟩ := trodAll_cons r1
  obtain ⟨rfl, rfl, rfl⟩ := trodAll_nil r2
  obtain rfl : args = #[v0, v1, v2] := by cases args; simp_all
  obtain ⟨rfl, rfl⟩ := trodVars_none hV
  obtain ⟨x0, rfl⟩ := Hp.open_chain (hval 0 36 v0 rfl rfl) h0
  obtain ⟨a1, rfl, rfl, rfl, w1⟩ := open_string Try.underlying9 (hval 1 9 v1 rfl rfl) h1
  obtain ⟨a2, b2, c2, rfl⟩ := Hd.open_vec (hval 2 23 v2 rfl rfl) h2
  clear hA0 hval0
  refine (walk x0 a1 a2 b2 c2 w1 W).mono fun e W' ⟨he, hg⟩ => ?_
  subst he
  exact ⟨_, rfl, law_post Try.laid (by kernel_rfl) (by kernel_rfl) Try.underlying4 rfl rfl hW' hg⟩

theorem over : Rows.detectTwinsRow.holds Try.pinned (OpenSpec.ofChange Rows.detectTwinsSpec) :=
  OpenClaim.holds_of_wide 5 Try.f5 rfl rfl rfl rfl rfl rfl rfl ⟨rfl, rfl, rfl, rfl, rfl⟩ rfl rfl rfl rfl rfl (by kernel_rfl) Try.func5 (by kernel_rfl)
    (of_decide_eq_true (by kernel_rfl)) (by unfold Func.isWrapper; first | (rw [if_pos (by decide +kernel)]; kernel_rfl) | (rw [if_neg (by decide +kernel)]; exact ⟨rfl, rfl⟩))
    (fun os started H enc _ => lifted os started H enc)
end Go.Proofs.Ytpffolohkmokhaa.detectTwins

namespace Go.Proofs.Ytpffolohkmokhaa
theorem detectTwins_holds : Rows.DetectTwinsSaid := detectTwins.over
end Go.Proofs.Ytpffolohkmokhaa
