/-
  The contract of the document's Marked (layer 5).
  The contract of the document's Scan (layer 5).
-/
import Derived.Test.YtmbbigmnliiadaaGreatDoorDe
import Derived.Test.YtmbbigmnliiadaaGreatDoorD2
import Derived.Test.YtmbbigmnliiadaaGreatDoorD3
import Derived.Test.YtmbbigmnliiadaaGreatDoorDw
namespace Go.Proofs.YtmbbigmnliiadaaGreatDoor.Hd
open Go.RowKit Hs Hp
set_option linter.unusedVariables false
attribute [local go_sem] t_and t_or t_xor t_not t_add t_sub t_add_wrap t_sub_wrap

theorem grown_refl (w : World) (b : Nat) : w.grownBy w (some b) := ⟨rfl, rfl, rfl, Nat.le_refl _, fun _ _ _ => rfl⟩
theorem built31 : Tryz.prog.built 84 [] = some (ws []) := by kernel_rfl
theorem wpList_build0 {P : Program} {ops : Array Oper} {rest : List Oper} {o : Oper} {a : Act} {w : World} {Q : Exit → Act → World → Prop} (hg : o.guard = none) (t : TypeId) (ho : o.op = .build t #[]) (cells : Array Value) (hc : P.built t [] = some cells)
    (h : wpList P ops Q rest (a.put o.dst (.agg cells)) w) : wpList P ops Q (o :: rest) a w := by
  have hc' : P.built t ((#[] : Array (Nat × Operand)).map fun (i, x) => (i, a.eval x)).toList = some cells := by simpa using hc
  exact wpList_built hg t #[] ho cells hc' h
/-- what Marked holds: the chain, the difference, the words -/
structure Tm (w wr : World) (N G : Nat) (x : Sh.Ch) (M W : List UInt32) : Prop where
  below : Below w.heap.size w wr
  lo : w.heap.size < N
  mid : N < G
  hi : G < wr.heap.size
  ch : wr.heap[w.heap.size]? = some (.cells (cs x) 69 (0, 0))
  m : wr.heap[N]? = some (.cells (ws M) 84 (0, 0))
  wd : wr.heap[G]? = some (.cells (ws W) 84 (0, 0))
section
variable {w wr w1 : World} {N G : Nat} {x : Sh.Ch} {M W : List UInt32}
theorem Tm.grown (h : Tm w wr N G x M W) {b : Nat} (hg : wr.grownBy w1 (some b)) (hb : G < b) : Tm w w1 N G x M W := by
  have hl := h.lo
  have hm := h.mid
  have hh := h.hi
  have k : ∀ i, i ≤ G → w1.heap[i]? = wr.heap[i]? := fun i hi => hg.block i (by omega) (fun e => by injection e with e; omega)
  exact ⟨h.below.grown hg h.below.size (fun i hi => by injection hi with hi; omega), hl, hm, Nat.lt_of_lt_of_le hh hg.size, (k _ (by omega)).trans h.ch, (k _ (by omega)).trans h.m, (k _ (by omega)).trans h.wd⟩
theorem Tm.more (h : Tm w wr N G x M W) (hb : Below wr.heap.size wr w1) : Tm w w1 N G x M W := by
  have hl := h.lo
  have hm := h.mid
  have hh := h.hi
  have k : ∀ i, i ≤ G → w1.heap[i]? = wr.heap[i]? := fun i hi => hb.block i (by omega)
  exact ⟨h.below.trans (hb.mono h.below.size), hl, hm, Nat.lt_of_lt_of_le hh hb.size, (k _ (by omega)).trans h.ch, (k _ (by omega)).trans h.m, (k _ (by omega)).trans h.wd⟩
theorem Tm.lay (h : Tm w wr N G x M W) (z : Obj) (r : Array Value) : Tm w ((wr.alloc z).setRow wr.heap.size r) N G x M W := h.more (below_setRow ((Below.refl _ wr).alloc (Nat.le_refl _) _) (Nat.le_refl _) _)
end
theorem same_of (a b e : Sh.Ch) (h : ∀ j, j < 5 → fld a j + fld b j = fld e j) : Dv.same (Sh.add b a) e = true := by
  rw [← same_fld, List.all_eq_true]
  intro j hj
  have hj' : j < 5 := by simpa using hj
  rw [fld_add, UInt32.add_comm, h j hj']
  simp
theorem same_not (a b e : Sh.Ch) (j : Nat) (hj : j < 5) (h : ¬ fld a j + fld b j = fld e j) : Dv.same (Sh.add b a) e = false := by
  rw [← same_fld, List.all_eq_false]
  refine ⟨j, by simpa using hj, ?_⟩
  rw [fld_add, UInt32.add_comm]
  simpa using h

set_option maxHeartbeats 16000000 in
set_option maxRecDepth 100000 in
theorem rmarked_any (x : Sh.Ch) (s : ByteArray) (a b c : Int) (w : World) (hs : s.size ≤ 100000) :
    Calls Tryz.prog 45 #[.agg (cs x), .string s, .agg (vs a b c)] w fun e w' => e = .returned (.bool (decide (Dv.ok a b c) && Dv.marked x s.data.toList (Dv.diff a b c))) ∧ Below w.heap.size w w' := by
  have hz := zv29
  have hc0 := heap_alloc2_old w (.cells (cs x) 69) (.cells (vs a b c) 73)
  have hv0 := heap_alloc2_new w (.cells (cs x) 69) (.cells (vs a b c) 73)
  have hbw := ((Below.refl _ w).alloc (Nat.le_refl _) (.cells (cs x) 69)).alloc (by simp) (.cells (vs a b c) 73)
  have HC0 := Lib.hid hc0
  have HV0 := Lib.hid hv0
  have HBW := Lib.hid hbw
  clear hc0 hv0 hbw
  have HD := Lib.hid (fun W => rdiff_any a b c W)
  have HE := Lib.hid (fun W => rexpand_any s W hs)
  have HPR := Lib.hid (fun W => rpress_any x s W hs)
  have hmk : Dv.marked x s.data.toList (Dv.diff a b c) = Dv.same (Sh.add (Dv.fore (Dv.sib (Sh.words s.data.toList) (Dv.diff a b c)) (Dv.fore (Sh.words s.data.toList) x 0 58) 58 22) (Dv.rear (Dv.sib (Sh.words s.data.toList) (Dv.diff a b c)) (Dv.fore (Sh.words s.data.toList) x 0 58) 58 58)) (Sh.press x s.data.toList) := rfl
  have hne := eql_words31 (Dv.diff a b c) []
  rw [diff_nought] at hne
  rw [hmk]
  clear hmk hs
  generalize Dv.diff a b c = M at *
  generalize Sh.press x s.data.toList = E at *
  generalize Sh.words s.data.toList = W at *
  generalize decide (Dv.ok a b c) = ok at *
  have HNE := Lib.hid hne
  clear hne
  have HVI := Lib.hid (info29v a b c)
  generalize hVV : vs a b c = V at *
  clear hVV
  generalize hres : (ok && Dv.same (Sh.add (Dv.fore (Dv.sib W M) (Dv.fore W x 0 58) 58 22) (Dv.rear (Dv.sib W M) (Dv.fore W x 0 58) 58 58)) E) = res
  have HRES := Lib.hid hres
  clear hres
  go_enter Tryz.func45, Tryz.ntmps45
  go_wp2_with (with_reducible refine wpList_load_row rfl 73 (.tmp 5) rfl (w.heap.size + 1) rfl 73 V (0, 0) _ HV0.out Tryz.underlying73 rfl HVI.out ?_)
  refine (HD.out _).mono ?_
  rintro e2 w2 ⟨rfl, hb2⟩
  have hc2 := (hb2.block _ (by simp; omega)).trans HC0.out
  have hb02 : Below w.heap.size w w2 := HBW.out.trans (hb2.mono (by simp; omega))
  have hz2 : w.heap.size < w2.heap.size := (Array.getElem?_eq_some_iff.1 hc2).1
  have HN7 := Lib.hid (heap_alloc_new w2 (.cells (ws []) 84))
  have hm3 := setRow_heap _ _ _ (ws M) _ _ HN7.out
  have hbl3 : Below w2.heap.size w2 ((w2.alloc (.cells (ws []) 84)).setRow w2.heap.size (ws M)) := below_setRow ((Below.refl _ w2).alloc (Nat.le_refl _) _) (Nat.le_refl _) _
  have hc3 := (hbl3.block _ hz2).trans hc2
  have hb03 := hb02.trans (hbl3.mono hb02.size)
  have hz3 : w2.heap.size < ((w2.alloc (.cells (ws []) 84)).setRow w2.heap.size (ws M)).heap.size := by simp
  obtain ⟨w3, hw3⟩ : ∃ w3, w3 = (w2.alloc (.cells (ws []) 84)).setRow w2.heap.size (ws M) := ⟨_, rfl⟩
  rw [← hw3] at hm3 hc3 hb03 hz3
  have HW3 := Lib.hid hw3
  have HM3 := Lib.hid hm3
  have HC3 := Lib.hid hc3
  have HB3 := Lib.hid hb03
  clear hb2 hc2 hb02 hbl3 hw3 hm3 hc3 hb03 HC0 HV0 HBW HD
  cases ok
  case false =>
    as_aux_lemma =>
    replace HNE : RowKit.Hid (∀ W, (binOp .eql 84 (.agg (ws M)) (.agg (ws []))).run Tryz.prog W = .ok (.bool true) W) := HNE
    go_wp2_with (first
      | (with_reducible refine wpList_store_row rfl 84 (.tmp 7) (.tmp 18) rfl w2.heap.size (ws M) rfl rfl 84 _ HN7.out (info29w _) (ws_sizes _ _) (Hp.ws_one _) ?_; rw [← HW3.out])
      | (with_reducible refine wpList_load_row rfl 84 (.tmp 7) rfl w2.heap.size rfl 84 (ws M) (0, 0) _ HM3.out Tryz.underlying84 rfl (info29w _) ?_)
      | (with_reducible refine wpList_build0 rfl 84 rfl (ws []) built31 ?_)
      | (with_reducible refine wpList_eq_op rfl .eql (Or.inl rfl) 84 84 (.tmp 19) (.tmp 20) rfl (ws M) (ws []) rfl rfl guard29 true (HNE.out _) ?_))
    go_ret
    refine ⟨?_, HB3.out⟩
    rw [← HRES.out, Bool.false_and]
    rfl
  case true =>
  rw [Bool.true_and] at HRES
  replace HNE : RowKit.Hid (∀ W, (binOp .eql 84 (.agg (ws M)) (.agg (ws []))).run Tryz.prog W = .ok (.bool false) W) := HNE
  go_wp2_with (first
    | (with_reducible refine wpList_store_row rfl 84 (.tmp 7) (.tmp 18) rfl w2.heap.size (ws M) rfl rfl 84 _ HN7.out (info29w _) (ws_sizes _ _) (Hp.ws_one _) ?_; rw [← HW3.out])
    | (with_reducible refine wpList_load_row rfl 84 (.tmp 7) rfl w2.heap.size rfl 84 (ws M) (0, 0) _ HM3.out Tryz.underlying84 rfl (info29w _) ?_)
    | (with_reducible refine wpList_build0 rfl 84 rfl (ws []) built31 ?_)
    | (with_reducible refine wpList_eq_op rfl .eql (Or.inl rfl) 84 84 (.tmp 19) (.tmp 20) rfl (ws M) (ws []) rfl rfl guard29 false (HNE.out _) ?_))
  refine (HE.out _).mono ?_
  rintro e4 w4 ⟨rfl, hb4⟩
  have HN8 := Lib.hid (heap_alloc_new w4 (.cells (ws []) 84))
  have hbl5 : Below w4.heap.size w4 ((w4.alloc (.cells (ws []) 84)).setRow w4.heap.size (ws W)) := below_setRow ((Below.refl _ w4).alloc (Nat.le_refl _) _) (Nat.le_refl _) _
  have hz4 : w3.heap.size ≤ w4.heap.size := hb4.size
  have hT : Tm w ((w4.alloc (.cells (ws []) 84)).setRow w4.heap.size (ws W)) w2.heap.size w4.heap.size x M W :=
    ⟨(HB3.out.trans (hb4.mono HB3.out.size)).trans (hbl5.mono (by have := HB3.out.size; omega)), hz2, by omega, by simp, (hbl5.block _ (by omega)).trans ((hb4.block _ (by omega)).trans HC3.out), (hbl5.block _ (by omega)).trans ((hb4.block _ hz3).trans HM3.out), setRow_heap _ _ _ _ _ _ HN8.out⟩
  obtain ⟨w5, hw5⟩ : ∃ w5, w5 = (w4.alloc (.cells (ws []) 84)).setRow w4.heap.size (ws W) := ⟨_, rfl⟩
  rw [← hw5] at hT
  have HW5 := Lib.hid hw5
  have HN9 := Lib.hid (heap_alloc_new w5 (.cells #[.int .u32 0, .int .u32 0, .int .u32 0, .int .u32 0, .int .u32 0] 69))
  have HC5 := Lib.hid hT.ch
  have HT5 := Lib.hid hT
  clear hw5 hT hb4 hbl5 HN7 HM3 HC3 HB3 HW3 HNE HE HVI
  go_wp2_with (first
    | (with_reducible refine wpList_store_row rfl 84 (.tmp 8) (.tmp 23) rfl w4.heap.size (ws W) rfl rfl 84 _ HN8.out (info29w _) (ws_sizes _ _) (Hp.ws_one _) ?_; rw [← HW5.out])
    | (with_reducible refine wpList_load_row rfl 69 (.tmp 3) rfl w.heap.size rfl 69 (cs x) (0, 0) _ HC5.out Tryz.underlying69 rfl (info27 _) ?_)
    | (with_reducible refine wpList_store_row rfl 69 (.tmp 9) (.tmp 24) rfl w5.heap.size (cs x) rfl rfl 69 _ HN9.out (info27 _) (zero_size _) (cs_one _) ?_))
  clear hz HN8 HC5 HW5
  have hT6 := HT5.out.lay (.cells #[.int .u32 0, .int .u32 0, .int .u32 0, .int .u32 0, .int .u32 0] 69) (cs x)
  have hx6 : ((w5.alloc (.cells #[.int .u32 0, .int .u32 0, .int .u32 0, .int .u32 0, .int .u32 0] 69)).setRow w5.heap.size (cs x)).heap[w5.heap.size]? = some (.cells (cs x) 69 (0, 0)) := setRow_heap _ _ _ _ _ _ HN9.out
  have hi5 := HT5.out.hi
  have hmd := HT5.out.mid
  generalize (w5.alloc (.cells #[.int .u32 0, .int .u32 0, .int .u32 0, .int .u32 0, .int .u32 0] 69)).setRow w5.heap.size (cs x) = u at *
  generalize w5.heap.size = xb at *
  generalize w4.heap.size = G at *
  generalize w2.heap.size = N at *
  clear hz3 hz4
  have HT6 := Lib.hid hT6
  have HX0 := Lib.hid (show u.heap[xb]? = some (.cells (cs (Dv.fore W x 0 0)) 69 (0, 0)) from hx6)
  have HW := Lib.hid hT6.wd
  have HM := Lib.hid hT6.m
  have HWL := Lib.hid (show G < u.heap.size ∧ G ≠ xb from ⟨hT6.hi, by omega⟩)
  have HML := Lib.hid (show N < u.heap.size ∧ N ≠ xb from ⟨by have := hT6.hi; omega, by omega⟩)
  clear HT5 HN9 hT6 hx6
  go_loopg [10] 58 (fun gk i wr => ∃ n : Nat, n ≤ 58 ∧ gk = 58 - n ∧ i = .int .i64 (((0 + n : Nat) : Int)) ∧ u.grownBy wr (some xb) ∧ wr.heap[xb]? = some (.cells (cs (Dv.fore W x 0 n)) 69 (0, 0)))
  case atStart => exact ⟨0, Nat.zero_le _, rfl, rfl, grown_refl _ _, HX0.out⟩
  case round =>
    obtain ⟨n, hn, rfl, rfl, hgr, hxr⟩ := hrel
    clear HX0
    by_cases hlt : n < 58
    · as_aux_lemma =>
      have hnx : Dv.fore W x 0 (n + 1) = Sh.step (Dv.fore W x 0 n) (0 + n) (W.getD (0 + n) 0) := rfl
      have HQ := Lib.hid (show ((0 + n : Nat) : Int) + 1 = ((0 + (n + 1) : Nat) : Int) by omega)
      have h2 : ((0 + n : Nat) : Int) < 58 := by omega
      have ht : 0 + n < 80 := by omega
      generalize 0 + n = t at *
      have h1 : ((t : Nat) : Int) < 80 := by omega
      have h0 : (0 : Int) ≤ ((t : Nat) : Int) := by omega
      have hw0 : wr.heap[G]? = some (.cells (ws W) 84 (0, 0)) := (hgr.block _ HWL.out.1 (fun e => by injection e with e; have := HWL.out.2; omega)).trans HW.out
      have hm0 : wr.heap[N]? = some (.cells (ws M) 84 (0, 0)) := (hgr.block _ HML.out.1 (fun e => by injection e with e; have := HML.out.2; omega)).trans HM.out
      generalize Dv.fore W x 0 n = X at *
      have HRW := Lib.hid (fun (W' : World) (h : W'.heap[G]? = some (.cells (ws W) 84 (0, 0))) => row_of h t ht)
      have HRM := Lib.hid (fun (W' : World) (h : W'.heap[N]? = some (.cells (ws M) 84 (0, 0))) => row_of h t ht)
      generalize W.getD t 0 = v at *
      generalize M.getD t 0 = z at *
      have HNX := Lib.hid hnx
      have HGR := Lib.hid hgr
      have hw1 : G < wr.heap.size := (Array.getElem?_eq_some_iff.1 hw0).1
      have hm1 : N < wr.heap.size := (Array.getElem?_eq_some_iff.1 hm0).1
      have hx1 : xb < wr.heap.size := (Array.getElem?_eq_some_iff.1 hxr).1
      have HXR := Lib.hid hxr
      have HW0 := Lib.hid hw0
      have HM0 := Lib.hid hm0
      clear hnx hgr hxr hw0 hm0 ht
      go_wp2_with fail
      refine wp_region_seq (fun W' => W'.heap[G]? = some (.cells (ws W) 84 (0, 0)) ∧ W'.heap[N]? = some (.cells (ws M) 84 (0, 0))) [(1, false, 0), (2, false, 2), (3, false, 6), (4, false, 14), (0, true, 30), (5, true, 31), (6, true, 63)]
        7 (by kernel_rfl) (by kernel_rfl) (by kernel_rfl) (fun d _ _ _ _ h => by cases d <;> exact h) (by kernel_rfl) (by kernel_rfl) ⟨HW0.out, HM0.out⟩ ?_
      refine seqH_take (.int .i64 t) rfl (Or.inl ⟨by rfl, fun W _ => by go_simp⟩) ?_
      go_simp
      refine seqH_take (.int .i64 t) rfl (Or.inl ⟨by rfl, fun W _ => by go_simp⟩) ?_
      go_simp
      refine seqH_take (.pointer (some ⟨G, t, none⟩)) rfl (Or.inl ⟨by rfl, fun W _ => by go_simp⟩) ?_
      go_simp
      refine seqH_take (.int .u32 (tn v)) rfl (Or.inl ⟨by rfl, fun W hW => by have hc := HRW.out W hW.1; go_simp⟩) ?_
      go_simp
      refine seqH_call rfl (by rfl) (fun K hK => ?_)
      have HK := Lib.hid hK
      clear hK
      refine wp_load_row 69 (.tmp 9) rfl xb rfl 69 (cs X) (0, 0) _ HXR.out Tryz.underlying69 rfl (info27 _) ?_
      refine HK.out _ _ ⟨HW0.out, HM0.out⟩ ?_
      clear HK K
      go_simp
      refine seqH_call rfl (by rfl) (fun K hK => ?_)
      have HK := Lib.hid hK
      clear hK
      go_simp
      refine (rstep_any X t v _).mono ?_
      rintro e w2 ⟨rfl, hb2⟩
      have hw2 : w2.heap[G]? = some (.cells (ws W) 84 (0, 0)) := (hb2.block _ hw1).trans HW0.out
      have hm2 : w2.heap[N]? = some (.cells (ws M) 84 (0, 0)) := (hb2.block _ hm1).trans HM0.out
      have hx2 : w2.heap[xb]? = some (.cells (cs X) 69 (0, 0)) := (hb2.block _ hx1).trans HXR.out
      have HG2 := Lib.hid (grown_drew HGR.out hb2)
      clear hb2
      refine HK.out _ _ ⟨hw2, hm2⟩ ?_
      clear HK K
      rw [← HNX.out]
      generalize hY : Dv.fore W x 0 (n + 1) = Y at *
      have HY := Lib.hid hY
      clear hY
      go_simp
      refine seqH_call rfl (by rfl) (fun K hK => ?_)
      have HK := Lib.hid hK
      clear hK
      refine wp_store_row 69 (.tmp 9) (.tmp 34) rfl xb (cs Y) rfl rfl 69 (cs X) hx2 (info27 _) (cs_sizes _ _) (cs_one _) ?_
      refine HK.out _ _ ⟨by rw [setRow_other _ _ _ _ (by have := HWL.out.2; omega)]; exact hw2, by rw [setRow_other _ _ _ _ (by have := HML.out.2; omega)]; exact hm2⟩ ?_
      clear HK K
      go_simp
      refine seqH_done ?_
      have HX2 := Lib.hid hx2
      clear hw2 hm2 hx2
      go_wp2
      go_roundg (58 - (n + 1))
      case rel => exact ⟨n + 1, by omega, rfl, by rw [← HQ.out], grown_setRow HG2.out _, by rw [HY.out]; exact setRow_heap _ _ _ _ _ _ HX2.out⟩
      case measure => omega
    · obtain rfl : n = 58 := by omega
      generalize Dv.fore W x 0 58 = S at *
      have hT := HT6.out.grown hgr (by omega)
      have hgx : xb < wr.heap.size := (Array.getElem?_eq_some_iff.1 hxr).1
      have HXS := Lib.hid hxr
      have HN := Lib.hid (heap_alloc_new wr (.cells #[.int .u32 0, .int .u32 0, .int .u32 0, .int .u32 0, .int .u32 0] 69))
      have hT7 := hT.lay (.cells #[.int .u32 0, .int .u32 0, .int .u32 0, .int .u32 0, .int .u32 0] 69) (cs S)
      have hp7 := setRow_heap _ _ _ (cs S) _ _ HN.out
      have hx7 : ((wr.alloc (.cells #[.int .u32 0, .int .u32 0, .int .u32 0, .int .u32 0, .int .u32 0] 69)).setRow wr.heap.size (cs S)).heap[xb]? = some (.cells (cs S) 69 (0, 0)) := by rw [setRow_other _ _ _ _ (by omega), heap_alloc_old _ _ hgx]; exact hxr
      clear HT6 HW HM HWL HML hgr hxr hT
      go_wp2_with (first
        | (with_reducible refine wpList_load_row rfl 69 (.tmp 9) rfl xb rfl 69 (cs S) (0, 0) _ HXS.out Tryz.underlying69 rfl (info27 _) ?_)
        | (with_reducible refine wpList_store_row rfl 69 (.tmp 11) (.tmp 35) rfl wr.heap.size (cs S) rfl rfl 69 _ HN.out (info27 _) (zero_size _) (cs_one _) ?_))
      clear HXS HN
      generalize (wr.alloc (.cells #[.int .u32 0, .int .u32 0, .int .u32 0, .int .u32 0, .int .u32 0] 69)).setRow wr.heap.size (cs S) = u2 at *
      generalize wr.heap.size = p at *
      have HX0 := Lib.hid (show u2.heap[p]? = some (.cells (cs (Dv.rear (Dv.sib W M) S 58 0)) 69 (0, 0)) from hp7)
      have HX7 := Lib.hid hx7
      have HT7 := Lib.hid hT7
      have HW := Lib.hid hT7.wd
      have HM := Lib.hid hT7.m
      have HWL := Lib.hid (show G < u2.heap.size ∧ G ≠ p from ⟨hT7.hi, by omega⟩)
      have HML := Lib.hid (show N < u2.heap.size ∧ N ≠ p from ⟨by have := hT7.hi; omega, by omega⟩)
      have hx8 : xb < u2.heap.size := (Array.getElem?_eq_some_iff.1 hx7).1
      clear hp7 hx7 hT7
      go_loopg [12] 58 (fun gk i wr => ∃ n : Nat, n ≤ 58 ∧ gk = 58 - n ∧ i = .int .i64 ((58 : Int) - 1 - n) ∧ u2.grownBy wr (some p) ∧ wr.heap[p]? = some (.cells (cs (Dv.rear (Dv.sib W M) S 58 n)) 69 (0, 0)))
      case atStart => exact ⟨0, Nat.zero_le _, rfl, rfl, grown_refl _ _, HX0.out⟩
      case round =>
        obtain ⟨n, hn, rfl, rfl, hgr, hxr⟩ := hrel
        clear HX0
        by_cases hlt : n < 58
        · as_aux_lemma =>
          have hnx : Dv.rear (Dv.sib W M) S 58 (n + 1) = Sh.back (Dv.rear (Dv.sib W M) S 58 n) (58 - 1 - n) ((Dv.sib W M).getD (58 - 1 - n) 0) := rfl
          have hk : (58 : Int) - 1 - n = ((58 - 1 - n : Nat) : Int) := by omega
          rw [hk]
          clear hk
          have HQ := Lib.hid (show ((58 - 1 - n : Nat) : Int) - 1 = (58 : Int) - 1 - ((n + 1 : Nat) : Int) by omega)
          have ht : 58 - 1 - n < 80 := by omega
          rw [sib_get _ ht] at hnx
          generalize 58 - 1 - n = t at *
          have h1 : ((t : Nat) : Int) < 80 := by omega
          have h0 : (0 : Int) ≤ ((t : Nat) : Int) := by omega
          have hw0 : wr.heap[G]? = some (.cells (ws W) 84 (0, 0)) := (hgr.block _ HWL.out.1 (fun e => by injection e with e; have := HWL.out.2; omega)).trans HW.out
          have hm0 : wr.heap[N]? = some (.cells (ws M) 84 (0, 0)) := (hgr.block _ HML.out.1 (fun e => by injection e with e; have := HML.out.2; omega)).trans HM.out
          generalize Dv.rear (Dv.sib W M) S 58 n = X at *
          have HRW := Lib.hid (fun (W' : World) (h : W'.heap[G]? = some (.cells (ws W) 84 (0, 0))) => row_of h t ht)
          have HRM := Lib.hid (fun (W' : World) (h : W'.heap[N]? = some (.cells (ws M) 84 (0, 0))) => row_of h t ht)
          generalize W.getD t 0 = v at *
          generalize M.getD t 0 = z at *
          have HNX := Lib.hid hnx
          have HGR := Lib.hid hgr
          have hw1 : G < wr.heap.size := (Array.getElem?_eq_some_iff.1 hw0).1
          have hm1 : N < wr.heap.size := (Array.getElem?_eq_some_iff.1 hm0).1
          have hx1 : p < wr.heap.size := (Array.getElem?_eq_some_iff.1 hxr).1
          have HXR := Lib.hid hxr
          have HW0 := Lib.hid hw0
          have HM0 := Lib.hid hm0
          clear hnx hgr hxr hw0 hm0 ht
          go_wp2_with fail
          refine wp_region_seq (fun W' => W'.heap[G]? = some (.cells (ws W) 84 (0, 0)) ∧ W'.heap[N]? = some (.cells (ws M) 84 (0, 0))) [(1, false, 0), (2, false, 2), (3, false, 6), (4, false, 14), (5, false, 30), (6, false, 62), (7, false, 126), (8, false, 254), (0, true, 510), (9, true, 511), (10, true, 1023)]
            11 (by kernel_rfl) (by kernel_rfl) (by kernel_rfl) (fun d _ _ _ _ h => by cases d <;> exact h) (by kernel_rfl) (by kernel_rfl) ⟨HW0.out, HM0.out⟩ ?_
          refine seqH_take (.int .i64 t) rfl (Or.inl ⟨by rfl, fun W _ => by go_simp⟩) ?_
          go_simp
          refine seqH_take (.int .i64 t) rfl (Or.inl ⟨by rfl, fun W _ => by go_simp⟩) ?_
          go_simp
          refine seqH_take (.pointer (some ⟨G, t, none⟩)) rfl (Or.inl ⟨by rfl, fun W _ => by go_simp⟩) ?_
          go_simp
          refine seqH_take (.int .u32 (tn v)) rfl (Or.inl ⟨by rfl, fun W hW => by have hc := HRW.out W hW.1; go_simp⟩) ?_
          go_simp
          refine seqH_take (.int .i64 t) rfl (Or.inl ⟨by rfl, fun W _ => by go_simp⟩) ?_
          go_simp
          refine seqH_take (.pointer (some ⟨N, t, none⟩)) rfl (Or.inl ⟨by rfl, fun W _ => by go_simp⟩) ?_
          go_simp
          refine seqH_take (.int .u32 (tn z)) rfl (Or.inl ⟨by rfl, fun W hW => by have hc := HRM.out W hW.2; go_simp⟩) ?_
          go_simp
          refine seqH_take (.int .u32 (tn (v ^^^ z))) rfl (Or.inl ⟨by rfl, fun W _ => by go_simp⟩) ?_
          go_simp
          refine seqH_call rfl (by rfl) (fun K hK => ?_)
          have HK := Lib.hid hK
          clear hK
          refine wp_load_row 69 (.tmp 11) rfl p rfl 69 (cs X) (0, 0) _ HXR.out Tryz.underlying69 rfl (info27 _) ?_
          refine HK.out _ _ ⟨HW0.out, HM0.out⟩ ?_
          clear HK K
          go_simp
          refine seqH_call rfl (by rfl) (fun K hK => ?_)
          have HK := Lib.hid hK
          clear hK
          go_simp
          refine (rback_any X t (v ^^^ z) _).mono ?_
          rintro e w2 ⟨rfl, hb2⟩
          have hw2 : w2.heap[G]? = some (.cells (ws W) 84 (0, 0)) := (hb2.block _ hw1).trans HW0.out
          have hm2 : w2.heap[N]? = some (.cells (ws M) 84 (0, 0)) := (hb2.block _ hm1).trans HM0.out
          have hx2 : w2.heap[p]? = some (.cells (cs X) 69 (0, 0)) := (hb2.block _ hx1).trans HXR.out
          have HG2 := Lib.hid (grown_drew HGR.out hb2)
          clear hb2
          refine HK.out _ _ ⟨hw2, hm2⟩ ?_
          clear HK K
          rw [← HNX.out]
          generalize hY : Dv.rear (Dv.sib W M) S 58 (n + 1) = Y at *
          have HY := Lib.hid hY
          clear hY
          go_simp
          refine seqH_call rfl (by rfl) (fun K hK => ?_)
          have HK := Lib.hid hK
          clear hK
          refine wp_store_row 69 (.tmp 11) (.tmp 49) rfl p (cs Y) rfl rfl 69 (cs X) hx2 (info27 _) (cs_sizes _ _) (cs_one _) ?_
          refine HK.out _ _ ⟨by rw [setRow_other _ _ _ _ (by have := HWL.out.2; omega)]; exact hw2, by rw [setRow_other _ _ _ _ (by have := HML.out.2; omega)]; exact hm2⟩ ?_
          clear HK K
          go_simp
          refine seqH_done ?_
          have HX2 := Lib.hid hx2
          clear hw2 hm2 hx2
          go_wp2
          go_roundg (58 - (n + 1))
          case rel => exact ⟨n + 1, by omega, rfl, by rw [← HQ.out], grown_setRow HG2.out _, by rw [HY.out]; exact setRow_heap _ _ _ _ _ _ HX2.out⟩
          case measure => omega
        · obtain rfl : n = 58 := by omega
          generalize Dv.rear (Dv.sib W M) S 58 58 = FI at *
          have hT := HT7.out.grown hgr (by omega)
          have hxs : wr.heap[xb]? = some (.cells (cs S) 69 (0, 0)) := (hgr.block xb hx8 (fun e => by injection e with e; omega)).trans HX7.out
          have hend : ¬ (0 : Int) ≤ (58 : Int) - 1 - ((58 : Nat) : Int) := by omega
          have hgp : p < wr.heap.size := (Array.getElem?_eq_some_iff.1 hxr).1
          have HXS := Lib.hid hxs
          have HN := Lib.hid (heap_alloc_new wr (.cells #[.int .u32 0, .int .u32 0, .int .u32 0, .int .u32 0, .int .u32 0] 69))
          have hT8 := hT.lay (.cells #[.int .u32 0, .int .u32 0, .int .u32 0, .int .u32 0, .int .u32 0] 69) (cs S)
          have hq8 := setRow_heap _ _ _ (cs S) _ _ HN.out
          have hp8 : ((wr.alloc (.cells #[.int .u32 0, .int .u32 0, .int .u32 0, .int .u32 0, .int .u32 0] 69)).setRow wr.heap.size (cs S)).heap[p]? = some (.cells (cs FI) 69 (0, 0)) := by rw [setRow_other _ _ _ _ (by omega), heap_alloc_old _ _ hgp]; exact hxr
          clear HT7 HX7 HW HM HWL HML hgr hxr hT hxs hx8
          go_wp2_with (first
            | (with_reducible refine wpList_load_row rfl 69 (.tmp 9) rfl xb rfl 69 (cs S) (0, 0) _ HXS.out Tryz.underlying69 rfl (info27 _) ?_)
            | (with_reducible refine wpList_store_row rfl 69 (.tmp 13) (.tmp 50) rfl wr.heap.size (cs S) rfl rfl 69 _ HN.out (info27 _) (zero_size _) (cs_one _) ?_))
          clear HXS HN hend
          generalize (wr.alloc (.cells #[.int .u32 0, .int .u32 0, .int .u32 0, .int .u32 0, .int .u32 0] 69)).setRow wr.heap.size (cs S) = u3 at *
          generalize wr.heap.size = q at *
          have HX0 := Lib.hid (show u3.heap[q]? = some (.cells (cs (Dv.fore (Dv.sib W M) S 58 0)) 69 (0, 0)) from hq8)
          have HP8 := Lib.hid hp8
          have HT8 := Lib.hid hT8
          have HW := Lib.hid hT8.wd
          have HM := Lib.hid hT8.m
          have HWL := Lib.hid (show G < u3.heap.size ∧ G ≠ q from ⟨hT8.hi, by omega⟩)
          have HML := Lib.hid (show N < u3.heap.size ∧ N ≠ q from ⟨by have := hT8.hi; omega, by omega⟩)
          have hp9 : p < u3.heap.size := (Array.getElem?_eq_some_iff.1 hp8).1
          clear hp8 hq8 hT8
          go_loopg [14] 22 (fun gk i wr => ∃ n : Nat, n ≤ 22 ∧ gk = 22 - n ∧ i = .int .i64 (((58 + n : Nat) : Int)) ∧ u3.grownBy wr (some q) ∧ wr.heap[q]? = some (.cells (cs (Dv.fore (Dv.sib W M) S 58 n)) 69 (0, 0)))
          case atStart => exact ⟨0, Nat.zero_le _, rfl, rfl, grown_refl _ _, HX0.out⟩
          case round =>
            obtain ⟨n, hn, rfl, rfl, hgr, hxr⟩ := hrel
            clear HX0
            by_cases hlt : n < 22
            · as_aux_lemma =>
              have hnx : Dv.fore (Dv.sib W M) S 58 (n + 1) = Sh.step (Dv.fore (Dv.sib W M) S 58 n) (58 + n) ((Dv.sib W M).getD (58 + n) 0) := rfl
              have HQ := Lib.hid (show ((58 + n : Nat) : Int) + 1 = ((58 + (n + 1) : Nat) : Int) by omega)
              have ht : 58 + n < 80 := by omega
              rw [sib_get _ ht] at hnx
              generalize 58 + n = t at *
              have h1 : ((t : Nat) : Int) < 80 := by omega
              have h0 : (0 : Int) ≤ ((t : Nat) : Int) := by omega
              have hw0 : wr.heap[G]? = some (.cells (ws W) 84 (0, 0)) := (hgr.block _ HWL.out.1 (fun e => by injection e with e; have := HWL.out.2; omega)).trans HW.out
              have hm0 : wr.heap[N]? = some (.cells (ws M) 84 (0, 0)) := (hgr.block _ HML.out.1 (fun e => by injection e with e; have := HML.out.2; omega)).trans HM.out
              generalize Dv.fore (Dv.sib W M) S 58 n = X at *
              have HRW := Lib.hid (fun (W' : World) (h : W'.heap[G]? = some (.cells (ws W) 84 (0, 0))) => row_of h t ht)
              have HRM := Lib.hid (fun (W' : World) (h : W'.heap[N]? = some (.cells (ws M) 84 (0, 0))) => row_of h t ht)
              generalize W.getD t 0 = v at *
              generalize M.getD t 0 = z at *
              have HNX := Lib.hid hnx
              have HGR := Lib.hid hgr
              have hw1 : G < wr.heap.size := (Array.getElem?_eq_some_iff.1 hw0).1
              have hm1 : N < wr.heap.size := (Array.getElem?_eq_some_iff.1 hm0).1
              have hx1 : q < wr.heap.size := (Array.getElem?_eq_some_iff.1 hxr).1
              have HXR := Lib.hid hxr
              have HW0 := Lib.hid hw0
              have HM0 := Lib.hid hm0
              clear hnx hgr hxr hw0 hm0 ht
              go_wp2_with fail
              refine wp_region_seq (fun W' => W'.heap[G]? = some (.cells (ws W) 84 (0, 0)) ∧ W'.heap[N]? = some (.cells (ws M) 84 (0, 0))) [(1, false, 0), (2, false, 2), (3, false, 6), (4, false, 14), (5, false, 30), (6, false, 62), (7, false, 126), (8, false, 254), (0, true, 510), (9, true, 511), (10, true, 1023)]
                11 (by kernel_rfl) (by kernel_rfl) (by kernel_rfl) (fun d _ _ _ _ h => by cases d <;> exact h) (by kernel_rfl) (by kernel_rfl) ⟨HW0.out, HM0.out⟩ ?_
              refine seqH_take (.int .i64 t) rfl (Or.inl ⟨by rfl, fun W _ => by go_simp⟩) ?_
              go_simp
              refine seqH_take (.int .i64 t) rfl (Or.inl ⟨by rfl, fun W _ => by go_simp⟩) ?_
              go_simp
              refine seqH_take (.pointer (some ⟨G, t, none⟩)) rfl (Or.inl ⟨by rfl, fun W _ => by go_simp⟩) ?_
              go_simp
              refine seqH_take (.int .u32 (tn v)) rfl (Or.inl ⟨by rfl, fun W hW => by have hc := HRW.out W hW.1; go_simp⟩) ?_
              go_simp
              refine seqH_take (.int .i64 t) rfl (Or.inl ⟨by rfl, fun W _ => by go_simp⟩) ?_
              go_simp
              refine seqH_take (.pointer (some ⟨N, t, none⟩)) rfl (Or.inl ⟨by rfl, fun W _ => by go_simp⟩) ?_
              go_simp
              refine seqH_take (.int .u32 (tn z)) rfl (Or.inl ⟨by rfl, fun W hW => by have hc := HRM.out W hW.2; go_simp⟩) ?_
              go_simp
              refine seqH_take (.int .u32 (tn (v ^^^ z))) rfl (Or.inl ⟨by rfl, fun W _ => by go_simp⟩) ?_
              go_simp
              refine seqH_call rfl (by rfl) (fun K hK => ?_)
              have HK := Lib.hid hK
              clear hK
              refine wp_load_row 69 (.tmp 13) rfl q rfl 69 (cs X) (0, 0) _ HXR.out Tryz.underlying69 rfl (info27 _) ?_
              refine HK.out _ _ ⟨HW0.out, HM0.out⟩ ?_
              clear HK K
              go_simp
              refine seqH_call rfl (by rfl) (fun K hK => ?_)
              have HK := Lib.hid hK
              clear hK
              go_simp
              refine (rstep_any X t (v ^^^ z) _).mono ?_
              rintro e w2 ⟨rfl, hb2⟩
              have hw2 : w2.heap[G]? = some (.cells (ws W) 84 (0, 0)) := (hb2.block _ hw1).trans HW0.out
              have hm2 : w2.heap[N]? = some (.cells (ws M) 84 (0, 0)) := (hb2.block _ hm1).trans HM0.out
              have hx2 : w2.heap[q]? = some (.cells (cs X) 69 (0, 0)) := (hb2.block _ hx1).trans HXR.out
              have HG2 := Lib.hid (grown_drew HGR.out hb2)
              clear hb2
              refine HK.out _ _ ⟨hw2, hm2⟩ ?_
              clear HK K
              rw [← HNX.out]
              generalize hY : Dv.fore (Dv.sib W M) S 58 (n + 1) = Y at *
              have HY := Lib.hid hY
              clear hY
              go_simp
              refine seqH_call rfl (by rfl) (fun K hK => ?_)
              have HK := Lib.hid hK
              clear hK
              refine wp_store_row 69 (.tmp 13) (.tmp 64) rfl q (cs Y) rfl rfl 69 (cs X) hx2 (info27 _) (cs_sizes _ _) (cs_one _) ?_
              refine HK.out _ _ ⟨by rw [setRow_other _ _ _ _ (by have := HWL.out.2; omega)]; exact hw2, by rw [setRow_other _ _ _ _ (by have := HML.out.2; omega)]; exact hm2⟩ ?_
              clear HK K
              go_simp
              refine seqH_done ?_
              have HX2 := Lib.hid hx2
              clear hw2 hm2 hx2
              go_wp2
              go_roundg (22 - (n + 1))
              case rel => exact ⟨n + 1, by omega, rfl, by rw [← HQ.out], grown_setRow HG2.out _, by rw [HY.out]; exact setRow_heap _ _ _ _ _ _ HX2.out⟩
              case measure => omega
            · obtain rfl : n = 22 := by omega
              generalize Dv.fore (Dv.sib W M) S 58 22 = LA at *
              have hT := HT8.out.grown hgr (by omega)
              have hpw : wr.heap[p]? = some (.cells (cs FI) 69 (0, 0)) := (hgr.block p hp9 (fun e => by injection e with e; omega)).trans HP8.out
              have HC := Lib.hid hT.ch
              have hq5 : q < wr.heap.size := (Array.getElem?_eq_some_iff.1 hxr).1
              have hp5 : p < wr.heap.size := (Array.getElem?_eq_some_iff.1 hpw).1
              have HT9 := Lib.hid hT
              have HPW := Lib.hid hpw
              have HQW := Lib.hid hxr
              clear HT8 HP8 HW HM HWL HML hp9 hgr hxr hpw hT
              go_wp2_with (with_reducible refine wpList_load_row rfl 69 (.tmp 3) rfl w.heap.size rfl 69 (cs x) (0, 0) _ HC.out Tryz.underlying69 rfl (info27 _) ?_)
              refine (HPR.out _).mono ?_
              rintro e6 w6 ⟨rfl, hb6⟩
              have HN := Lib.hid (heap_alloc_new w6 (.cells #[.int .u32 0, .int .u32 0, .int .u32 0, .int .u32 0, .int .u32 0] 69))
              have hbe : Below w6.heap.size w6 ((w6.alloc (.cells #[.int .u32 0, .int .u32 0, .int .u32 0, .int .u32 0, .int .u32 0] 69)).setRow w6.heap.size (cs E)) := below_setRow ((Below.refl _ w6).alloc (Nat.le_refl _) _) (Nat.le_refl _) _
              have hb7 := ((HT9.out.more hb6).more hbe).below
              have hp6 := (hbe.block _ (Nat.lt_of_lt_of_le hp5 hb6.size)).trans ((hb6.block _ hp5).trans HPW.out)
              have hq6 := (hbe.block _ (Nat.lt_of_lt_of_le hq5 hb6.size)).trans ((hb6.block _ hq5).trans HQW.out)
              have he6 := setRow_heap _ _ _ (cs E) _ _ HN.out
              clear hb6 hbe HT9 HPW HQW HC HPR hp5 hq5
              go_wp2_with (with_reducible refine wpList_store_row rfl 69 (.tmp 15) (.tmp 67) rfl w6.heap.size (cs E) rfl rfl 69 _ HN.out (info27 _) (zero_size _) (cs_one _) ?_)
              clear HN
              generalize (w6.alloc (.cells #[.int .u32 0, .int .u32 0, .int .u32 0, .int .u32 0, .int .u32 0] 69)).setRow w6.heap.size (cs E) = u6 at *
              generalize w6.heap.size = eb at *
              have HB7 := Lib.hid hb7
              have HP6 := Lib.hid (row_cs hp6)
              have HQ6 := Lib.hid (row_cs hq6)
              have HE6 := Lib.hid (row_cs he6)
              clear hb7 hp6 hq6 he6
              go_loopg [16] 5 (fun gk i wr => ∃ n : Nat, n ≤ 5 ∧ gk = 5 - n ∧ i = .int .i64 n ∧ Below w.heap.size w wr ∧ wr.rowIs p 69 5 (fun j => .int .u32 (tn (fld FI j))) ∧ wr.rowIs q 69 5 (fun j => .int .u32 (tn (fld LA j))) ∧ wr.rowIs eb 69 5 (fun j => .int .u32 (tn (fld E j))) ∧ ∀ j, j < n → fld FI j + fld LA j = fld E j)
              case atStart => exact ⟨0, Nat.zero_le _, rfl, rfl, HB7.out, HP6.out, HQ6.out, HE6.out, fun j hj => by omega⟩
              case round =>
                obtain ⟨t, hn, rfl, rfl, hbl, hrp, hrq, hre, hall⟩ := hrel
                clear HB7 HP6 HQ6 HE6
                by_cases hlt : t < 5
                · as_aux_lemma =>
                  have h1 : ((t : Nat) : Int) < 5 := by omega
                  have h0 : (0 : Int) ≤ ((t : Nat) : Int) := by omega
                  have c1 := hrp.cell hlt
                  have c2 := hrq.cell hlt
                  have c3 := hre.cell hlt
                  by_cases heq : fld FI t + fld LA t = fld E t
                  · rw [← heq] at c3
                    have HAL := Lib.hid (show ∀ j, j < t + 1 → fld FI j + fld LA j = fld E j from fun j hj => by
                      by_cases e : j = t
                      · rw [e]; exact heq
                      · exact hall j (by omega))
                    have HB := Lib.hid hbl
                    have HRP := Lib.hid hrp
                    have HRQ := Lib.hid hrq
                    have HRE := Lib.hid hre
                    clear heq hall hbl hrp hrq hre
                    generalize fld FI t = y1 at *
                    generalize fld LA t = y2 at *
                    go_wp2_with fail
                    refine wp_region_still_lit (by kernel_rfl) (by kernel_rfl) ?_
                    change wpStill _ _ (World.drew _) (fun a' => Exit.then _ _ _ a' (World.drew _)) _ _
                    iterate 11 still_step
                    refine wpStill_nil ?_
                    go_wp2
                    go_roundg (5 - (t + 1))
                    case rel => exact ⟨t + 1, by omega, rfl, by go_num, HB.out.drew, HRP.out, HRQ.out, HRE.out, HAL.out⟩
                    case measure => omega
                  · have hno := same_not FI LA E t hlt heq
                    have hne : ¬ tn (fld FI t + fld LA t) = tn (fld E t) := fun e => heq (tn_inj e)
                    have HNO := Lib.hid hno
                    have HB := Lib.hid hbl
                    clear heq hno hall hbl hrp hrq hre
                    generalize fld FI t = y1 at *
                    generalize fld LA t = y2 at *
                    generalize fld E t = y3 at *
                    go_wp2_with fail
                    refine wp_region_still_lit (by kernel_rfl) (by kernel_rfl) ?_
                    change wpStill _ _ (World.drew _) (fun a' => Exit.then _ _ _ a' (World.drew _)) _ _
                    iterate 11 still_step
                    refine wpStill_nil ?_
                    go_wp2
                    go_ret
                    refine ⟨?_, HB.out.drew⟩
                    rw [← HRES.out, HNO.out]
                    rfl
                · obtain rfl : t = 5 := by omega
                  have HYES := Lib.hid (same_of FI LA E hall)
                  clear hrp hrq hre hall
                  go_wp2
                  go_ret
                  refine ⟨?_, hbl⟩
                  rw [← HRES.out, HYES.out]
                  rfl
end Go.Proofs.YtmbbigmnliiadaaGreatDoor.Hd
namespace Go.Proofs.YtmbbigmnliiadaaGreatDoor.Hd
open Go.RowKit Hs Hp
set_option linter.unusedVariables false

theorem yields_load_sub {P : Program} {ops : Array Oper} {S : World → Prop} {o : Oper} {a : Act} (ty : TypeId) (x : Operand) (ho : o.op = .load ty x) (hw : Region.wanted o (yielded ops a.tmps) = true) (g off : Nat) (hx : a.eval x = .pointer (some ⟨g, off, none⟩)) (cs : Array Value)
    (hl : ∀ W, S W → (loadVar ty ⟨g, off, none⟩).run P W = .ok (.agg cs) W) : YieldsIf P ops S o (.agg cs) a :=
  .inl ⟨hw, fun W hW => by simp only [execOp, ho, hx, Instr.loadAt, Instr.sureAddr, Sem.run_bind, Sem.run_pure, Result.andThen_ok, hl W hW]⟩
theorem blockHit_succ (X : Sh.Ch) (l : List UInt8) (n : Nat) : Dv.blockHit X l (n + 1) = (Dv.blockHit X l n || Dv.marked X l (Dv.vdiff n)) := by simp [Dv.blockHit, List.range_succ]
theorem vec_ok (n : Nat) (h : n < 21) : decide (Dv.ok (Dv.vecs.getD n (0, 0)).1 (Dv.vecs.getD n (0, 0)).2 0) = true := by
  have h' : ∀ m : Fin 21, decide (Dv.ok (Dv.vecs.getD m.val (0, 0)).1 (Dv.vecs.getD m.val (0, 0)).2 0) = true := by decide +kernel
  exact h' ⟨n, h⟩
/-- the state of Scan: the vectors, the chain -/
structure Sc (w wr : World) (g C : Nat) (X : Sh.Ch) : Prop where
  below : Below w.heap.size w wr
  lo : w.heap.size ≤ g
  mid : g < C
  vl : Vl wr g
  ch : wr.heap[C]? = some (.cells (cs X) 69 (0, 0))
section
variable {w wr w1 : World} {g C : Nat} {X : Sh.Ch}
theorem Sc.lt (h : Sc w wr g C X) : C < wr.heap.size := (Array.getElem?_eq_some_iff.1 h.ch).1
theorem Sc.drew (h : Sc w wr g C X) : Sc w wr.drew g C X := ⟨h.below.drew, h.lo, h.mid, h.vl, h.ch⟩
theorem Sc.more (h : Sc w wr g C X) (hb : Below wr.heap.size wr w1) : Sc w w1 g C X :=
  have hl := h.lt
  have hm := h.mid
  ⟨h.below.trans (hb.mono h.below.size), h.lo, hm, h.vl.below hb (by omega), by rw [hb.block _ hl]; exact h.ch⟩
theorem Sc.put (h : Sc w wr g C X) (Y : Sh.Ch) : Sc w (wr.setRow C (cs Y)) g C Y :=
  have hm := h.mid
  have hl := h.lo
  ⟨below_setRow h.below (by omega) _, hl, hm, h.vl.below (B := C) (below_setRow (Below.refl _ wr) (Nat.le_refl _) _) hm, setRow_heap _ _ (cs X) _ _ _ h.ch⟩
end

set_option maxHeartbeats 8000000 in
set_option maxRecDepth 100000 in
theorem rscan_any (s : ByteArray) (w : World) (hs : s.size ≤ 90000) :
    Calls Tryz.prog 27 #[.string s] w fun e w' => e = .returned (.tuple #[.string ⟨(Sh.sum s.data.toList).toArray⟩, .bool (Dv.scan s.data.toList)]) ∧ Below w.heap.size w w' := by
  have hfl : (Sh.fill s.data.toList).length ≤ 100000 := by
    rw [Sh.fill, List.length_append, Sh.pad_length, Sh.highs_length]
    have : Sh.nought s.data.toList.length < 64 := Nat.mod_lt _ (by omega)
    simp at this ⊢
    omega
  have HSM := Lib.hid (fun W => rsum_any s W hs)
  have HFL := Lib.hid (fun W => rfill_any s W (by omega))
  have hsc : Dv.scan s.data.toList = Dv.scanTo (Sh.fill s.data.toList) ((Sh.fill s.data.toList).length / 64) := rfl
  have h64 := Sh.fill_length s.data.toList
  generalize hF : (⟨(Sh.fill s.data.toList).toArray⟩ : ByteArray) = F at *
  have hFl : Sh.fill s.data.toList = F.data.toList := by rw [← hF]
  rw [hFl] at hsc h64 hfl
  have hFs : F.data.toList.length = F.size := by simp
  rw [hFs] at hsc h64 hfl
  generalize Dv.scan s.data.toList = res at *
  generalize (⟨(Sh.sum s.data.toList).toArray⟩ : ByteArray) = D at *
  have HSC := Lib.hid hsc
  have H64 := Lib.hid h64
  clear hsc h64 hF hFl hFs hs
  go_enter Tryz.func27, Tryz.ntmps27
  go_wp2_with fail
  refine (HFL.out _).mono ?_
  rintro e w1 ⟨rfl, hb1⟩
  go_wp2_with fail
  refine (rvectors_any _).mono ?_
  rintro e w2 ⟨rfl, hg2, hvl2, hb2⟩
  go_wp2_with fail
  refine (rfirst_any _).mono ?_
  rintro e w3 ⟨rfl, hb3⟩
  have hnew := heap_alloc_new w3 (.cells #[.int .u32 0, .int .u32 0, .int .u32 0, .int .u32 0, .int .u32 0] 69)
  have hb03 := (hb1.trans (hb2.mono hb1.size)).trans (hb3.mono (by have := hb1.size; have := hb2.size; omega))
  have hbl : Below w3.heap.size w3 ((w3.alloc (.cells #[.int .u32 0, .int .u32 0, .int .u32 0, .int .u32 0, .int .u32 0] 69)).setRow w3.heap.size (cs Sh.first)) := below_setRow ((Below.refl _ w3).alloc (Nat.le_refl _) _) (Nat.le_refl _) _
  have hg3 : w1.heap.size < w3.heap.size := Nat.lt_of_lt_of_le hg2 hb3.size
  have hst : Sc w ((w3.alloc (.cells #[.int .u32 0, .int .u32 0, .int .u32 0, .int .u32 0, .int .u32 0] 69)).setRow w3.heap.size (cs Sh.first)) w1.heap.size w3.heap.size Sh.first :=
    ⟨hb03.trans (hbl.mono hb03.size), hb1.size, hg3, (hvl2.below hb3 hg2).below hbl hg3, setRow_heap _ _ _ _ _ _ hnew⟩
  have HNEW := Lib.hid hnew
  have HST := Lib.hid hst
  clear hnew hst hb1 hb2 hb3 hb03 hbl hvl2 hg2 hg3 HFL
  go_wp2_with (with_reducible refine wpList_store_row rfl 69 (.tmp 6) (.tmp 13) rfl w3.heap.size _ rfl rfl 69 _ HNEW.out (info27 _) (zero_size _) (cs_one _) ?_)
  clear HNEW
  generalize w3.heap.size = C at *
  generalize w1.heap.size = g at *
  go_loopg [7, 8, 9] (F.size / 64) (fun gk mk i s9 wr => ∃ (k j : Nat), k ≤ F.size / 64 ∧ j = 64 * k ∧ gk = F.size / 64 - k ∧ mk = .bool (Dv.scanTo F.data.toList k) ∧ i = .int .i64 j ∧ Sc w wr g C (Sh.chain F.data.toList k))
  case atStart => exact ⟨0, 0, Nat.zero_le _, rfl, rfl, rfl, rfl, HST.out⟩
  case round =>
    obtain ⟨k, j, hk, hj, rfl, rfl, rfl, hsu⟩ := hrel
    clear HST
    by_cases hlt : k < F.size / 64
    · have hjs : j + 64 ≤ F.size := by omega
      have h1 : (j : Int) < F.size := by omega
      have h2 : (0 : Int) ≤ j := by omega
      have h3 : (j : Int) + 64 ≤ F.size := by omega
      have hw64 : IntKind.i64.wrap ((j : Int) + 64) = (j : Int) + 64 := IntWalk.i64_in _ (by omega)
      have h4 : (0 : Int) ≤ (j : Int) + 64 := by omega
      have h5 : (j : Int) ≤ (j : Int) + 64 := by omega
      have h6 : ((j : Int) + 64).toNat = j + 64 := by omega
      have hblk : (F.extract j (j + 64)).data.toList = (F.data.toList.drop (64 * k)).take 64 := by rw [extract_list, hj, show 64 * k + 64 - 64 * k = 64 by omega]
      have hbz : (F.extract j (j + 64)).size ≤ 100000 := by rw [ByteArray.size_extract]; omega
      have hnx : Sh.chain F.data.toList (k + 1) = Sh.press (Sh.chain F.data.toList k) ((F.data.toList.drop (64 * k)).take 64) := rfl
      have hsn : Dv.scanTo F.data.toList (k + 1) = (Dv.scanTo F.data.toList k || Dv.blockHit (Sh.chain F.data.toList k) ((F.data.toList.drop (64 * k)).take 64) 21) := rfl
      rw [← hblk] at hnx hsn
      generalize hX : Sh.chain F.data.toList k = X at *
      clear hX
      have HPR := Lib.hid (fun W => rpress_any X (F.extract j (j + 64)) W hbz)
      have HMK := Lib.hid (fun (n : Nat) (hn : n < 21) (W : World) => show Calls Tryz.prog 45 #[.agg (cs X), .string (F.extract j (j + 64)), .agg (vs (Dv.vecs.getD n (0, 0)).1 (Dv.vecs.getD n (0, 0)).2 0)] W fun e w' => e = .returned (.bool (Dv.marked X (F.extract j (j + 64)).data.toList (Dv.vdiff n))) ∧ Below W.heap.size W w' from by
        have h := rmarked_any X (F.extract j (j + 64)) (Dv.vecs.getD n (0, 0)).1 (Dv.vecs.getD n (0, 0)).2 0 W hbz
        rw [vec_ok n hn, Bool.true_and] at h
        exact h)
      have hj0 : Dv.blockHit X (F.extract j (j + 64)).data.toList 0 = false := rfl
      generalize Dv.scanTo F.data.toList k = sk at *
      have HNX := Lib.hid hnx
      have HSN := Lib.hid hsn
      have HJ := Lib.hid hj
      have HJ0 := Lib.hid hj0
      have HS := Lib.hid hsu
      clear hnx hsn hj hj0 hsu hblk hbz
      go_wp2
      go_loopg [7, 9] 21 (fun gk mk i wr => ∃ n : Nat, n ≤ 21 ∧ gk = 21 - n ∧ mk = .bool (sk || Dv.blockHit X (F.extract j (j + 64)).data.toList n) ∧ i = .int .i64 n ∧ Sc w wr g C X)
      case atStart => exact ⟨0, Nat.zero_le _, rfl, by rw [HJ0.out, Bool.or_false], rfl, HS.out⟩
      case round =>
        obtain ⟨n, hn, rfl, rfl, rfl, hx⟩ := hrel
        clear HS
        by_cases hln : n < 21
        · have hi1 : ((n : Nat) : Int) < 21 := by omega
          have hi0 : (0 : Int) ≤ ((n : Nat) : Int) := by omega
          have hsu := blockHit_succ X (F.extract j (j + 64)).data.toList n
          have HM := Lib.hid (HMK.out n hln)
          have HL := Lib.hid (fun (W : World) (hW : Vl W g) => hW.load29 n hln)
          generalize ((Dv.vecs.getD n (0, 0)).1 : Int) = ty at *
          generalize ((Dv.vecs.getD n (0, 0)).2 : Int) = K0 at *
          generalize Dv.marked X (F.extract j (j + 64)).data.toList (Dv.vdiff n) = mm at *
          have hor : (sk || Dv.blockHit X (F.extract j (j + 64)).data.toList (n + 1)) = ((sk || Dv.blockHit X (F.extract j (j + 64)).data.toList n) || mm) := by rw [hsu, Bool.or_assoc]
          generalize (sk || Dv.blockHit X (F.extract j (j + 64)).data.toList n) = cur at *
          have HOR := Lib.hid hor
          have HX := Lib.hid hx
          clear hor hsu hx
          cases cur
          case true =>
            as_aux_lemma =>
            go_wp2_with fail
            refine wp_region_seq (fun W => Sc w W g C X) [(0, false, 0), (1, false, 1), (2, false, 3), (3, false, 7), (4, false, 15), (5, false, 31), (6, false, 63), (7, false, 127), (8, false, 255), (9, false, 511), (10, false, 1023), (11, false, 2047), (12, false, 4095), (13, false, 8191), (14, false, 16383)]
              15 (by kernel_rfl) (by kernel_rfl) (by kernel_rfl) (fun d _ _ _ _ h => by cases d <;> exact h) (by kernel_rfl) (by kernel_rfl) HX.out.drew ?_
            refine seqH_take (.bool true) rfl (Or.inl ⟨by rfl, fun W _ => by go_simp⟩) ?_
            go_simp
            refine seqH_take (.bool true) rfl (Or.inl ⟨by rfl, fun W _ => by go_simp⟩) ?_
            go_simp
            refine seqH_take undef rfl (Or.inr ⟨by rfl, rfl⟩) ?_
            go_simp
            refine seqH_take undef rfl (Or.inr ⟨by rfl, rfl⟩) ?_
            go_simp
            refine seqH_take undef rfl (Or.inr ⟨by rfl, rfl⟩) ?_
            go_simp
            refine seqH_take undef rfl (Or.inr ⟨by rfl, rfl⟩) ?_
            go_simp
            refine seqH_take undef rfl (Or.inr ⟨by rfl, rfl⟩) ?_
            go_simp
            refine seqH_take undef rfl (Or.inr ⟨by rfl, rfl⟩) ?_
            go_simp
            refine seqH_take undef rfl (Or.inr ⟨by rfl, rfl⟩) ?_
            go_simp
            refine seqH_take undef rfl (Or.inr ⟨by rfl, rfl⟩) ?_
            go_simp
            refine seqH_take undef rfl (Or.inr ⟨by rfl, rfl⟩) ?_
            go_simp
            refine seqH_take undef rfl (Or.inr ⟨by rfl, rfl⟩) ?_
            go_simp
            refine seqH_take undef rfl (Or.inr ⟨by rfl, rfl⟩) ?_
            go_simp
            refine seqH_take (.bool true) rfl (Or.inl ⟨by rfl, fun W _ => by go_simp⟩) ?_
            go_simp
            refine seqH_take (.bool true) rfl (Or.inl ⟨by rfl, fun W _ => by go_simp⟩) ?_
            go_simp
            refine seqH_done ?_
            go_wp2
            go_roundg (21 - (n + 1))
            case rel => exact ⟨n + 1, by omega, rfl, by rw [HOR.out, Bool.true_or], by go_num, HX.out.drew⟩
            case measure => omega
          case false =>
            as_aux_lemma =>
            go_wp2_with fail
            refine wp_region_seq (fun W => Sc w W g C X) [(0, false, 0), (1, false, 1), (2, false, 3), (3, false, 7), (4, false, 15), (5, false, 31), (6, false, 63), (7, false, 127), (8, false, 255), (9, false, 511), (10, false, 1023), (11, false, 2047), (12, true, 4095), (13, false, 8191), (14, false, 16383)]
              15 (by kernel_rfl) (by kernel_rfl) (by kernel_rfl) (fun d _ _ _ _ h => by cases d <;> exact h) (by kernel_rfl) (by kernel_rfl) HX.out.drew ?_
            refine seqH_take (.bool false) rfl (Or.inl ⟨by rfl, fun W _ => by go_simp⟩) ?_
            go_simp
            refine seqH_take (.bool false) rfl (Or.inl ⟨by rfl, fun W _ => by go_simp⟩) ?_
            go_simp
            refine seqH_take (.agg (cs X)) rfl (yields_load 69 (.tmp 6) rfl (by rfl) C rfl 69 (cs X) (0, 0) _ (fun W hW => hW.ch) Tryz.underlying69 rfl (info27 _)) ?_
            go_simp
            refine seqH_take (.string F) rfl (Or.inl ⟨by rfl, fun W _ => by go_simp⟩) ?_
            go_simp
            refine seqH_take (.int .i64 j) rfl (Or.inl ⟨by rfl, fun W _ => by go_simp⟩) ?_
            go_simp
            refine seqH_take (.int .i64 j) rfl (Or.inl ⟨by rfl, fun W _ => by go_simp⟩) ?_
            go_simp
            refine seqH_take (.int .i64 ((j : Int) + 64)) rfl (Or.inl ⟨by rfl, fun W _ => by go_simp⟩) ?_
            go_simp
            refine seqH_take (.string (F.extract j (j + 64))) rfl (Or.inl ⟨by rfl, fun W _ => by go_simp⟩) ?_
            go_simp
            refine seqH_take (.slice (some ⟨g, 0, none⟩) 21 21) rfl (Or.inl ⟨by rfl, fun W _ => by go_simp⟩) ?_
            go_simp
            refine seqH_take (.int .i64 n) rfl (Or.inl ⟨by rfl, fun W _ => by go_simp⟩) ?_
            go_simp
            refine seqH_take (.pointer (some ⟨g, n * 3, none⟩)) rfl (Or.inl ⟨by rfl, fun W _ => by go_simp⟩) ?_
            go_simp
            refine seqH_take (.agg (vs ty K0 0)) rfl (yields_load_sub 73 (.tmp 36) rfl (by rfl) g (n * 3) rfl (vs ty K0 0) (fun W hW => HL.out W hW.vl)) ?_
            go_simp
            refine seqH_call rfl (by rfl) (fun K hK => ?_)
            have HK := Lib.hid hK
            clear hK
            go_simp
            refine (HM.out _).mono ?_
            rintro e w5 ⟨rfl, hb5⟩
            have hx5 := HX.out.drew.more hb5
            clear hb5
            refine HK.out _ _ hx5 ?_
            clear HK K
            go_simp
            refine seqH_take (.bool mm) rfl (Or.inl ⟨by rfl, fun W _ => by go_simp⟩) ?_
            go_simp
            refine seqH_take (.bool mm) rfl (Or.inl ⟨by rfl, fun W _ => by go_simp⟩) ?_
            go_simp
            refine seqH_done ?_
            have HX5 := Lib.hid hx5
            clear hx5
            go_wp2
            go_roundg (21 - (n + 1))
            case rel => exact ⟨n + 1, by omega, rfl, by rw [HOR.out, Bool.false_or], by go_num, HX5.out⟩
            case measure => omega
        · obtain rfl : n = 21 := by omega
          have hsn := HSN.out
          rw [← hsn]
          have HX := Lib.hid hx
          clear hx hsn
          generalize hmk : Dv.scanTo F.data.toList (k + 1) = mk at *
          have HMK2 := Lib.hid hmk
          clear hmk
          go_wp2_with fail
          refine wp_region_seq (fun W => Below w.heap.size w W) [(1, false, 0), (2, false, 2), (3, false, 6), (4, false, 14), (5, false, 30), (0, true, 62), (6, true, 63), (7, true, 127)]
            8 (by kernel_rfl) (by kernel_rfl) (by kernel_rfl) (fun d _ _ _ _ h => by cases d <;> exact h) (by kernel_rfl) (by kernel_rfl) HX.out.below.drew ?_
          refine seqH_take (.string F) rfl (Or.inl ⟨by rfl, fun W _ => by go_simp⟩) ?_
          go_simp
          refine seqH_take (.int .i64 j) rfl (Or.inl ⟨by rfl, fun W _ => by go_simp⟩) ?_
          go_simp
          refine seqH_take (.int .i64 j) rfl (Or.inl ⟨by rfl, fun W _ => by go_simp⟩) ?_
          go_simp
          refine seqH_take (.int .i64 ((j : Int) + 64)) rfl (Or.inl ⟨by rfl, fun W _ => by go_simp⟩) ?_
          go_simp
          refine seqH_take (.string (F.extract j (j + 64))) rfl (Or.inl ⟨by rfl, fun W _ => by go_simp⟩) ?_
          go_simp
          refine seqH_call rfl (by rfl) (fun K hK => ?_)
          have HK := Lib.hid hK
          clear hK
          refine wp_load_row 69 (.tmp 6) rfl C rfl 69 (cs X) (0, 0) _ HX.out.ch Tryz.underlying69 rfl (info27 _) ?_
          refine HK.out _ _ HX.out.below.drew ?_
          clear HK K
          go_simp
          refine seqH_call rfl (by rfl) (fun K hK => ?_)
          have HK := Lib.hid hK
          clear hK
          go_simp
          refine (HPR.out _).mono ?_
          rintro e w5 ⟨rfl, hb5⟩
          have hx5 := HX.out.drew.more hb5
          clear hb5
          refine HK.out _ _ hx5.below ?_
          clear HK K
          rw [← HNX.out]
          generalize hY : Sh.chain F.data.toList (k + 1) = Y at *
          have HY := Lib.hid hY
          clear hY
          go_simp
          refine seqH_call rfl (by rfl) (fun K hK => ?_)
          have HK := Lib.hid hK
          clear hK
          refine wp_store_row 69 (.tmp 6) (.tmp 46) rfl C (cs Y) rfl rfl 69 (cs X) hx5.ch (info27 _) (cs_sizes _ _) (cs_one _) ?_
          have hx6 := hx5.put Y
          refine HK.out _ _ hx6.below ?_
          clear HK K
          go_simp
          refine seqH_done ?_
          have HX6 := Lib.hid hx6
          clear hx5 hx6
          go_wp2
          go_roundg (F.size / 64 - (k + 1))
          case rel => exact ⟨k + 1, j + 64, by omega, by have := HJ.out; omega, rfl, by rw [HMK2.out], by go_num, by rw [HY.out]; exact HX6.out⟩
          case measure => omega
    · obtain rfl : k = F.size / 64 := by omega
      have h64 := H64.out
      have hj1 : ¬ (j : Int) < F.size := by omega
      rw [← HSC.out]
      have HBL := Lib.hid hsu.below
      clear hsu h64
      go_wp2_with fail
      refine (HSM.out _).mono ?_
      rintro e w6 ⟨rfl, hb6⟩
      have HB6 := Lib.hid (HBL.out.trans (hb6.mono HBL.out.size))
      clear hb6
      go_wp2
      go_ret2
      exact ⟨rfl, HB6.out⟩
end Go.Proofs.YtmbbigmnliiadaaGreatDoor.Hd
