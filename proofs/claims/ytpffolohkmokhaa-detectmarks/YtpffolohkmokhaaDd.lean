/-
  The contract of the program's Difference (package detect).
-/
import Derived.Test.YtpffolohkmokhaaDc
namespace Go.Proofs.Ytpffolohkmokhaa.Hd
open Go.RowKit Hs Hp
set_option linter.unusedVariables false
attribute [local go_sem] t_and t_or t_xor t_not t_add t_sub t_add_wrap t_sub_wrap

theorem diffs_get (f : Nat → UInt32) (j : Nat) (h : j < 80) : (Dv.diffs f).getD j 0 = Dv.diffAt f j := by simp [Dv.diffs, List.getD, h]
theorem info23 (ty K B : Int) : (Try.prog.info? 23).map (·.size) = some (vs ty K B).size := by
  have : (Try.prog.info? 23).map (·.size) = some 3 := by kernel_rfl
  rw [this]; rfl

/-- the state of Difference: the result's row, the row, the words so far -/
structure Df (w wr : World) (g : Nat) (f : Nat → UInt32) (n : Nat) : Prop where
  below : Below w.heap.size w wr
  lo : w.heap.size + 1 + 1 < g
  res : wr.heap[w.heap.size + 1]? = some (.cells (ws []) 32 (0, 0))
  row : wr.heap[g]? = some (.cells (ds f) 48 (0, 0))
  m : wr.rowIs (w.heap.size + 1 + 1) 32 80 (fun j => .int .u32 (tn (if j < n then Dv.diffAt f j else 0)))
section
variable {w wr : World} {g n : Nat} {f : Nat → UInt32}
theorem Df.drew (h : Df w wr g f n) : Df w wr.drew g f n := ⟨h.below.drew, h.lo, h.res, h.row, h.m⟩
theorem Df.put (h : Df w wr g f n) (x : UInt32) (hx : Dv.diffAt f n = x) : Df w (wr.setCell ⟨w.heap.size + 1 + 1, n, none⟩ (.int .u32 (tn x))) g f (n + 1) := by
  have hl := h.lo
  refine ⟨h.below.setCell (by simp; omega) _, hl, by rw [heap_setCell_other _ _ _ _ (by simp)]; exact h.res, by rw [heap_setCell_other _ _ _ _ (by simp; omega)]; exact h.row, (h.m.set n _).congr fun j _ => ?_⟩
  by_cases e : j = n
  · subst e; rw [if_pos rfl, if_pos (by omega), hx]
  · rw [if_neg e]
    by_cases hlt : j < n
    · rw [if_pos hlt, if_pos (by omega)]
    · rw [if_neg hlt, if_neg (by omega)]
theorem Df.at_ (h : Df w wr g f n) (j : Nat) (hj : j < 85) : wr.cell? ⟨g, j, none⟩ = some (.int .u32 (tn (f j))) := by rw [cell_of_row wr g j _ _ _ h.row, ds_get f j hj]
theorem Df.done (h : Df w wr g f 80) : wr.heap[w.heap.size + 1 + 1]? = some (.cells (ws (Dv.diffs f)) 32 (0, 0)) :=
  Hp.ws_row (h.m.congr fun j hj => by rw [if_pos hj, diffs_get f j hj])
end
theorem Df.start {w w1 w2 : World} {v : Array Value} {T : TypeId} (f : Nat → UInt32)
    (h1 : Below (w.heap.size + 1 + 1 + 1) (((w.alloc (.cells v T)).alloc (.cells (ws []) 32)).alloc (.cells (ws []) 32)) w1) (h2 : Below w1.heap.size w1 w2) :
    Df w ((w2.alloc (.cells (ds nought) 48)).setRow w2.heap.size (ds f)) w2.heap.size f 0 := by
  have z1 := h1.size
  have z2 := h2.size
  simp at z1
  have hb0 : Below w.heap.size w (((w.alloc (.cells v T)).alloc (.cells (ws []) 32)).alloc (.cells (ws []) 32)) := (((Below.refl _ w).alloc (Nat.le_refl _) _).alloc (by simp) _).alloc (by simp; omega) _
  have hb : Below w.heap.size w w2 := (hb0.trans (h1.mono (by omega))).trans (h2.mono (by omega))
  have r1 : w2.heap[w.heap.size + 1]? = some (.cells (ws []) 32 (0, 0)) := by
    rw [h2.block _ (by omega), h1.block _ (by omega), heap_alloc_old _ _ (by simp)]; exact heap_alloc2_new _ _ _
  have r2 : w2.heap[w.heap.size + 1 + 1]? = some (.cells (ws []) 32 (0, 0)) := by
    rw [h2.block _ (by omega), h1.block _ (by omega)]
    have := heap_alloc_new ((w.alloc (.cells v T)).alloc (.cells (ws []) 32)) (.cells (ws []) 32)
    simpa using this
  refine ⟨below_setRow (hb.alloc hb.size _) hb.size _, by omega, ?_, setRow_heap _ _ (ds nought) _ _ _ (heap_alloc_new _ _), ?_⟩
  · rw [setRow_other _ _ _ _ (by omega), heap_alloc_old _ _ (by omega)]; exact r1
  · refine World.rowIs.congr (f := fun j => .int .u32 (tn (([] : List UInt32).getD j 0))) ⟨ws [], ?_, ws_size _, fun i hi => ws_get [] i hi⟩ fun j _ => by rw [if_neg (by omega)]; rfl
    rw [setRow_other _ _ _ _ (by omega), heap_alloc_old _ _ (by omega)]; exact r2

set_option maxHeartbeats 4000000 in
set_option maxRecDepth 100000 in
theorem difference_any (ty K B : Int) (w : World) :
    Calls Try.prog 9 #[.agg (vs ty K B)] w fun e w' => e = .returned (.agg (ws (Dv.diff ty K B))) ∧ Below w.heap.size w w' := by
  have hz := zv30
  have hz5 := zv85
  by_cases hok : Dv.ok ty K B
  · have hd : Dv.diff ty K B = Dv.diffs (Dv.row ty.toNat K.toNat B.toNat) := if_pos hok
    obtain ⟨ht, hK0, hK1, hB0, hB1⟩ := hok
    obtain ⟨K, rfl⟩ : ∃ n : Nat, K = n := ⟨K.toNat, by omega⟩
    obtain ⟨B, rfl⟩ : ∃ n : Nat, B = n := ⟨B.toNat, by omega⟩
    have hok : decide (Dv.ok ty K B) = true := decide_eq_true ⟨ht, hK0, hK1, hB0, hB1⟩
    have hr := fun w => row_any ty K B w ht (by omega) (by omega)
    have e1 : ((K : Int)).toNat = K := by omega
    have e2 : ((B : Int)).toNat = B := by omega
    rw [e1, e2] at hd
    generalize Dv.row ty.toNat K B = f at *
    have HD := Lib.hid hd
    have HR := Lib.hid hr
    clear hd hr ht hK0 hK1 hB0 hB1 e1 e2
    go_enter Try.func9, Try.ntmps9
    go_wp2_with (with_reducible refine wpList_load_row rfl 23 (.tmp 1) rfl w.heap.size rfl 23 (vs ty K B) (0, 0) _ (by rw [heap_alloc_old _ _ (by simp; omega)]; exact heap_alloc2_old _ _ _) Try.underlying23 rfl (info23 _ _ _) ?_)
    refine (hasRow_any ty K B _).mono ?_
    rintro e w1 ⟨rfl, hb1⟩
    rw [hok]
    have hv : w1.heap[w.heap.size]? = some (.cells (vs ty K B) 23 (0, 0)) := by
      rw [hb1.block _ (by simp; omega), heap_alloc_old _ _ (by simp; omega)]; exact heap_alloc2_old _ _ _
    have HB1 := Lib.hid hb1
    have HV := Lib.hid hv
    clear hb1 hv
    go_wp2_with (with_reducible refine wpList_load_row rfl 23 (.tmp 1) rfl w.heap.size rfl 23 (vs ty K B) (0, 0) _ HV.out Try.underlying23 rfl (info23 _ _ _) ?_)
    refine (HR.out _).mono ?_
    rintro e w2 ⟨rfl, hb2⟩
    have hst := Df.start f (HB1.out.mono (by simp)) hb2
    have HST := Lib.hid hst
    have hnew := heap_alloc_new w2 (.cells (ds nought) 48)
    have HN := Lib.hid hnew
    clear hst hb2 HB1 HV hnew
    go_wp2_with (with_reducible refine wpList_store_row rfl 48 (.tmp 4) (.tmp 12) rfl w2.heap.size (ds f) rfl rfl 48 _ HN.out (info85 _) (ds_sizes _ _) (ds_one _) ?_)
    clear HN hz hz5
    generalize hgg : w2.heap.size = g at *
    clear hgg
    go_loopg [5, 6, 13] 80 (fun gk s5 s6 i wr => ∃ n : Nat, n ≤ 80 ∧ gk = 80 - n ∧ i = .int .i64 n ∧ Df w wr g f n)
    case atStart => exact ⟨0, Nat.zero_le _, rfl, rfl, HST.out⟩
    case round =>
      obtain ⟨t, hn, rfl, rfl, hx⟩ := hrel
      clear HST
      by_cases hlt : t < 80
      · have hnx : Dv.diffAt f t = f (t + 5) ^^^ Sh.rot (f (t + 4)) 5 ^^^ f (t + 3) ^^^ Sh.rot (f (t + 2) ^^^ f (t + 1) ^^^ f t) 30 := rfl
        have hm1 : ((t : Nat) : Int) < 80 := by omega
        have hm0 : (0 : Int) ≤ ((t : Nat) : Int) := by omega
        have ct := hx.m.cell hlt
        have cf := hx.m.frozen t
        obtain ⟨I, hI⟩ : ∃ I : Nat, I = t + 5 := ⟨_, rfl⟩
        have e5 : (5 : Int) + (t : Int) = I := by omega
        rw [← hI, show t + 4 = I - 1 by omega, show t + 3 = I - 2 by omega, show t + 2 = I - 3 by omega, show t + 1 = I - 4 by omega, show f t = f (I - 5) by rw [hI]; rfl] at hnx
        have a1 : (0 : Int) ≤ ((I : Nat) : Int) - 1 := by omega
        have b1 : (1 : Int) ≤ ((I : Nat) : Int) := by omega
        have d1 : ((I : Nat) : Int) - 1 < 85 := by omega
        have n1 : (((I : Nat) : Int) - 1).toNat = I - 1 := by omega
        have w1 : IntKind.i64.wrap (((I : Nat) : Int) - 1) = ((I : Nat) : Int) - 1 := IntWalk.i64_in _ (by omega)
        have c1 := hx.at_ (I - 1) (by omega)
        have a2 : (0 : Int) ≤ ((I : Nat) : Int) - 2 := by omega
        have b2 : (2 : Int) ≤ ((I : Nat) : Int) := by omega
        have d2 : ((I : Nat) : Int) - 2 < 85 := by omega
        have n2 : (((I : Nat) : Int) - 2).toNat = I - 2 := by omega
        have w2 : IntKind.i64.wrap (((I : Nat) : Int) - 2) = ((I : Nat) : Int) - 2 := IntWalk.i64_in _ (by omega)
        have c2 := hx.at_ (I - 2) (by omega)
        have a3 : (0 : Int) ≤ ((I : Nat) : Int) - 3 := by omega
        have b3 : (3 : Int) ≤ ((I : Nat) : Int) := by omega
        have d3 : ((I : Nat) : Int) - 3 < 85 := by omega
        have n3 : (((I : Nat) : Int) - 3).toNat = I - 3 := by omega
        have w3 : IntKind.i64.wrap (((I : Nat) : Int) - 3) = ((I : Nat) : Int) - 3 := IntWalk.i64_in _ (by omega)
        have c3 := hx.at_ (I - 3) (by omega)
        have a4 : (0 : Int) ≤ ((I : Nat) : Int) - 4 := by omega
        have b4 : (4 : Int) ≤ ((I : Nat) : Int) := by omega
        have d4 : ((I : Nat) : Int) - 4 < 85 := by omega
        have n4 : (((I : Nat) : Int) - 4).toNat = I - 4 := by omega
        have w4 : IntKind.i64.wrap (((I : Nat) : Int) - 4) = ((I : Nat) : Int) - 4 := IntWalk.i64_in _ (by omega)
        have c4 := hx.at_ (I - 4) (by omega)
        have a5 : (0 : Int) ≤ ((I : Nat) : Int) - 5 := by omega
        have b5 : (5 : Int) ≤ ((I : Nat) : Int) := by omega
        have d5 : ((I : Nat) : Int) - 5 < 85 := by omega
        have n5 : (((I : Nat) : Int) - 5).toNat = I - 5 := by omega
        have w5 : IntKind.i64.wrap (((I : Nat) : Int) - 5) = ((I : Nat) : Int) - 5 := IntWalk.i64_in _ (by omega)
        have c5 := hx.at_ (I - 5) (by omega)
        have h1 : ((I : Nat) : Int) < 85 := by omega
        have h0 : (0 : Int) ≤ ((I : Nat) : Int) := by omega
        have c0 := hx.at_ I (by omega)
        generalize f (I - 1) = x1 at *
        generalize f (I - 2) = x2 at *
        generalize f (I - 3) = x3 at *
        generalize f (I - 4) = x4 at *
        generalize f (I - 5) = x5 at *
        generalize f I = x0 at *
        have HX := Lib.hid hx
        have HNX := Lib.hid hnx
        clear hx hnx hI
        go_wp2_with fail
        refine wp_region_still_tail 32 (by kernel_rfl) (by kernel_rfl) ?_
        simp only [List.take_succ_cons, List.take_zero, List.drop_succ_cons, List.drop_zero]
        change wpStill _ _ (World.drew _) (fun a' => wpList _ _ _ _ a' (World.drew _)) _ _
        iterate 8 still_step
        still_call (flip_ (rotl5 _ _))
        iterate 20 still_step
        still_call (flip_ (rotl30 _ _))
        iterate 2 still_step
        refine wpStill_nil ?_
        go_wp2
        go_roundg (80 - (t + 1))
        case rel => exact ⟨t + 1, by omega, rfl, by go_num, HX.out.drew.put _ HNX.out⟩
        case measure => omega
      · obtain rfl : t = 80 := by omega
        have HW := Lib.hid hx.done
        have HZ := Lib.hid hx.res
        have HB := Lib.hid hx.below
        clear hx
        go_wp2_with (first
          | (with_reducible refine wpList_load_row rfl 32 (.tmp 3) rfl (w.heap.size + 1 + 1) rfl 32 (ws (Dv.diffs f)) (0, 0) _ HW.out Try.underlying32 rfl (info30' _) ?_)
          | (with_reducible refine wpList_store_row rfl 32 (.tmp 2) (.tmp 51) rfl (w.heap.size + 1) (ws (Dv.diffs f)) rfl rfl 32 _ HZ.out (info30' _) (ws_sizes _ _) (Hp.ws_one _) ?_))
        refine bodyPost_ret (results_cell_row Try.results9 _ _ (w.heap.size + 1) 32 (ws (Dv.diffs f)) (0, 0) _ rfl (setRow_heap _ _ _ _ _ _ HZ.out) Try.underlying32 rfl (info30' _)) rfl ⟨by rw [HD.out], ?_⟩
        exact below_setRow HB.out (by omega) _
  · have hd : Dv.diff ty K B = [] := if_neg hok
    have hok : decide (Dv.ok ty K B) = false := decide_eq_false hok
    have HD := Lib.hid hd
    clear hd
    go_enter Try.func9, Try.ntmps9
    go_wp2_with (with_reducible refine wpList_load_row rfl 23 (.tmp 1) rfl w.heap.size rfl 23 (vs ty K B) (0, 0) _ (by rw [heap_alloc_old _ _ (by simp; omega)]; exact heap_alloc2_old _ _ _) Try.underlying23 rfl (info23 _ _ _) ?_)
    refine (hasRow_any ty K B _).mono ?_
    rintro e w1 ⟨rfl, hb1⟩
    rw [hok]
    have hb0 : Below w.heap.size w (((w.alloc (.cells (vs ty K B) 23)).alloc (.cells (ws []) 32)).alloc (.cells (ws []) 32)) := (((Below.refl _ w).alloc (Nat.le_refl _) _).alloc (by simp) _).alloc (by simp; omega) _
    have hb : Below w.heap.size w w1 := hb0.trans (hb1.mono (by simp; omega))
    have hv1 : w1.heap[w.heap.size + 1]? = some (.cells (ws []) 32 (0, 0)) := by
      rw [hb1.block _ (by simp), heap_alloc_old _ _ (by simp)]; exact heap_alloc2_new _ _ _
    have hv2 : w1.heap[w.heap.size + 1 + 1]? = some (.cells (ws []) 32 (0, 0)) := by
      rw [hb1.block _ (by simp)]
      have := heap_alloc_new ((w.alloc (.cells (vs ty K B) 23)).alloc (.cells (ws []) 32)) (.cells (ws []) 32)
      simpa using this
    have HB := Lib.hid hb
    have HZ := Lib.hid hv1
    have HW := Lib.hid hv2
    clear hb1 hv1 hv2 hb hb0
    go_wp2_with (first
      | (with_reducible refine wpList_load_row rfl 32 (.tmp 3) rfl (w.heap.size + 1 + 1) rfl 32 (ws []) (0, 0) _ HW.out Try.underlying32 rfl (info30' _) ?_)
      | (with_reducible refine wpList_store_row rfl 32 (.tmp 2) (.tmp 10) rfl (w.heap.size + 1) (ws []) rfl rfl 32 _ HZ.out (info30' _) (ws_sizes _ _) (Hp.ws_one _) ?_))
    refine bodyPost_ret (results_cell_row Try.results9 _ _ (w.heap.size + 1) 32 (ws []) (0, 0) _ rfl (setRow_heap _ _ _ _ _ _ HZ.out) Try.underlying32 rfl (info30' _)) rfl ⟨by rw [HD.out], ?_⟩
    exact below_setRow HB.out (by omega) _
end Go.Proofs.Ytpffolohkmokhaa.Hd
