/-
  The contract of the document's Press (layer 2): the chain behind a block.
-/
import Derived.Test.YtpffolohkmokhaaShc
namespace Go.Proofs.Ytpffolohkmokhaa.Hs
open Go.RowKit
set_option linter.unusedVariables false
attribute [local go_sem] t_and t_or t_xor t_not t_add t_sub t_add_wrap t_sub_wrap

theorem info27 (x : Sh.Ch) : (Try.prog.info? 36).map (·.size) = some (cs x).size := by
  have : (Try.prog.info? 36).map (·.size) = some 5 := by kernel_rfl
  rw [this]; rfl
theorem zero_size (x : Sh.Ch) : (#[.int .u32 0, .int .u32 0, .int .u32 0, .int .u32 0, .int .u32 0] : Array Value).size = (cs x).size := rfl
theorem cs_one (x : Sh.Ch) : (cs x).all (·.oneCell') = true := by simp [cs, Value.oneCell']
theorem ws_one (l : List UInt32) : (ws l).all (·.oneCell') = true := by simp [ws, Value.oneCell']
theorem info29w (l : List UInt32) : (Try.prog.info? 31).map (·.size) = some (ws l).size := by rw [ws_size]; exact info29
theorem row_of {w : World} {g : Nat} {l : List UInt32} (h : w.heap[g]? = some (.cells (ws l) 31 (0, 0))) (j : Nat) (hj : j < 80) : w.cell? ⟨g, j, none⟩ = some (.int .u32 (tn (l.getD j 0))) := by
  rw [cell_of_row w g j _ _ _ h]; simp [ws, hj]

/-- the state of Press: the chain, the result's row, the words, the letters -/
structure Pr (w wr : World) (g : Nat) (c x : Sh.Ch) (W : List UInt32) : Prop where
  below : Below w.heap.size w wr
  lo : w.heap.size + 1 < g
  size : g + 1 < wr.heap.size
  ch : wr.heap[w.heap.size]? = some (.cells (cs c) 36 (0, 0))
  res : wr.heap[w.heap.size + 1]? = some (.cells (cs ⟨0, 0, 0, 0, 0⟩) 36 (0, 0))
  wd : wr.heap[g]? = some (.cells (ws W) 31 (0, 0))
  lt : wr.heap[g + 1]? = some (.cells (cs x) 36 (0, 0))
theorem Pr.step {w wr w1 : World} {g : Nat} {c x : Sh.Ch} {W : List UInt32} (h : Pr w wr g c x W) (hb : Below wr.heap.size wr.drew w1) (y : Sh.Ch) : Pr w (w1.setRow (g + 1) (cs y)) g c y W := by
  have hl := h.lo
  have hs := h.size
  have hsz : wr.heap.size ≤ w1.heap.size := hb.size
  refine ⟨below_setRow (h.below.drew.trans (hb.mono h.below.size)) (by omega) _, h.lo, by simpa using Nat.lt_of_lt_of_le hs hsz, ?_, ?_, ?_, ?_⟩
  · rw [setRow_other _ _ _ _ (by omega), hb.block _ (by omega)]; exact h.ch
  · rw [setRow_other _ _ _ _ (by omega), hb.block _ (by omega)]; exact h.res
  · rw [setRow_other _ _ _ _ (by omega), hb.block _ (by omega)]; exact h.wd
  · exact setRow_heap _ _ (cs x) _ _ _ (by rw [hb.block _ hs]; exact h.lt)
theorem cs_zero : (#[.int .u32 0, .int .u32 0, .int .u32 0, .int .u32 0, .int .u32 0] : Array Value) = cs ⟨0, 0, 0, 0, 0⟩ := by kernel_rfl
/-- behind Expand, and the two stores -/
theorem Pr.start {w w1 : World} (c : Sh.Ch) (W : List UInt32) (hb : Below (w.heap.size + 1 + 1) ((w.alloc (.cells (cs c) 36)).alloc (.cells #[.int .u32 0, .int .u32 0, .int .u32 0, .int .u32 0, .int .u32 0] 36)) w1) :
    Pr w ((((w1.alloc (.cells (ws []) 31)).setRow w1.heap.size (ws W)).alloc (.cells #[.int .u32 0, .int .u32 0, .int .u32 0, .int .u32 0, .int .u32 0] 36)).setRow (w1.heap.size + 1) (cs c)) w1.heap.size c c W := by
  have hsz := hb.size
  simp at hsz
  have hbw : Below w.heap.size w w1 := Below.trans (((Below.refl _ w).alloc (Nat.le_refl _) _).alloc (by simp) _) (hb.mono (by omega))
  have e1 : ((w1.alloc (.cells (ws []) 31)).setRow w1.heap.size (ws W)).heap.size = w1.heap.size + 1 := by simp
  have hnew := heap_alloc_new ((w1.alloc (.cells (ws []) 31)).setRow w1.heap.size (ws W)) (.cells #[.int .u32 0, .int .u32 0, .int .u32 0, .int .u32 0, .int .u32 0] 36)
  rw [e1] at hnew
  have hold : ∀ k, k ≤ w1.heap.size → (((w1.alloc (.cells (ws []) 31)).setRow w1.heap.size (ws W)).alloc (.cells #[.int .u32 0, .int .u32 0, .int .u32 0, .int .u32 0, .int .u32 0] 36)).heap[k]? = ((w1.alloc (.cells (ws []) 31)).setRow w1.heap.size (ws W)).heap[k]? := fun k hk => heap_alloc_old _ _ (by rw [e1]; omega)
  have hold2 : ∀ k, k < w1.heap.size → (((w1.alloc (.cells (ws []) 31)).setRow w1.heap.size (ws W)).alloc (.cells #[.int .u32 0, .int .u32 0, .int .u32 0, .int .u32 0, .int .u32 0] 36)).heap[k]? = w1.heap[k]? := fun k hk => by
    rw [hold k (by omega), setRow_other _ _ _ _ (by omega), heap_alloc_old _ _ hk]
  refine ⟨below_setRow (Below.alloc (below_setRow (hbw.alloc hbw.size _) hbw.size _) (by rw [e1]; have := hbw.size; omega) _) (by have := hbw.size; omega) _, by omega, by simp, ?_, ?_, ?_, ?_⟩
  · rw [setRow_other _ _ _ _ (by omega), hold2 _ (by omega), hb.block _ (by omega), heap_alloc2_old]
  · rw [setRow_other _ _ _ _ (by omega), hold2 _ (by omega), hb.block _ (by omega), heap_alloc2_new, cs_zero]
  · rw [setRow_other _ _ _ _ (by omega), hold _ (Nat.le_refl _)]
    exact setRow_heap _ _ (ws []) _ _ _ (heap_alloc_new _ _)
  · exact setRow_heap _ _ _ _ _ _ hnew

/-- a chain's word at a place -/
def fld (x : Sh.Ch) (j : Nat) : UInt32 := if j = 0 then x.a else if j = 1 then x.b else if j = 2 then x.c else if j = 3 then x.d else x.e
theorem cs_fld (x : Sh.Ch) (j : Nat) (h : j < 5) : (cs x)[j]? = some (.int .u32 (tn (fld x j))) := by
  match j, h with
  | 0, _ => rfl
  | 1, _ => rfl
  | 2, _ => rfl
  | 3, _ => rfl
  | 4, _ => rfl
theorem cs_sizes (x y : Sh.Ch) : (cs x).size = (cs y).size := rfl
theorem row_cs {w : World} {g : Nat} {x : Sh.Ch} (h : w.heap[g]? = some (.cells (cs x) 36 (0, 0))) : w.rowIs g 36 5 (fun j => .int .u32 (tn (fld x j))) := ⟨cs x, h, rfl, fun i hi => cs_fld x i hi⟩
theorem cs_row {w : World} {g : Nat} {x : Sh.Ch} (h : w.rowIs g 36 5 (fun j => .int .u32 (tn (fld x j)))) : w.heap[g]? = some (.cells (cs x) 36 (0, 0)) := by
  obtain ⟨c, hb, hn, hc⟩ := h
  rw [hb]
  congr 2
  apply Array.ext_getElem?
  intro i
  by_cases hi : i < 5
  · rw [hc i hi, cs_fld x i hi]
  · rw [Array.getElem?_eq_none (by omega), Array.getElem?_eq_none (by show 5 ≤ i; omega)]
theorem fld_add (c x : Sh.Ch) (j : Nat) : fld (Sh.add c x) j = fld c j + fld x j := by
  unfold fld Sh.add
  repeat' split
  all_goals rfl
/-- k words of the chain are the sums -/
structure Ad (w wr : World) (g : Nat) (c x : Sh.Ch) (k : Nat) : Prop where
  below : Below w.heap.size w wr
  lo : w.heap.size + 1 < g
  ch : wr.rowIs w.heap.size 36 5 (fun j => .int .u32 (tn (if j < k then fld c j + fld x j else fld c j)))
  res : wr.heap[w.heap.size + 1]? = some (.cells (cs ⟨0, 0, 0, 0, 0⟩) 36 (0, 0))
  lt : wr.rowIs (g + 1) 36 5 (fun j => .int .u32 (tn (fld x j)))
section
variable {w wr : World} {g k : Nat} {c x : Sh.Ch} {W : List UInt32}
theorem Pr.begin_ (h : Pr w wr g c x W) : Ad w wr g c x 0 := ⟨h.below, h.lo, (row_cs h.ch).congr fun j _ => by rw [if_neg (by omega)], h.res, row_cs h.lt⟩
theorem Ad.put (h : Ad w wr g c x k) (hk : k < 5) {y : UInt32} (hy : y = fld c k + fld x k) : Ad w (wr.setCell ⟨w.heap.size, k, none⟩ (.int .u32 (tn y))) g c x (k + 1) := by
  have hl := h.lo
  refine ⟨h.below.setCell (Nat.le_refl _) _, h.lo, (h.ch.set k _).congr fun j _ => ?_, ?_, h.lt.setOther (by show g + 1 ≠ w.heap.size; omega) _⟩
  · by_cases e : j = k
    · subst e; rw [if_pos rfl, if_pos (by omega), hy]
    · rw [if_neg e]
      by_cases hlt : j < k
      · rw [if_pos hlt, if_pos (by omega)]
      · rw [if_neg hlt, if_neg (by omega)]
  · rw [heap_setCell_other _ _ _ _ (by simp)]; exact h.res
theorem Ad.drew (h : Ad w wr g c x k) : Ad w wr.drew g c x k := ⟨h.below.drew, h.lo, h.ch, h.res, h.lt⟩
theorem Ad.done (h : Ad w wr g c x 5) : wr.heap[w.heap.size]? = some (.cells (cs (Sh.add c x)) 36 (0, 0)) :=
  cs_row (h.ch.congr fun j hj => by rw [if_pos hj, fld_add])
end

set_option maxHeartbeats 2000000 in
set_option maxRecDepth 100000 in
theorem rpress_any (c : Sh.Ch) (s : ByteArray) (w : World) (hs : s.size ≤ 100000) :
    Calls Try.prog 29 #[.agg (cs c), .string s] w fun e w' => e = .returned (.agg (cs (Sh.press c s.data.toList))) ∧ Below w.heap.size w w' := by
  have hz := zv29
  go_enter Try.func29, Try.ntmps29
  go_wp2_with fail
  refine (rexpand_any _ _ hs).mono ?_
  rintro e w1 ⟨rfl, hb1⟩
  have hst := Pr.start c (Sh.words s.data.toList) (hb1.mono (by simp))
  have HST := Lib.hid hst
  have hz1 := hb1.size
  simp at hz1
  have hch : w1.heap[w.heap.size]? = some (.cells (cs c) 36 (0, 0)) := by rw [hb1.block _ (by simp; omega), heap_alloc2_old]
  have HCH := Lib.hid hch
  have hnew := heap_alloc_new ((w1.alloc (.cells (ws []) 31)).setRow w1.heap.size (ws (Sh.words s.data.toList))) (.cells #[.int .u32 0, .int .u32 0, .int .u32 0, .int .u32 0, .int .u32 0] 36)
  rw [show ((w1.alloc (.cells (ws []) 31)).setRow w1.heap.size (ws (Sh.words s.data.toList))).heap.size = w1.heap.size + 1 by simp] at hnew
  have HNEW := Lib.hid hnew
  clear hnew
  clear hst hb1 hch
  go_wp2_with (first
    | (with_reducible refine wpList_store_row rfl 31 (.tmp 5) (.tmp 10) rfl w1.heap.size _ rfl rfl 31 (ws []) (heap_alloc_new _ _) (info29w _) (by rw [ws_size, ws_size]) (ws_one _) ?_)
    | (with_reducible refine wpList_load_row rfl 36 (.tmp 2) rfl w.heap.size rfl 36 (cs c) (0, 0) _ (by rw [setRow_other _ _ _ _ (by omega), heap_alloc_old _ _ (by omega)]; exact HCH.out) Try.underlying36 rfl (info27 c) ?_)
    | (with_reducible refine wpList_store_row rfl 36 (.tmp 6) (.tmp 11) rfl (w1.heap.size + 1) _ rfl rfl 36 _ HNEW.out (info27 c) (zero_size c) (cs_one c) ?_))
  clear hz HCH HNEW
  generalize hgg : w1.heap.size = g at *
  clear hgg
  go_loopg [7] 80 (fun gk i wr => ∃ t : Nat, t ≤ 80 ∧ gk = 80 - t ∧ i = .int .i64 t ∧ Pr w wr g c (Sh.stepsTo s.data.toList c t) (Sh.words s.data.toList))
  case atStart => exact ⟨0, Nat.zero_le _, rfl, rfl, HST.out⟩
  case round =>
    obtain ⟨t, ht, rfl, rfl, hpr⟩ := hrel
    clear HST
    by_cases hlt : t < 80
    · have h1 : (t : Int) < 80 := by omega
      have h0 : (0 : Int) ≤ t := by omega
      have hnx : Sh.stepsTo s.data.toList c (t + 1) = Sh.step (Sh.stepsTo s.data.toList c t) t ((Sh.words s.data.toList).getD t 0) := rfl
      have hcell := row_of hpr.wd t hlt
      generalize Sh.stepsTo s.data.toList c t = X at *
      generalize Sh.words s.data.toList = W at *
      generalize W.getD t 0 = v at *
      have HNX := Lib.hid hnx
      have HP := Lib.hid hpr
      clear hnx hpr
      go_wp2_with fail
      refine wp_region_any (by kernel_rfl) ?_
      change wpAny _ _ _ _ _ _ _ (World.drew _)
      refine wpAny_take (i := 1) (v := .int .i64 t) rfl (by kernel_rfl) (by kernel_rfl) (by kernel_rfl) (fun _ _ _ h => h) (Or.inl ⟨by rfl, fun w => by go_simp⟩) ?_
      go_simp
      refine wpAny_take (i := 2) (v := .int .i64 t) rfl (by kernel_rfl) (by kernel_rfl) (by kernel_rfl) (fun _ _ _ h => h) (Or.inl ⟨by rfl, fun w => by go_simp⟩) ?_
      go_simp
      refine wpAny_take (i := 3) (v := .pointer (some ⟨g, t, none⟩)) rfl (by kernel_rfl) (by kernel_rfl) (by kernel_rfl) (fun _ _ _ h => h) (Or.inl ⟨by rfl, fun w => by go_simp⟩) ?_
      go_simp
      refine wpAny_ready (rs := [0, 4]) (by kernel_rfl) (by simp) ?_
      refine AllReady.cons rfl (fun K hK => ?_) (AllReady.cons rfl (fun K hK => ?_) AllReady.nil)
      · rw [if_pos (by rfl)]
        refine wp_load_row 36 (.tmp 6) rfl (g + 1) rfl 36 (cs X) (0, 0) _ HP.out.lt Try.underlying36 rfl (info27 X) ?_
        refine hK _ _ ?_
        clear hK K
        go_simp
        refine wpAny_ready (rs := [4]) (by kernel_rfl) (by simp) ?_
        refine AllReady.cons rfl (fun K hK => ?_) AllReady.nil
        go_simp
        refine hK _ _ ?_
        clear hK K
        refine wpAny_ready (rs := [5]) (by kernel_rfl) (by simp) ?_
        refine AllReady.cons rfl (fun K hK => ?_) AllReady.nil
        go_simp
        refine (rstep_any X t v _).mono ?_
        rintro e w2 ⟨rfl, hb2⟩
        refine hK _ _ ?_
        clear hK K
        refine wpAny_ready (rs := [6]) (by kernel_rfl) (by simp) ?_
        refine AllReady.cons rfl (fun K hK => ?_) AllReady.nil
        rw [if_pos (by rfl)]
        refine wp_store_row 36 (.tmp 6) (.tmp 21) rfl (g + 1) _ rfl rfl 36 (cs X) (by rw [hb2.block _ HP.out.size]; exact HP.out.lt) (info27 _) rfl (cs_one _) ?_
        refine hK _ _ ?_
        clear hK K
        go_simp
        refine wpAny_done (by kernel_rfl) ?_ _
        go_wp2
        go_roundg (80 - (t + 1))
        case rel => exact ⟨t + 1, by omega, rfl, by go_num, by rw [HNX.out]; exact HP.out.step hb2 _⟩
        case measure => omega
      · go_simp
        refine hK _ _ ?_
        clear hK K
        refine wpAny_ready (rs := [0]) (by kernel_rfl) (by simp) ?_
        refine AllReady.cons rfl (fun K hK => ?_) AllReady.nil
        rw [if_pos (by rfl)]
        refine wp_load_row 36 (.tmp 6) rfl (g + 1) rfl 36 (cs X) (0, 0) _ HP.out.lt Try.underlying36 rfl (info27 X) ?_
        refine hK _ _ ?_
        clear hK K
        go_simp
        refine wpAny_ready (rs := [5]) (by kernel_rfl) (by simp) ?_
        refine AllReady.cons rfl (fun K hK => ?_) AllReady.nil
        go_simp
        refine (rstep_any X t v _).mono ?_
        rintro e w2 ⟨rfl, hb2⟩
        refine hK _ _ ?_
        clear hK K
        refine wpAny_ready (rs := [6]) (by kernel_rfl) (by simp) ?_
        refine AllReady.cons rfl (fun K hK => ?_) AllReady.nil
        rw [if_pos (by rfl)]
        refine wp_store_row 36 (.tmp 6) (.tmp 21) rfl (g + 1) _ rfl rfl 36 (cs X) (by rw [hb2.block _ HP.out.size]; exact HP.out.lt) (info27 _) rfl (cs_one _) ?_
        refine hK _ _ ?_
        clear hK K
        go_simp
        refine wpAny_done (by kernel_rfl) ?_ _
        go_wp2
        go_roundg (80 - (t + 1))
        case rel => exact ⟨t + 1, by omega, rfl, by go_num, by rw [HNX.out]; exact HP.out.step hb2 _⟩
        case measure => omega
    · obtain rfl : t = 80 := by omega
      have hfin : Sh.press c s.data.toList = Sh.add c (Sh.stepsTo s.data.toList c 80) := rfl
      generalize Sh.stepsTo s.data.toList c 80 = X at *
      have HF := Lib.hid hfin
      have hp2 := hpr.begin_
      have HP := Lib.hid hp2
      clear hfin hpr hp2
      go_wp2
      go_loopg [8] 5 (fun gk i wx => ∃ k : Nat, k ≤ 5 ∧ gk = 5 - k ∧ i = .int .i64 k ∧ Ad w wx g c X k)
      case atStart => exact ⟨0, Nat.zero_le _, rfl, rfl, HP.out⟩
      case round =>
        obtain ⟨k, hk, rfl, rfl, had⟩ := hrel
        clear HP
        by_cases hlt : k < 5
        · have h1 : (k : Int) < 5 := by omega
          have h0 : (0 : Int) ≤ k := by omega
          have hc1 : wr.cell? ⟨w.heap.size, k, none⟩ = some (.int .u32 (tn (fld c k))) := by rw [had.ch.cell hlt, if_neg (by omega)]
          have hc2 : wr.cell? ⟨g + 1, k, none⟩ = some (.int .u32 (tn (fld X k))) := had.lt.cell hlt
          have hf := had.ch.frozen k
          have HA := Lib.hid had
          clear had
          generalize hcv : fld c k = cv at *
          generalize hxv : fld X k = xv at *
          have HCV := Lib.hid hcv
          have HXV := Lib.hid hxv
          clear hcv hxv
          go_wp2_with fail
          go_region
          go_wp2
          go_roundg (5 - (k + 1))
          case rel => exact ⟨k + 1, by omega, rfl, by go_num, (HA.out.put hlt (by rw [HCV.out, HXV.out])).drew⟩
          case measure => omega
        · obtain rfl : k = 5 := by omega
          have hrow := had.done
          have hres := had.res
          have hbl := had.below
          have HR := Lib.hid hrow
          have HZ := Lib.hid hres
          clear had hrow hres
          go_wp2_with (first
            | (with_reducible refine wpList_load_row rfl 36 (.tmp 2) rfl w.heap.size rfl 36 (cs (Sh.add c X)) (0, 0) _ HR.out Try.underlying36 rfl (info27 _) ?_)
            | (with_reducible refine wpList_store_row rfl 36 (.tmp 4) (.tmp 35) rfl (w.heap.size + 1) (cs (Sh.add c X)) rfl rfl 36 _ HZ.out (info27 _) (cs_sizes _ _) (cs_one _) ?_))
          refine bodyPost_ret (results_cell_row Try.results29 _ _ (w.heap.size + 1) 36 (cs (Sh.add c X)) (0, 0) _ rfl (setRow_heap _ _ _ _ _ _ HZ.out) Try.underlying36 rfl (info27 _)) rfl ⟨by rw [HF.out], ?_⟩
          exact below_setRow hbl (by omega) _
end Go.Proofs.Ytpffolohkmokhaa.Hs
