/-
  The contract of the program's markedBy (package detect): does a block's sibling end where it does?
-/
import Derived.Test.YtpffolohkmokhaaDm
import Derived.Test.YtpffolohkmokhaaBl
namespace Go.Proofs.Ytpffolohkmokhaa.Hd
open Go.RowKit Hs Hp
set_option linter.unusedVariables false
attribute [local go_sem] t_and t_or t_xor t_not t_add t_sub t_add_wrap t_sub_wrap

/-- the sibling's words so far -/
def sibTo (W M : List UInt32) (n j : Nat) : UInt32 := if j < n then W.getD j 0 ^^^ M.getD j 0 else W.getD j 0
/-- the state of the first loop: the passage, the difference, the words -/
structure Mk (w wr : World) (W M : List UInt32) (S E : Sh.Ch) (n : Nat) : Prop where
  below : Below w.heap.size w wr
  p : wr.heap[w.heap.size]? = some (.cells (ps W S E) 60 (0, 0))
  m : wr.heap[w.heap.size + 1]? = some (.cells (ws M) 32 (0, 0))
  row : wr.rowIs (w.heap.size + 1 + 1) 32 80 (fun j => .int .u32 (tn (sibTo W M n j)))
section
variable {w wr : World} {W M : List UInt32} {S E : Sh.Ch} {n : Nat}
theorem Mk.drew (h : Mk w wr W M S E n) : Mk w wr.drew W M S E n := ⟨h.below.drew, h.p, h.m, h.row⟩
theorem Mk.put (h : Mk w wr W M S E n) (x : UInt32) (hx : W.getD n 0 ^^^ M.getD n 0 = x) : Mk w (wr.setCell ⟨w.heap.size + 1 + 1, n, none⟩ (.int .u32 (tn x))) W M S E (n + 1) := by
  refine ⟨h.below.setCell (by simp; omega) _, by rw [heap_setCell_other _ _ _ _ (by simp; omega)]; exact h.p, by rw [heap_setCell_other _ _ _ _ (by simp)]; exact h.m, (h.row.set n _).congr fun j _ => ?_⟩
  unfold sibTo
  by_cases e : j = n
  · subst e; rw [if_pos rfl, if_pos (by omega), hx]
  · rw [if_neg e]
    by_cases hlt : j < n
    · rw [if_pos hlt, if_pos (by omega)]
    · rw [if_neg hlt, if_neg (by omega)]
theorem sib_get (j : Nat) (h : j < 80) : (Dv.sib W M).getD j 0 = W.getD j 0 ^^^ M.getD j 0 := by simp [Dv.sib, List.getD, h]
theorem Mk.done (h : Mk w wr W M S E 80) : wr.heap[w.heap.size + 1 + 1]? = some (.cells (ws (Dv.sib W M)) 32 (0, 0)) :=
  Hp.ws_row (h.row.congr fun j hj => by rw [sibTo, if_pos hj, sib_get j hj])
theorem Mk.start (w : World) (W M : List UInt32) (S E : Sh.Ch) : Mk w ((((w.alloc (.cells (ps W S E) 60)).alloc (.cells (ws M) 32)).alloc (.cells (ws []) 32)).setRow (w.heap.size + 1 + 1) (ws W)) W M S E 0 := by
  have hnew : (((w.alloc (.cells (ps W S E) 60)).alloc (.cells (ws M) 32)).alloc (.cells (ws []) 32)).heap[w.heap.size + 1 + 1]? = some (.cells (ws []) 32 (0, 0)) := by
    have := heap_alloc_new ((w.alloc (.cells (ps W S E) 60)).alloc (.cells (ws M) 32)) (.cells (ws []) 32)
    simpa using this
  refine ⟨below_setRow ((((Below.refl _ w).alloc (Nat.le_refl _) _).alloc (by simp) _).alloc (by simp; omega) _) (by omega) _, ?_, ?_, ⟨ws W, setRow_heap _ _ (ws []) _ _ _ hnew, ws_size W, fun i hi => ?_⟩⟩
  · rw [setRow_other _ _ _ _ (by omega), heap_alloc_old _ _ (by simp; omega)]; exact heap_alloc2_old _ _ _
  · rw [setRow_other _ _ _ _ (by omega), heap_alloc_old _ _ (by simp)]; exact heap_alloc2_new _ _ _
  · show (ws W)[i]? = some (.int .u32 (tn (sibTo W M 0 i)))
    rw [ws_get W i hi]
    unfold sibTo
    rw [if_neg (by omega)]
end
theorem Mk.new (w : World) (W M : List UInt32) (S E : Sh.Ch) : (((w.alloc (.cells (ps W S E) 60)).alloc (.cells (ws M) 32)).alloc (.cells (ws []) 32)).heap[w.heap.size + 1 + 1]? = some (.cells (ws []) 32 (0, 0)) := by
  have := heap_alloc_new ((w.alloc (.cells (ps W S E) 60)).alloc (.cells (ws M) 32)) (.cells (ws []) 32)
  simpa using this
theorem Mk.first (w : World) (W M : List UInt32) (S E : Sh.Ch) : ((w.alloc (.cells (ps W S E) 60)).alloc (.cells (ws M) 32)).heap[w.heap.size]? = some (.cells (ps W S E) 60 (0, 0)) := heap_alloc2_old _ _ _

/-- the state of the second loop: the passage, the sibling's chain, its end so far -/
structure Me (w wr : World) (a b : Nat) (W : List UInt32) (S E x y : Sh.Ch) (k : Nat) : Prop where
  below : Below w.heap.size w wr
  lo : w.heap.size < a
  mid : a < b
  p : wr.heap[w.heap.size]? = some (.cells (ps W S E) 60 (0, 0))
  ch : wr.rowIs a 40 5 (fun j => .int .u32 (tn (fld x j)))
  en : wr.rowIs b 40 5 (fun j => .int .u32 (tn (if j < k then fld y j + fld x j else fld y j)))
section
variable {w wr : World} {a b k : Nat} {W : List UInt32} {S E x y : Sh.Ch}
theorem Me.drew (h : Me w wr a b W S E x y k) : Me w wr.drew a b W S E x y k := ⟨h.below.drew, h.lo, h.mid, h.p, h.ch, h.en⟩
theorem Me.put (h : Me w wr a b W S E x y k) {v : UInt32} (hv : v = fld y k + fld x k) : Me w (wr.setCell ⟨b, k, none⟩ (.int .u32 (tn v))) a b W S E x y (k + 1) := by
  have hl := h.lo
  have hm := h.mid
  refine ⟨h.below.setCell (by show w.heap.size ≤ b; omega) _, hl, hm, by rw [heap_setCell_other _ _ _ _ (by show w.heap.size ≠ b; omega)]; exact h.p, h.ch.setOther (by show a ≠ b; omega) _, (h.en.set k _).congr fun j _ => ?_⟩
  by_cases e : j = k
  · subst e; rw [if_pos rfl, if_pos (by omega), hv]
  · rw [if_neg e]
    by_cases hlt : j < k
    · rw [if_pos hlt, if_pos (by omega)]
    · rw [if_neg hlt, if_neg (by omega)]
theorem cs_row40 {w : World} {g : Nat} {x : Sh.Ch} (h : w.rowIs g 40 5 (fun j => .int .u32 (tn (fld x j)))) : w.heap[g]? = some (.cells (cs x) 40 (0, 0)) := by
  obtain ⟨c, hb, hn, hc⟩ := h
  rw [hb]
  congr 2
  apply Array.ext_getElem?
  intro i
  by_cases hi : i < 5
  · rw [hc i hi, cs_fld x i hi]
  · rw [Array.getElem?_eq_none (by omega), Array.getElem?_eq_none (by show 5 ≤ i; omega)]
theorem row_cs40 {w : World} {g : Nat} {x : Sh.Ch} (h : w.heap[g]? = some (.cells (cs x) 40 (0, 0))) : w.rowIs g 40 5 (fun j => .int .u32 (tn (fld x j))) := ⟨cs x, h, rfl, fun i hi => cs_fld x i hi⟩
theorem Me.done (h : Me w wr a b W S E x y 5) : wr.heap[b]? = some (.cells (cs (Sh.add y x)) 40 (0, 0)) :=
  cs_row40 (h.en.congr fun j hj => by rw [if_pos hj, fld_add])
end

/-- between the loops: the passage and the sibling's words -/
structure Mf (w wr : World) (W V : List UInt32) (S E : Sh.Ch) : Prop where
  below : Below w.heap.size w wr
  size : w.heap.size + 1 + 1 < wr.heap.size
  p : wr.heap[w.heap.size]? = some (.cells (ps W S E) 60 (0, 0))
  row : wr.heap[w.heap.size + 1 + 1]? = some (.cells (ws V) 32 (0, 0))
section
variable {w wr w1 : World} {W V : List UInt32} {S E : Sh.Ch}
theorem Mf.more (h : Mf w wr W V S E) (hb : Below wr.heap.size wr w1) : Mf w w1 W V S E :=
  have hs := h.size
  ⟨h.below.trans (hb.mono h.below.size), Nat.lt_of_lt_of_le hs hb.size, by rw [hb.block _ (by omega)]; exact h.p, by rw [hb.block _ hs]; exact h.row⟩
theorem Mf.lay (h : Mf w wr W V S E) (o : Obj) (r : Array Value) : Mf w ((wr.alloc o).setRow wr.heap.size r) W V S E :=
  have hs := h.size
  ⟨below_setRow (h.below.alloc h.below.size _) h.below.size _, by simp; omega, by rw [setRow_other _ _ _ _ (by omega), heap_alloc_old _ _ (by omega)]; exact h.p, by rw [setRow_other _ _ _ _ (by omega), heap_alloc_old _ _ hs]; exact h.row⟩
theorem Mf.start (h : Mf w w1 W V S E) {w3 : World} (x y : Sh.Ch) {z : Array Value} (hb : Below ((w1.alloc (.cells z 40)).setRow w1.heap.size (cs x)).heap.size ((w1.alloc (.cells z 40)).setRow w1.heap.size (cs x)) w3) :
    Me w ((w3.alloc (.cells z 40)).setRow w3.heap.size (cs y)) w1.heap.size w3.heap.size W S E x y 0 := by
  have hs := h.size
  have h3 := (h.lay (.cells z 40) (cs x)).more hb
  have hl : w1.heap.size < w3.heap.size := Nat.lt_of_lt_of_le (by simp) hb.size
  refine ⟨(h3.lay _ _).below, by omega, hl, (h3.lay _ _).p, row_cs40 ?_, (row_cs40 (setRow_heap _ _ z _ _ _ (heap_alloc_new _ _))).congr fun j _ => by rw [if_neg (by omega)]⟩
  rw [setRow_other _ _ _ _ (by omega), heap_alloc_old _ _ hl, hb.block _ (by simp)]
  exact setRow_heap _ _ z _ _ _ (heap_alloc_new _ _)
end

set_option maxHeartbeats 4000000 in
set_option maxRecDepth 100000 in
theorem markedBy_any (W M : List UInt32) (S E : Sh.Ch) (w : World) :
    Calls Try.prog 31 #[.agg (ps W S E), .agg (ws M)] w fun e w' => e = .returned (.bool (Dv.hit W S E M)) ∧ Below w.heap.size w w' := by
  have hz := zv30
  have hh : Dv.hit W S E M = Dv.same (Sh.add (Dv.fore (Dv.sib W M) S 58 22) (Dv.rear (Dv.sib W M) S 58 58)) E := rfl
  have HH := Lib.hid hh
  have HST := Lib.hid (Mk.start w W M S E)
  have HN := Lib.hid (Mk.new w W M S E)
  have HF := Lib.hid (load_words (Mk.first w W M S E))
  clear hh
  go_enter Try.func31, Try.ntmps31
  go_wp2_with (first
    | (with_reducible refine wpList_load_sub rfl 32 (.tmp 10) rfl w.heap.size 0 rfl (ws W) HF.out ?_)
    | (with_reducible refine wpList_store_row rfl 32 (.tmp 5) (.tmp 11) rfl (w.heap.size + 1 + 1) (ws W) rfl rfl 32 (ws []) HN.out (info30' _) (ws_sizes _ _) (Hp.ws_one _) ?_))
  clear hz HN HF
  go_loopg [6, 12] 80 (fun g s6 i wr => ∃ n : Nat, n ≤ 80 ∧ g = 80 - n ∧ i = .int .i64 n ∧ Mk w wr W M S E n)
  case atStart => exact ⟨0, Nat.zero_le _, rfl, rfl, HST.out⟩
  case round =>
    obtain ⟨t, hn, rfl, rfl, hx⟩ := hrel
    clear HST
    by_cases hlt : t < 80
    · have h1 : ((t : Nat) : Int) < 80 := by omega
      have h0 : (0 : Int) ≤ ((t : Nat) : Int) := by omega
      have c1 := hx.row.cell hlt
      rw [show sibTo W M t t = W.getD t 0 by rw [sibTo, if_neg (by omega)]] at c1
      have c2 := row_of32 hx.m t hlt
      have cf := hx.row.frozen t
      have hp := fun v => hx.drew.put v
      generalize W.getD t 0 = a at *
      generalize M.getD t 0 = b at *
      have HX := Lib.hid hp
      clear hx hp
      go_wp2_with fail
      refine wp_region_still_tail 8 (by kernel_rfl) (by kernel_rfl) ?_
      simp only [List.take_succ_cons, List.take_zero, List.drop_succ_cons, List.drop_zero]
      change wpStill _ _ (World.drew _) (fun a' => wpList _ _ _ _ a' (World.drew _)) _ _
      iterate 8 still_step
      refine wpStill_nil ?_
      go_wp2
      go_roundg (80 - (t + 1))
      case rel => exact ⟨t + 1, by omega, rfl, by go_num, HX.out _ rfl⟩
      case measure => omega
    · obtain rfl : t = 80 := by omega
      have HW := Lib.hid hx.done
      have HP := Lib.hid hx.p
      have HM := Lib.hid (load_mid hx.p)
      have HBW := Lib.hid hx.below
      have hsz : w.heap.size + 1 + 1 < wr.heap.size := hx.row.lt
      clear hx
      go_wp2_with (first
        | (with_reducible refine wpList_load_sub rfl 40 (.tmp 24) rfl w.heap.size 80 rfl (cs S) HM.out ?_)
        | (with_reducible refine wpList_load_row rfl 32 (.tmp 5) rfl (w.heap.size + 1 + 1) rfl 32 (ws (Dv.sib W M)) (0, 0) _ HW.out Try.underlying32 rfl (info30' _) ?_))
      generalize Dv.sib W M = V at *
      have hf : Mf w wr W V S E := ⟨HBW.out, hsz, HP.out, HW.out⟩
      clear HBW hsz HP HW HM
      refine (back58 S V _).mono ?_
      rintro e w1 ⟨rfl, hb1⟩
      generalize Dv.rear V S 58 58 = X at *
      have hf1 := hf.more hb1
      have hf2 := hf1.lay (.cells #[.int .u32 0, .int .u32 0, .int .u32 0, .int .u32 0, .int .u32 0] 40) (cs X)
      have HN := Lib.hid (heap_alloc_new w1 (.cells #[.int .u32 0, .int .u32 0, .int .u32 0, .int .u32 0, .int .u32 0] 40))
      have HM := Lib.hid (load_mid hf2.p)
      have HW := Lib.hid hf2.row
      have HF := Lib.hid hf1
      clear hb1 hf hf1 hf2
      go_wp2_with (first
        | (with_reducible refine wpList_store_row rfl 40 (.tmp 7) (.tmp 27) rfl w1.heap.size (cs X) rfl rfl 40 _ HN.out (info28c _) (zero_size _) (cs_one _) ?_)
        | (with_reducible refine wpList_load_sub rfl 40 (.tmp 28) rfl w.heap.size 80 rfl (cs S) HM.out ?_)
        | (with_reducible refine wpList_load_row rfl 32 (.tmp 5) rfl (w.heap.size + 1 + 1) rfl 32 (ws V) (0, 0) _ HW.out Try.underlying32 rfl (info30' _) ?_))
      clear HN HM HW
      refine (ahead58 S V _).mono ?_
      rintro e w3 ⟨rfl, hb3⟩
      generalize Dv.fore V S 58 22 = Y at *
      have HST := Lib.hid (HF.out.start X Y hb3)
      have HN := Lib.hid (heap_alloc_new w3 (.cells #[.int .u32 0, .int .u32 0, .int .u32 0, .int .u32 0, .int .u32 0] 40))
      clear hb3 HF
      go_wp2_with (with_reducible refine wpList_store_row rfl 40 (.tmp 8) (.tmp 31) rfl w3.heap.size (cs Y) rfl rfl 40 _ HN.out (info28c _) (zero_size _) (cs_one _) ?_)
      clear HN
      generalize w1.heap.size = A at *
      generalize w3.heap.size = B at *
      go_loopg [9, 32] 5 (fun g s9 i wr => ∃ n : Nat, n ≤ 5 ∧ g = 5 - n ∧ i = .int .i64 n ∧ Me w wr A B W S E X Y n)
      case atStart => exact ⟨0, Nat.zero_le _, rfl, rfl, HST.out⟩
      case round =>
        obtain ⟨t, hn, rfl, rfl, hx⟩ := hrel
        clear HST
        by_cases hlt : t < 5
        · have h1 : ((t : Nat) : Int) < 5 := by omega
          have h0 : (0 : Int) ≤ ((t : Nat) : Int) := by omega
          have c1 := hx.en.cell hlt
          rw [if_neg (by omega)] at c1
          have c2 := hx.ch.cell hlt
          have cf := hx.en.frozen t
          have hp := fun v => hx.drew.put (v := v)
          generalize fld X t = a at *
          generalize fld Y t = b at *
          have HX := Lib.hid hp
          clear hx hp
          go_wp2_with fail
          refine wp_region_still_tail 8 (by kernel_rfl) (by kernel_rfl) ?_
          simp only [List.take_succ_cons, List.take_zero, List.drop_succ_cons, List.drop_zero]
          change wpStill _ _ (World.drew _) (fun a' => wpList _ _ _ _ a' (World.drew _)) _ _
          iterate 8 still_step
          refine wpStill_nil ?_
          go_wp2
          go_roundg (5 - (t + 1))
          case rel => exact ⟨t + 1, by omega, rfl, by go_num, HX.out _ rfl⟩
          case measure => omega
        · obtain rfl : t = 5 := by omega
          have HM := Lib.hid (load_end hx.p)
          have HW := Lib.hid hx.done
          have HBW := Lib.hid hx.below
          clear hx
          go_wp2_with (first
            | (with_reducible refine wpList_load_row rfl 40 (.tmp 8) rfl B rfl 40 (cs (Sh.add Y X)) (0, 0) _ HW.out Try.underlying40 rfl (info28c _) ?_)
            | (with_reducible refine wpList_load_sub rfl 40 (.tmp 45) rfl w.heap.size 85 rfl (cs E) HM.out ?_)
            | (with_reducible refine wpList_eq_op rfl .eql (Or.inl rfl) 40 40 (.tmp 44) (.tmp 46) rfl (cs (Sh.add Y X)) (cs E) rfl rfl guard28 _ (eql_chain _ _ _) ?_))
          go_ret
          exact ⟨by rw [HH.out]; rfl, HBW.out⟩
end Go.Proofs.Ytpffolohkmokhaa.Hd
