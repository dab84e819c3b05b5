/-
  The contract of the program's differences (package detect): the 21 differences lie in one row.
-/
import Derived.Test.YtpffolohkmokhaaDo
import Derived.Test.YtpffolohkmokhaaDp
import Derived.Laws.MakeOwn
namespace Go.Proofs.Ytpffolohkmokhaa.Hd
open Go.RowKit Hs Hp
set_option linter.unusedVariables false

/-- the differences lie in a block -/
def Ds (w : World) (g : Nat) : Prop := ∀ i j, i < 21 → j < 80 → w.cell? ⟨g, 80 * i + j, none⟩ = some (.int .u32 (tn ((Dv.vdiff i).getD j 0)))
theorem Ds.below {w w' : World} {g B : Nat} (h : Ds w g) (hb : Below B w w') (hg : g < B) : Ds w' g := fun i j hi hj => by rw [hb.cell (p := ⟨g, 80 * i + j, none⟩) hg]; exact h i j hi hj
theorem Ds.load {w : World} {g : Nat} (h : Ds w g) (i : Nat) (hi : i < 21) : (loadVar 32 ⟨g, i * 80, none⟩).run Try.prog w = .ok (.agg (ws (Dv.vdiff i))) w :=
  run_loadVar_sub w g (i * 80) _ _ _ (fun j v hv => by
    have hj : j < 80 := by have := (Array.getElem?_eq_some_iff.1 hv).1; rwa [ws_size] at this
    rw [Nat.mul_comm i 80, h i j hi hj, ← hv, ws_get _ j hj]) Try.underlying32 rfl (info30' _)
theorem make21 (w : World) : (Instr.makeSlice 55 (.int .i64 21) (.int .i64 21)).run Try.prog w = .ok (.slice (some ⟨w.heap.size, 0, none⟩) 21 21) (w.alloc (.cells (madeCells (ws []) 1680) 32)) := by
  have hinf : (Try.prog.info? 32).map (fun i => (i.zero, i.size, i.bytes)) = some (some (.agg (ws [])), 80, 320) := by kernel_rfl
  cases hq : Try.prog.info? 32 with
  | none => simp [hq] at hinf
  | some i =>
    simp [hq] at hinf
    obtain ⟨hz, hs, hb⟩ := hinf
    have hr := run_make (P := Try.prog) w 55 32 i _ Try.underlying55 hq hz .i64 .i64 21 21 (by omega) (Int.le_refl _) (by rw [hb]; decide) (by omega)
    rw [hs] at hr
    exact hr
theorem vs_zero (ty K B : Int) : (#[.int .i64 0, .int .i64 0, .int .i64 0] : Array Value).size = (vs ty K B).size := rfl
theorem vs_one (ty K B : Int) : (vs ty K B).all (·.oneCell') = true := by simp [vs, Value.oneCell']

/-- the state of differences: the vectors, n differences -/
structure Di (w wr : World) (g G n : Nat) : Prop where
  below : Below w.heap.size w wr
  lo : w.heap.size ≤ g
  mid : g < G
  vl : Vl wr g
  row : ∃ cur, wr.heap[G]? = some (.cells cur 32 (0, 0)) ∧ cur.size = 1680 ∧ ∀ i j, i < n → j < 80 → cur[80 * i + j]? = some (.int .u32 (tn ((Dv.vdiff i).getD j 0)))
section
variable {w wr w1 : World} {g G n : Nat}
theorem Di.lt (h : Di w wr g G n) : G < wr.heap.size := by
  obtain ⟨cur, hg, _⟩ := h.row
  exact (Array.getElem?_eq_some_iff.1 hg).1
theorem Di.lay (h : Di w wr g G n) (o : Obj) (r : Array Value) : Di w ((wr.alloc o).setRow wr.heap.size r) g G n := by
  have hl := h.lt
  have hm := h.mid
  obtain ⟨cur, hg, hrest⟩ := h.row
  have hb : ((wr.alloc o).setRow wr.heap.size r).heap[G]? = wr.heap[G]? := by rw [setRow_other _ _ _ _ (by omega), heap_alloc_old _ _ hl]
  refine ⟨below_setRow (h.below.alloc h.below.size _) h.below.size _, h.lo, hm, h.vl.below (B := wr.heap.size) (below_setRow ((Below.refl _ wr).alloc (Nat.le_refl _) _) (Nat.le_refl _) _) (by omega), cur, hb.trans hg, hrest⟩
theorem Di.more (h : Di w wr g G n) (hb : Below wr.heap.size wr w1) : Di w w1 g G n := by
  have hl := h.lt
  have hm := h.mid
  obtain ⟨cur, hg, hrest⟩ := h.row
  exact ⟨h.below.trans (hb.mono h.below.size), h.lo, hm, h.vl.below hb (by omega), cur, (hb.block _ hl).trans hg, hrest⟩
theorem Di.put (h : Di w wr g G n) (hn : n < 21) : ∃ w', (storeVar 32 ⟨G, n * 80, none⟩ (.agg (ws (Dv.vdiff n)))).run Try.prog wr = .ok () w' ∧ Di w w' g G (n + 1) := by
  have hl := h.lo
  have hm := h.mid
  obtain ⟨cur, hg, hs, hc⟩ := h.row
  have hz : (ws (Dv.vdiff n)).size = 80 := ws_size _
  rw [Nat.mul_comm n 80]
  refine ⟨_, run_storeVar_sub wr G (80 * n) _ _ cur (ws (Dv.vdiff n)) hg (info30' _) (by omega) (Hp.ws_one _), below_setRow h.below (by omega) _, hl, hm, h.vl.below (B := G) (below_setRow (Below.refl _ wr) (Nat.le_refl _) _) (by omega), _, setRow_heap _ _ cur _ _ _ hg, ?_, fun i j hi hj => ?_⟩
  · simp [hz, hs]; omega
  · rw [List.getElem?_toArray]
    by_cases hin : i < n
    · rw [List.append_assoc, List.getElem?_append_left (by simp [hs]; omega), List.getElem?_take_of_lt (by omega), Array.getElem?_toList]
      exact hc i j hin hj
    · obtain rfl : i = n := by omega
      rw [List.append_assoc, List.getElem?_append_right (by simp [hs]; omega), List.getElem?_append_left (by simp [hz, hs]; omega), Array.getElem?_toList,
        show 80 * i + j - (cur.toList.take (80 * i)).length = j by simp [hs]; omega, ws_get _ j hj]
theorem Di.start (hb : Below w.heap.size w w1) (h1 : w.heap.size ≤ g) (h2 : g < w1.heap.size) (h3 : Vl w1 g) (c : Array Value) (hc : c.size = 1680) : Di w (w1.alloc (.cells c 32)) g w1.heap.size 0 :=
  ⟨hb.alloc hb.size _, h1, h2, h3.below ((Below.refl _ w1).alloc (Nat.le_refl _) _) h2, c, heap_alloc_new _ _, hc, fun i j hi => by omega⟩
theorem Di.done (h : Di w wr g G 21) : Ds wr G := fun i j hi hj => by
  obtain ⟨cur, hg, _, hc⟩ := h.row
  rw [cell_of_row wr G _ cur _ _ hg]
  exact hc i j hi hj
end

set_option maxHeartbeats 2000000 in
set_option maxRecDepth 100000 in
theorem differences_any (w : World) : Calls Try.prog 26 #[] w fun e w' => ∃ g, e = .returned (.slice (some ⟨g, 0, none⟩) 21 21) ∧ w.heap.size ≤ g ∧ g < w'.heap.size ∧ Ds w' g ∧ Below w.heap.size w w' := by
  have hmk := make21
  go_enter Try.func26, Try.ntmps26
  go_wp2_with fail
  refine (vectors_any _).mono ?_
  rintro e w1 ⟨g, cap, rfl, h1, h2, h3, hb⟩
  have HST := Lib.hid (Di.start hb h1 h2 h3 (madeCells (ws []) 1680) (size_madeCells _ _))
  clear h3 hb
  generalize madeCells (ws []) 1680 = c0 at *
  go_wp2
  clear hmk
  generalize w1.heap.size = G at *
  go_loopg [3, 4, 11] 21 (fun gk s3 s4 i wr => ∃ n : Nat, n ≤ 21 ∧ gk = 21 - n ∧ i = .int .i64 n ∧ Di w wr g G n)
  case atStart => exact ⟨0, Nat.zero_le _, rfl, rfl, HST.out⟩
  case round =>
    obtain ⟨n, hn, rfl, rfl, hx⟩ := hrel
    clear HST
    by_cases hlt : n < 21
    · have hi1 : ((n : Nat) : Int) < 21 := by omega
      have hi0 : (0 : Int) ≤ ((n : Nat) : Int) := by omega
      have HL := Lib.hid (hx.vl.load23 n hlt)
      have hvd : Dv.vdiff n = Dv.diff (Dv.vecs.getD n (0, 0)).1 (Dv.vecs.getD n (0, 0)).2 0 := rfl
      have HD := Lib.hid (fun W => difference_any (Dv.vecs.getD n (0, 0)).1 (Dv.vecs.getD n (0, 0)).2 0 W)
      rw [← hvd] at HD
      clear hvd
      generalize ((Dv.vecs.getD n (0, 0)).1 : Int) = ty at *
      generalize ((Dv.vecs.getD n (0, 0)).2 : Int) = K at *
      have HX := Lib.hid hx
      clear hx
      have HN := Lib.hid (heap_alloc_new wr (.cells #[.int .i64 0, .int .i64 0, .int .i64 0] 23))
      have HR := Lib.hid (setRow_heap _ _ _ (vs ty K 0) _ _ HN.out)
      go_wp2_with (first
        | (with_reducible refine wpList_load_sub rfl 23 (.tmp 14) rfl g (n * 3) rfl (vs ty K 0) HL.out ?_)
        | (with_reducible refine wpList_store_row rfl 23 (.tmp 4) (.tmp 15) rfl wr.heap.size (vs ty K 0) rfl rfl 23 _ HN.out (info23 _ _ _) (vs_zero _ _ _) (vs_one _ _ _) ?_)
        | (with_reducible refine wpList_load_row rfl 23 (.tmp 4) rfl wr.heap.size rfl 23 (vs ty K 0) (0, 0) _ HR.out Try.underlying23 rfl (info23 _ _ _) ?_))
      refine (HD.out _).mono ?_
      rintro e w2 ⟨rfl, hb2⟩
      obtain ⟨w3, hst, hx3⟩ := ((HX.out.lay _ _).more hb2).put hlt
      have HS := Lib.hid hst
      have HX3 := Lib.hid hx3
      clear hst hx3 hb2 HX HN HR HL HD
      generalize ws (Dv.vdiff n) = V at *
      go_wp2_with (with_reducible refine wpList_store_sub rfl 32 (.tmp 20) (.tmp 19) rfl G (n * 80) V rfl rfl HS.out ?_)
      go_roundg (21 - (n + 1))
      case rel => exact ⟨n + 1, by omega, rfl, by go_num, HX3.out⟩
      case measure => omega
    · obtain rfl : n = 21 := by omega
      have HD := Lib.hid hx.done
      have HB := Lib.hid hx.below
      have hl := hx.lt
      have hlo := hx.lo
      have hmd := hx.mid
      clear hx
      go_wp2
      go_ret
      exact ⟨G, rfl, by omega, hl, HD.out, HB.out⟩
end Go.Proofs.Ytpffolohkmokhaa.Hd
