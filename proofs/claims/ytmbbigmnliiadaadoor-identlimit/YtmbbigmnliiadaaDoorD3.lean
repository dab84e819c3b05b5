/-
  Contracts of the program's and the document's Vectors (layer 5): the list lies in memory, three numbers a vector.
  The contract of the program's differences (package detect): the 21 differences lie in one row.
  The contract of the program's filling (package detect): what fills bytes up to whole blocks.
  Contracts of the library's IndexFunc and ContainsFunc (package slices) at the differences and the method value that the program hands them.
  Layer 5: '==' of two vectors; a vector as an argument; guarded steps.
-/
import Derived.Test.YtmbbigmnliiadaaDoorD2
import Derived.Maps.AppendAt
import Derived.OwnWalk
import Derived.Laws.MakeOwn
import Derived.Laws.StructEq
import Derived.OpenShut
namespace Go.Proofs.YtmbbigmnliiadaaDoor.Hd
open Go.RowKit Hs Hp
set_option linter.unusedVariables false

/-- vectors as cells -/
def vcells (l : List (Nat × Nat)) : List Value := l.flatMap fun p => [.int .i64 p.1, .int .i64 p.2, .int .i64 0]
theorem vcells_length (l : List (Nat × Nat)) : (vcells l).length = l.length * 3 := by
  induction l with
  | nil => rfl
  | cons p l ih => simp [vcells] at *; omega
theorem vcells_get (l : List (Nat × Nat)) : ∀ (i j : Nat), i < l.length → j < 3 → (vcells l)[3 * i + j]? = (vs (l.getD i (0, 0)).1 (l.getD i (0, 0)).2 0)[j]? := by
  induction l with
  | nil => intro i j h; simp at h
  | cons p l ih =>
    intro i j hi hj
    have hc : vcells (p :: l) = [.int .i64 p.1, .int .i64 p.2, .int .i64 0] ++ vcells l := rfl
    rw [hc]
    cases i with
    | zero => rw [List.getElem?_append_left (by simpa using hj)]; simp [vs]
    | succ i =>
      rw [List.getElem?_append_right (by simp; omega), show 3 * (i + 1) + j - [Value.int .i64 (p.1 : Int), .int .i64 (p.2 : Int), .int .i64 0].length = 3 * i + j by simp; omega, ih i j (by simpa using hi) hj]
      simp
theorem vcells_snoc (l : List (Nat × Nat)) (n : Nat) (p : Nat × Nat) (h : l[n]? = some p) : vcells (l.take (n + 1)) = vcells (l.take n) ++ [.int .i64 p.1, .int .i64 p.2, .int .i64 0] := by
  rw [List.take_add_one, h]
  simp [vcells]
theorem vec_one (n : Nat) (h : n < 9) : Dv.vecs[n]? = some (1, 43 + n) := by
  have h' : ∀ m : Fin 9, Dv.vecs[m.val]? = some (1, 43 + m.val) := by decide +kernel
  exact h' ⟨n, h⟩
theorem vec_two (n : Nat) (h : n < 12) : Dv.vecs[9 + n]? = some (2, 45 + n) := by
  have h' : ∀ m : Fin 12, Dv.vecs[9 + m.val]? = some (2, 45 + m.val) := by decide +kernel
  exact h' ⟨n, h⟩

/-- the vectors lie in a block -/
def Vl (w : World) (g : Nat) : Prop := ∀ j, j < 63 → w.cell? ⟨g, j, none⟩ = (vcells Dv.vecs)[j]?
theorem Vl.below {w w' : World} {g B : Nat} (h : Vl w g) (hb : Below B w w') (hg : g < B) : Vl w' g := fun j hj => by rw [hb.cell (p := ⟨g, j, none⟩) hg]; exact h j hj
theorem Vl.cells {w : World} {g : Nat} (h : Vl w g) (i : Nat) (hi : i < 21) (j : Nat) (v : Value) (hv : (vs (Dv.vecs.getD i (0, 0)).1 (Dv.vecs.getD i (0, 0)).2 0)[j]? = some v) : w.cell? ⟨g, 3 * i + j, none⟩ = some v := by
  have hj : j < 3 := (Array.getElem?_eq_some_iff.1 hv).1
  rw [h _ (by omega), vcells_get Dv.vecs i j hi hj]
  exact hv
theorem Vl.load23 {w : World} {g : Nat} (h : Vl w g) (i : Nat) (hi : i < 21) : (loadVar 82 ⟨g, i * 3, none⟩).run Tryd.prog w = .ok (.agg (vs (Dv.vecs.getD i (0, 0)).1 (Dv.vecs.getD i (0, 0)).2 0)) w :=
  run_loadVar_sub w g (i * 3) _ _ _ (fun j v hv => by rw [Nat.mul_comm i 3]; exact h.cells i hi j v hv) Tryd.underlying82 rfl (info23 _ _ _)
theorem Vl.of_own {w : World} {base : Nat} {v : Value} (h : w.ownsRow base 82 3 v 21 (vcells Dv.vecs)) : ∃ g cap, v = .slice (some ⟨g, 0, none⟩) 21 cap ∧ base ≤ g ∧ g < w.heap.size ∧ Vl w g := by
  obtain ⟨hl, ⟨_, h0⟩ | ⟨g, cap, cur, rfl, hb, hg, _, _, _, hx⟩⟩ := h
  · omega
  · refine ⟨g, cap, rfl, hb, (Array.getElem?_eq_some_iff.1 hg).1, fun j hj => ?_⟩
    rw [cell_of_row w g j cur _ _ hg, ← hx, List.getElem?_take_of_lt (by omega)]
    simp

set_option maxHeartbeats 2000000 in
set_option maxRecDepth 100000 in
theorem vectors_any (w : World) : Calls Tryd.prog 47 #[] w fun e w' => ∃ g cap, e = .returned (.slice (some ⟨g, 0, none⟩) 21 cap) ∧ w.heap.size ≤ g ∧ g < w'.heap.size ∧ Vl w' g ∧ Below w.heap.size w w' := by
  have hinf : (Tryd.prog.info? 82).map (fun i => (i.zero, i.size, i.bytes)) = some (some (.agg #[.int .i64 0, .int .i64 0, .int .i64 0]), 3, 24) := by kernel_rfl
  obtain ⟨i0, hi0, hz0, hs0, hb0⟩ : ∃ i0, Tryd.prog.info? 82 = some i0 ∧ i0.zero = some (.agg #[.int .i64 0, .int .i64 0, .int .i64 0]) ∧ i0.size = 3 ∧ i0.bytes = 24 := by
    cases hq : Tryd.prog.info? 82 with
    | none => simp [hq] at hinf
    | some i => simp [hq] at hinf; exact ⟨i, rfl, hinf.1, hinf.2.1, hinf.2.2⟩
  have HI := Lib.hid (And.intro hi0 (And.intro hz0 (And.intro hs0 hb0)))
  clear hinf hi0 hz0 hs0 hb0
  go_enter Tryd.func47, Tryd.ntmps47
  go_wp2
  go_loopg [1, 2] 9 (fun g v i wr => ∃ n : Nat, n ≤ 9 ∧ g = 9 - n ∧ i = .int .i64 ((43 + n : Nat) : Int) ∧ Below w.heap.size w wr ∧ wr.ownsRow w.heap.size 82 3 v n (vcells (Dv.vecs.take n)))
  case atStart => exact ⟨0, Nat.zero_le _, rfl, rfl, Below.refl _ _, ⟨rfl, .inl ⟨rfl, rfl⟩⟩⟩
  case round =>
    obtain ⟨n, hn, rfl, rfl, hbl, hown⟩ := hrel
    by_cases hlt : n < 9
    · have hnx := vcells_snoc Dv.vecs n _ (vec_one n hlt)
      have HQ := Lib.hid (show ((43 + n : Nat) : Int) + 1 = ((43 + (n + 1) : Nat) : Int) by omega)
      have h1 : ((43 + n : Nat) : Int) ≤ 51 := by omega
      have hblw := hbl.size
      generalize 43 + n = k at *
      generalize vcells (Dv.vecs.take n) = xs at *
      have HNX := Lib.hid hnx
      have HO := Lib.hid hown
      have HB := Lib.hid hbl
      clear hnx hown hbl
      go_wp2_with (at_builtin; refine wpList_append_own_at _ rfl (.tmp 8) (.tmp 11) 79 rfl w.heap.size 82 i0 _ 3 24 Tryd.underlying79 HI.out.1 HI.out.2.1 HI.out.2.2.1 HI.out.2.2.2 rfl (by omega) u1 n xs rfl (HO.out.alloc _) ⟨wr.heap.size, 0, none⟩ 1 1 [.int .i64 1, .int .i64 k, .int .i64 0] rfl rfl (World.news_of_block (cs := #[.int .i64 1, .int .i64 k, .int .i64 0]) (t := 82) (fr := (0, 0)) (heap_alloc_new wr _)) (by simp [Value.oneCell']) (by unfold maxLen; omega) (by omega) (by simp; omega) ?_; intro v1 wA hoA hgA hnA hatA)
      have hown2 : wA.ownsRow w.heap.size 82 3 v1 (n + 1) (vcells (Dv.vecs.take (n + 1))) := by
        rw [HNX.out]
        exact hoA
      have hbl2 : Below w.heap.size w wA := (HB.out.alloc hblw _).grown hgA (by simp; omega) (fun i hi => (HO.out.lt i hi).1)
      have HO2 := Lib.hid hown2
      have HB2 := Lib.hid hbl2
      clear hown2 hbl2 hoA hgA hnA hatA
      go_roundg (9 - (n + 1))
      case rel => exact ⟨n + 1, by omega, rfl, by rw [← HQ.out], HB2.out, HO2.out⟩
      case measure => omega
    · obtain rfl : n = 9 := by omega
      have HO := Lib.hid hown
      have HB := Lib.hid hbl
      clear hown hbl
      go_wp2
      go_loopg [1, 3] 12 (fun g v i wr => ∃ n : Nat, n ≤ 12 ∧ g = 12 - n ∧ i = .int .i64 ((45 + n : Nat) : Int) ∧ Below w.heap.size w wr ∧ wr.ownsRow w.heap.size 82 3 v (9 + n) (vcells (Dv.vecs.take (9 + n))))
      case atStart => exact ⟨0, Nat.zero_le _, rfl, rfl, HB.out, HO.out⟩
      case round =>
        obtain ⟨n, hn, rfl, rfl, hbl, hown⟩ := hrel
        clear HO HB
        by_cases hlt : n < 12
        · have hnx := vcells_snoc Dv.vecs (9 + n) _ (vec_two n hlt)
          have HQ := Lib.hid (show ((45 + n : Nat) : Int) + 1 = ((45 + (n + 1) : Nat) : Int) by omega)
          have h1 : ((45 + n : Nat) : Int) ≤ 56 := by omega
          have hblw := hbl.size
          generalize 45 + n = k at *
          generalize vcells (Dv.vecs.take (9 + n)) = xs at *
          have HNX := Lib.hid hnx
          have HO := Lib.hid hown
          have HB := Lib.hid hbl
          clear hnx hown hbl
          go_wp2_with (at_builtin; refine wpList_append_own_at _ rfl (.tmp 17) (.tmp 20) 79 rfl w.heap.size 82 i0 _ 3 24 Tryd.underlying79 HI.out.1 HI.out.2.1 HI.out.2.2.1 HI.out.2.2.2 rfl (by omega) u1 (9 + n) xs rfl (HO.out.alloc _) ⟨wr.heap.size, 0, none⟩ 1 1 [.int .i64 2, .int .i64 k, .int .i64 0] rfl rfl (World.news_of_block (cs := #[.int .i64 2, .int .i64 k, .int .i64 0]) (t := 82) (fr := (0, 0)) (heap_alloc_new wr _)) (by simp [Value.oneCell']) (by unfold maxLen; omega) (by omega) (by simp; omega) ?_; intro v1 wA hoA hgA hnA hatA)
          have hown2 : wA.ownsRow w.heap.size 82 3 v1 (9 + (n + 1)) (vcells (Dv.vecs.take (9 + (n + 1)))) := by
            rw [show 9 + (n + 1) = 9 + n + 1 by omega, HNX.out]
            exact hoA
          have hbl2 : Below w.heap.size w wA := (HB.out.alloc hblw _).grown hgA (by simp; omega) (fun i hi => (HO.out.lt i hi).1)
          have HO2 := Lib.hid hown2
          have HB2 := Lib.hid hbl2
          clear hown2 hbl2 hoA hgA hnA hatA
          go_roundg (12 - (n + 1))
          case rel => exact ⟨n + 1, by omega, rfl, by rw [← HQ.out], HB2.out, HO2.out⟩
          case measure => omega
        · obtain rfl : n = 12 := by omega
          obtain ⟨g, cap, rfl, hg1, hg2, hvl⟩ := Vl.of_own hown
          have HV := Lib.hid hvl
          have HB := Lib.hid hbl
          clear hown hbl hvl
          go_wp2
          go_ret
          exact ⟨g, cap, rfl, hg1, hg2, HV.out, HB.out⟩

end Go.Proofs.YtmbbigmnliiadaaDoor.Hd
namespace Go.Proofs.YtmbbigmnliiadaaDoor.Hd
open Go.RowKit Hs Hp
set_option linter.unusedVariables false

/-- the differences lie in a block -/
def Ds (w : World) (g : Nat) : Prop := ∀ i j, i < 21 → j < 80 → w.cell? ⟨g, 80 * i + j, none⟩ = some (.int .u32 (tn ((Dv.vdiff i).getD j 0)))
theorem Ds.below {w w' : World} {g B : Nat} (h : Ds w g) (hb : Below B w w') (hg : g < B) : Ds w' g := fun i j hi hj => by rw [hb.cell (p := ⟨g, 80 * i + j, none⟩) hg]; exact h i j hi hj
theorem Ds.load {w : World} {g : Nat} (h : Ds w g) (i : Nat) (hi : i < 21) : (loadVar 73 ⟨g, i * 80, none⟩).run Tryd.prog w = .ok (.agg (ws (Dv.vdiff i))) w :=
  run_loadVar_sub w g (i * 80) _ _ _ (fun j v hv => by
    have hj : j < 80 := by have := (Array.getElem?_eq_some_iff.1 hv).1; rwa [ws_size] at this
    rw [Nat.mul_comm i 80, h i j hi hj, ← hv, ws_get _ j hj]) Tryd.underlying73 rfl (info30' _)
theorem make21 (w : World) : (Instr.makeSlice 59 (.int .i64 21) (.int .i64 21)).run Tryd.prog w = .ok (.slice (some ⟨w.heap.size, 0, none⟩) 21 21) (w.alloc (.cells (madeCells (ws []) 1680) 73)) := by
  have hinf : (Tryd.prog.info? 73).map (fun i => (i.zero, i.size, i.bytes)) = some (some (.agg (ws [])), 80, 320) := by kernel_rfl
  cases hq : Tryd.prog.info? 73 with
  | none => simp [hq] at hinf
  | some i =>
    simp [hq] at hinf
    obtain ⟨hz, hs, hb⟩ := hinf
    have hr := run_make (P := Tryd.prog) w 59 73 i _ Tryd.underlying59 hq hz .i64 .i64 21 21 (by omega) (Int.le_refl _) (by rw [hb]; decide) (by omega)
    rw [hs] at hr
    exact hr
theorem vs_zero (ty K B : Int) : (#[.int .i64 0, .int .i64 0, .int .i64 0] : Array Value).size = (vs ty K B).size := rfl
theorem vs_one (ty K B : Int) : (vs ty K B).all (·.oneCell') = true := by simp [vs, Value.oneCell']

/-- the state of differences: the vectors, n differences -/
structure Di (w wr : World) (g G n : Nat) : Prop where
  below : Below w.heap.size w wr
  lo : w.heap.size ≤ g
  mid : g < G
  vl : Vl wr g
  row : ∃ cur, wr.heap[G]? = some (.cells cur 73 (0, 0)) ∧ cur.size = 1680 ∧ ∀ i j, i < n → j < 80 → cur[80 * i + j]? = some (.int .u32 (tn ((Dv.vdiff i).getD j 0)))
section
variable {w wr w1 : World} {g G n : Nat}
theorem Di.lt (h : Di w wr g G n) : G < wr.heap.size := by
  obtain ⟨cur, hg, _⟩ := h.row
  exact (Array.getElem?_eq_some_iff.1 hg).1
theorem Di.lay (h : Di w wr g G n) (o : Obj) (r : Array Value) : Di w ((wr.alloc o).setRow wr.heap.size r) g G n := by
  have hl := h.lt
  have hm := h.mid
  obtain ⟨cur, hg, hrest⟩ := h.row
  have hb : ((wr.alloc o).setRow wr.heap.size r).heap[G]? = wr.heap[G]? := by rw [setRow_other _ _ _ _ (by omega), heap_alloc_old _ _ hl]
  refine ⟨below_setRow (h.below.alloc h.below.size _) h.below.size _, h.lo, hm, h.vl.below (B := wr.heap.size) (below_setRow ((Below.refl _ wr).alloc (Nat.le_refl _) _) (Nat.le_refl _) _) (by omega), cur, hb.trans hg, hrest⟩
theorem Di.more (h : Di w wr g G n) (hb : Below wr.heap.size wr w1) : Di w w1 g G n := by
  have hl := h.lt
  have hm := h.mid
  obtain ⟨cur, hg, hrest⟩ := h.row
  exact ⟨h.below.trans (hb.mono h.below.size), h.lo, hm, h.vl.below hb (by omega), cur, (hb.block _ hl).trans hg, hrest⟩
theorem Di.put (h : Di w wr g G n) (hn : n < 21) : ∃ w', (storeVar 73 ⟨G, n * 80, none⟩ (.agg (ws (Dv.vdiff n)))).run Tryd.prog wr = .ok () w' ∧ Di w w' g G (n + 1) := by
  have hl := h.lo
  have hm := h.mid
  obtain ⟨cur, hg, hs, hc⟩ := h.row
  have hz : (ws (Dv.vdiff n)).size = 80 := ws_size _
  rw [Nat.mul_comm n 80]
  refine ⟨_, run_storeVar_sub wr G (80 * n) _ _ cur (ws (Dv.vdiff n)) hg (info30' _) (by omega) (Hp.ws_one _), below_setRow h.below (by omega) _, hl, hm, h.vl.below (B := G) (below_setRow (Below.refl _ wr) (Nat.le_refl _) _) (by omega), _, setRow_heap _ _ cur _ _ _ hg, ?_, fun i j hi hj => ?_⟩
  · simp [hz, hs]; omega
  · rw [List.getElem?_toArray]
    by_cases hin : i < n
    · rw [List.append_assoc, List.getElem?_append_left (by simp [hs]; omega), List.getElem?_take_of_lt (by omega), Array.getElem?_toList]
      exact hc i j hin hj
    · obtain rfl : i = n := by omega
      rw [List.append_assoc, List.getElem?_append_right (by simp [hs]; omega), List.getElem?_append_left (by simp [hz, hs]; omega), Array.getElem?_toList,
        show 80 * i + j - (cur.toList.take (80 * i)).length = j by simp [hs]; omega, ws_get _ j hj]
theorem Di.start (hb : Below w.heap.size w w1) (h1 : w.heap.size ≤ g) (h2 : g < w1.heap.size) (h3 : Vl w1 g) (c : Array Value) (hc : c.size = 1680) : Di w (w1.alloc (.cells c 73)) g w1.heap.size 0 :=
  ⟨hb.alloc hb.size _, h1, h2, h3.below ((Below.refl _ w1).alloc (Nat.le_refl _) _) h2, c, heap_alloc_new _ _, hc, fun i j hi => by omega⟩
theorem Di.done (h : Di w wr g G 21) : Ds wr G := fun i j hi hj => by
  obtain ⟨cur, hg, _, hc⟩ := h.row
  rw [cell_of_row wr G _ cur _ _ hg]
  exact hc i j hi hj
end

set_option maxHeartbeats 2000000 in
set_option maxRecDepth 100000 in
theorem differences_any (w : World) : Calls Tryd.prog 33 #[] w fun e w' => ∃ g, e = .returned (.slice (some ⟨g, 0, none⟩) 21 21) ∧ w.heap.size ≤ g ∧ g < w'.heap.size ∧ Ds w' g ∧ Below w.heap.size w w' := by
  have hmk := make21
  go_enter Tryd.func33, Tryd.ntmps33
  go_wp2_with fail
  refine (vectors_any _).mono ?_
  rintro e w1 ⟨g, cap, rfl, h1, h2, h3, hb⟩
  have HST := Lib.hid (Di.start hb h1 h2 h3 (madeCells (ws []) 1680) (size_madeCells _ _))
  clear h3 hb
  generalize madeCells (ws []) 1680 = c0 at *
  go_wp2
  clear hmk
  generalize w1.heap.size = G at *
  go_loopg [3, 4, 11] 21 (fun gk s3 s4 i wr => ∃ n : Nat, n ≤ 21 ∧ gk = 21 - n ∧ i = .int .i64 n ∧ Di w wr g G n)
  case atStart => exact ⟨0, Nat.zero_le _, rfl, rfl, HST.out⟩
  case round =>
    obtain ⟨n, hn, rfl, rfl, hx⟩ := hrel
    clear HST
    by_cases hlt : n < 21
    · have hi1 : ((n : Nat) : Int) < 21 := by omega
      have hi0 : (0 : Int) ≤ ((n : Nat) : Int) := by omega
      have HL := Lib.hid (hx.vl.load23 n hlt)
      have hvd : Dv.vdiff n = Dv.diff (Dv.vecs.getD n (0, 0)).1 (Dv.vecs.getD n (0, 0)).2 0 := rfl
      have HD := Lib.hid (fun W => difference_any (Dv.vecs.getD n (0, 0)).1 (Dv.vecs.getD n (0, 0)).2 0 W)
      rw [← hvd] at HD
      clear hvd
      generalize ((Dv.vecs.getD n (0, 0)).1 : Int) = ty at *
      generalize ((Dv.vecs.getD n (0, 0)).2 : Int) = K at *
      have HX := Lib.hid hx
      clear hx
      have HN := Lib.hid (heap_alloc_new wr (.cells #[.int .i64 0, .int .i64 0, .int .i64 0] 82))
      have HR := Lib.hid (setRow_heap _ _ _ (vs ty K 0) _ _ HN.out)
      go_wp2_with (first
        | (with_reducible refine wpList_load_sub rfl 82 (.tmp 14) rfl g (n * 3) rfl (vs ty K 0) HL.out ?_)
        | (with_reducible refine wpList_store_row rfl 82 (.tmp 4) (.tmp 15) rfl wr.heap.size (vs ty K 0) rfl rfl 82 _ HN.out (info23 _ _ _) (vs_zero _ _ _) (vs_one _ _ _) ?_)
        | (with_reducible refine wpList_load_row rfl 82 (.tmp 4) rfl wr.heap.size rfl 82 (vs ty K 0) (0, 0) _ HR.out Tryd.underlying82 rfl (info23 _ _ _) ?_))
      refine (HD.out _).mono ?_
      rintro e w2 ⟨rfl, hb2⟩
      obtain ⟨w3, hst, hx3⟩ := ((HX.out.lay _ _).more hb2).put hlt
      have HS := Lib.hid hst
      have HX3 := Lib.hid hx3
      clear hst hx3 hb2 HX HN HR HL HD
      generalize ws (Dv.vdiff n) = V at *
      go_wp2_with (with_reducible refine wpList_store_sub rfl 73 (.tmp 20) (.tmp 19) rfl G (n * 80) V rfl rfl HS.out ?_)
      go_roundg (21 - (n + 1))
      case rel => exact ⟨n + 1, by omega, rfl, by go_num, HX3.out⟩
      case measure => omega
    · obtain rfl : n = 21 := by omega
      have HD := Lib.hid hx.done
      have HB := Lib.hid hx.below
      have hl := hx.lt
      have hlo := hx.lo
      have hmd := hx.mid
      clear hx
      go_wp2
      go_ret
      exact ⟨G, rfl, by omega, hl, HD.out, HB.out⟩
end Go.Proofs.YtmbbigmnliiadaaDoor.Hd
namespace Go.Proofs.YtmbbigmnliiadaaDoor.Hd
open Go.RowKit Hs Hp
set_option linter.unusedVariables false

/-- what fills n bytes up -/
def fil (n : Nat) : List UInt8 := Sh.pad [] (Sh.nought n) ++ Sh.highs (n * 8) 8
theorem fill_fil (l : List UInt8) : Sh.fill l = l ++ fil l.length := by simp [Sh.fill, fil, Sh.pad]
theorem fil_length (n : Nat) : (fil n).length = Sh.nought n + 9 := by rw [fil, List.length_append, Sh.pad_length, Sh.highs_length]; simp; omega
theorem bts_one (w : World) (c : UInt8) : Bts (w.alloc (.cells #[.int .u8 c.toNat] 5)) w.heap.size (.slice (some ⟨w.heap.size, 0, none⟩) 1 1) [c] :=
  Bts.of_own (base := w.heap.size) (n := 1) ⟨rfl, .inr ⟨w.heap.size, 1, #[.int .u8 c.toNat], rfl, Nat.le_refl _, heap_alloc_new _ _, Nat.le_refl _, by unfold maxLen; omega, rfl, rfl⟩⟩ (Nat.le_refl _) (by simp)

set_option maxHeartbeats 2000000 in
set_option maxRecDepth 100000 in
theorem filling_any (n : Nat) (w : World) (hs : n ≤ 100000) :
    Calls Tryd.prog 43 #[.int .i64 n] w fun e w' => e = .returned (.string ⟨(fil n).toArray⟩) ∧ Below w.heap.size w w' := by
  obtain ⟨i0, hi0, hz0, hz1, hz2⟩ := info_parts info5
  have HI := Lib.hid (And.intro hi0 (And.intro hz0 (And.intro hz1 hz2)))
  clear hi0 hz0 hz1 hz2
  have hn0 : (0 : Int) ≤ n := by omega
  have hn1 : (n : Int) ≤ 100000 := by omega
  go_enter Tryd.func43, Tryd.ntmps43
  have HB0 := Lib.hid (bts_one w 128)
  have HBE := Lib.hid ((Below.refl _ w).alloc (Nat.le_refl _) (.cells #[.int .u8 128] 5))
  go_wp2
  have hcap : Sh.nought n < 64 := Nat.mod_lt _ (by omega)
  have hnt : ∀ k, k < Sh.nought n → (n + 1 + k) % 64 ≠ 56 := fun k hk => by unfold Sh.nought at hk; omega
  have hnz : (n + 1 + Sh.nought n) % 64 = 56 := by unfold Sh.nought; omega
  have hfl : fil n = Sh.pad [] (Sh.nought n) ++ Sh.highs (n * 8) 8 := rfl
  generalize Sh.nought n = K at *
  have HNT := Lib.hid hnt
  have HNZ := Lib.hid hnz
  have HFL := Lib.hid hfl
  clear hnt hnz hfl
  go_loopg [3] K (fun g v wr => ∃ k : Nat, k ≤ K ∧ g = K - k ∧ Bts wr w.heap.size v (Sh.pad [] k) ∧ Below w.heap.size w wr)
  case atStart => exact ⟨0, Nat.zero_le _, rfl, HB0.out, HBE.out⟩
  case round =>
    obtain ⟨k, hk, rfl, hb, hbl⟩ := hrel
    clear HB0 HBE
    have HB := Lib.hid hb
    obtain ⟨A, cap, rfl⟩ := bts_len hb
    clear hb
    have hpl : (Sh.pad [] k).length = 1 + k := by rw [Sh.pad_length]; simp
    have hsz := hbl.size
    by_cases hlt : k < K
    · have ht : (((n : Int) + (1 + k)) % 64 != 56) = true := by have := HNT.out k hlt; simp; omega
      have hb2 := HB.out.alloc (.cells #[.int .u8 0] 5)
      have hc2 := cell_one_new wr (.int .u8 0) 5 0 (.int .u8 0) rfl
      rw [add_zero_of] at hc2
      have HB2 := Lib.hid hb2
      have HC2 := Lib.hid hc2
      clear hb2 hc2
      go_wp2_with (at_builtin; refine wpList_append_bts rfl (.tmp 12) (.tmp 13) 41 rfl i0 Tryd.underlying41 HI.out.1 HI.out.2.1 HI.out.2.2.1 HI.out.2.2.2 rfl (B := w.heap.size) (l := Sh.pad [] k) ?_ ?_ 0 0 rfl (by rw [Sh.pad_length]; simp; omega) ⟨wr.heap.size, 0, none⟩ 1 rfl ?_ ?_; exact HB2.out; exact (by simp; omega); exact HC2.out; intro v2 w2 hb3 hw3)
      have HB3 := Lib.hid hb3
      have HW3 := Lib.hid ((hbl.alloc hsz (.cells #[.int .u8 0] 5)).trans hw3)
      clear hb3 hw3
      go_roundg (K - (k + 1))
      case rel => exact ⟨k + 1, by omega, rfl, by rw [Sh.pad_succ]; exact HB3.out, HW3.out⟩
      case measure => omega
    · obtain rfl : k = K := by omega
      have ht : (((n : Int) + (1 + k)) % 64 != 56) = false := by have := HNZ.out; simp; omega
      have HBL := Lib.hid hbl
      clear hbl
      go_wp2
      clear hpl
      go_loopg [3, 4] 8 (fun g v i wx => ∃ (j : Nat) (x : Int), j ≤ 8 ∧ g = j ∧ x = 8 * ((j : Int) - 1) ∧ i = .int .i64 x ∧ Bts wx w.heap.size v (Sh.pad [] k ++ Sh.highs (n * 8) (8 - j)) ∧ Below w.heap.size w wx)
      case atStart => exact ⟨8, 56, Nat.le_refl _, rfl, rfl, rfl, by simpa [Sh.highs] using HB.out, HBL.out⟩
      case round =>
        obtain ⟨j, x, hj, rfl, hx, rfl, hb, hbl⟩ := hrel
        clear HB HBL
        have HB := Lib.hid hb
        cases gk with
        | zero =>
          obtain rfl : x = -8 := by omega
          clear hx
          have hconv := bts_string (P := Tryd.prog) 41 9 Tryd.underlying41 Tryd.underlying5 Tryd.underlying9 hb
          rw [← HFL.out] at hconv
          clear hb
          go_wp2
          go_ret
          exact ⟨rfl, hbl⟩
        | succ j =>
          obtain ⟨X, hX⟩ : ∃ X : Nat, X = 8 * j := ⟨_, rfl⟩
          obtain rfl : x = (X : Int) := by omega
          clear hx
          obtain ⟨A, cap, rfl⟩ := bts_len hb
          clear hb
          have hsz := hbl.size
          have hX0 : (0 : Int) ≤ X := by omega
          have hX1 : (X : Int) < 64 := by omega
          have hX2 : X < 64 := by omega
          have hyv := byte_of n j
          rw [← hX] at hyv
          have hnx : Sh.highs (n * 8) (8 - j) = Sh.highs (n * 8) (8 - (j + 1)) ++ [Sh.byteOf (n * 8) j] := by
            rw [show 8 - j = 8 - (j + 1) + 1 by omega, Sh.highs, show 7 - (8 - (j + 1)) = j by omega]
          have HQ := Lib.hid (show (X : Int) - 8 = 8 * ((j : Int) - 1) by omega)
          have HYV := Lib.hid hyv
          have HNX := Lib.hid hnx
          have hb2 := HB.out.alloc (.cells #[.int .u8 ((n : Int) * 8 / 2 ^ X % 256)] 5)
          have hc2 := cell_one_new wr (.int .u8 ((n : Int) * 8 / 2 ^ X % 256)) 5 0 (.int .u8 ((n : Int) * 8 / 2 ^ X % 256)) rfl
          rw [add_zero_of] at hc2
          have hl2 : (Sh.pad [] k ++ Sh.highs (n * 8) (8 - (j + 1))).length + 1 ≤ 1000000 := by rw [List.length_append, Sh.pad_length, Sh.highs_length]; simp; omega
          have HB2 := Lib.hid hb2
          have HC2 := Lib.hid hc2
          have HL2 := Lib.hid hl2
          have HA := Lib.hid (hbl.alloc hsz (.cells #[.int .u8 ((n : Int) * 8 / 2 ^ X % 256)] 5))
          clear hyv hnx hb2 hc2 hl2 hX
          go_wp2_with (at_builtin; refine wpList_append_bts rfl (.tmp 19) (.tmp 26) 41 rfl i0 Tryd.underlying41 HI.out.1 HI.out.2.1 HI.out.2.2.1 HI.out.2.2.2 rfl (B := w.heap.size) (l := Sh.pad [] k ++ Sh.highs (n * 8) (8 - (j + 1))) ?_ ?_ (Sh.byteOf (n * 8) j) ((n : Int) * 8 / 2 ^ X % 256) HYV.out HL2.out ⟨wr.heap.size, 0, none⟩ 1 rfl ?_ ?_; exact HB2.out; exact (by simp; omega); exact HC2.out; intro v2 w2 hb3 hw3)
          have HB3 := Lib.hid hb3
          have HW3 := Lib.hid (HA.out.trans hw3)
          clear hb3 hw3
          go_roundg j
          case rel => exact ⟨j, _, by omega, rfl, HQ.out, rfl, by rw [HNX.out, ← List.append_assoc]; exact HB3.out, HW3.out⟩
          case measure => omega
end Go.Proofs.YtmbbigmnliiadaaDoor.Hd
namespace Go.Proofs.YtmbbigmnliiadaaDoor.Hd
open Go.RowKit Hs Hp
set_option linter.unusedVariables false

/-- is one of the first n differences a hit? -/
def anyHit (L : List UInt32) (S E : Sh.Ch) (n : Nat) : Bool := (List.range n).any fun i => Dv.hit L S E (Dv.vdiff i)
theorem anyHit_succ (L : List UInt32) (S E : Sh.Ch) (n : Nat) : anyHit L S E (n + 1) = (anyHit L S E n || Dv.hit L S E (Dv.vdiff n)) := by simp [anyHit, List.range_succ]
theorem anyHit_mono (L : List UInt32) (S E : Sh.Ch) (n : Nat) : ∀ k, anyHit L S E n = true → anyHit L S E (n + k) = true
  | 0, h => h
  | k + 1, h => by rw [← Nat.add_assoc, anyHit_succ, anyHit_mono L S E n k h, Bool.true_or]
theorem anyHit_at (L : List UInt32) (S E : Sh.Ch) (n : Nat) (hn : n < 21) (h : Dv.hit L S E (Dv.vdiff n) = true) : anyHit L S E 21 = true := by
  have h1 := anyHit_mono L S E (n + 1) (21 - (n + 1)) (by rw [anyHit_succ, h, Bool.or_true])
  rwa [show n + 1 + (21 - (n + 1)) = 21 by omega] at h1
/-- the bound method -/
def mark (L : List UInt32) (S E : Sh.Ch) : Value := .func (.func 46) #[.agg (ps L S E)] #[]

set_option maxHeartbeats 2000000 in
set_option maxRecDepth 100000 in
theorem indexFunc_any (L : List UInt32) (S E : Sh.Ch) (g c : Nat) (w : World) (hD : Ds w g) (hg : g < w.heap.size) :
    Calls Tryd.prog 62 #[.slice (some ⟨g, 0, none⟩) 21 c, mark L S E] w
      fun e w' => (∃ i : Int, e = .returned (.int .i64 i) ∧ decide (0 ≤ i) = anyHit L S E 21) ∧ Below w.heap.size w w' := by
  unfold mark
  have h0 : anyHit L S E 0 = false := rfl
  have H0 := Lib.hid h0
  have HD := Lib.hid hD
  clear h0 hD
  go_enter Tryd.func62, Tryd.ntmps62
  go_wp2
  go_loopg [5, 8] 21 (fun gk s5 i wr => ∃ n : Nat, n ≤ 21 ∧ gk = 21 - n ∧ i = .int .i64 n ∧ Below w.heap.size w wr ∧ anyHit L S E n = false)
  case atStart => exact ⟨0, Nat.zero_le _, rfl, rfl, Below.refl _ _, H0.out⟩
  case round =>
    obtain ⟨n, hn, rfl, rfl, hbl, hno⟩ := hrel
    clear H0
    by_cases hlt : n < 21
    · have hi1 : ((n : Nat) : Int) < 21 := by omega
      have hi0 : (0 : Int) ≤ ((n : Nat) : Int) := by omega
      have HL := Lib.hid ((HD.out.below hbl hg).load n hlt)
      have HM := Lib.hid (fun W => markedBy_any L (Dv.vdiff n) S E W)
      have hsu := anyHit_succ L S E n
      have hat := anyHit_at L S E n hlt
      rw [hno, Bool.false_or] at hsu
      generalize Dv.hit L S E (Dv.vdiff n) = b at *
      have HS := Lib.hid hsu
      have HA := Lib.hid hat
      have HB := Lib.hid hbl
      clear hsu hat hbl hno
      generalize Dv.vdiff n = V at *
      cases b
      · go_wp2_with (first
          | (with_reducible refine wpList_load_sub rfl 73 (.tmp 14) rfl g (n * 80) rfl (ws V) HL.out ?_)
          | (go_at_call 46; refine (HM.out _).mono ?_; rintro e w2 ⟨rfl, hb2⟩; have HB2 := Lib.hid (HB.out.trans (hb2.mono HB.out.size)); clear hb2))
        go_roundg (21 - (n + 1))
        case rel => exact ⟨n + 1, by omega, rfl, by go_num, HB2.out, HS.out⟩
        case measure => omega
      · go_wp2_with (first
          | (with_reducible refine wpList_load_sub rfl 73 (.tmp 14) rfl g (n * 80) rfl (ws V) HL.out ?_)
          | (go_at_call 46; refine (HM.out _).mono ?_; rintro e w2 ⟨rfl, hb2⟩; have HB2 := Lib.hid (HB.out.trans (hb2.mono HB.out.size)); clear hb2))
        go_ret
        exact ⟨⟨n, rfl, by rw [HA.out (by trivial)]; exact decide_eq_true hi0⟩, HB2.out⟩
    · obtain rfl : n = 21 := by omega
      have HN := Lib.hid hno
      clear hno
      go_wp2
      go_ret
      exact ⟨⟨-1, rfl, by rw [HN.out]; rfl⟩, hbl⟩

theorem contains_any (L : List UInt32) (S E : Sh.Ch) (g c : Nat) (w : World) (hD : Ds w g) (hg : g < w.heap.size) :
    Calls Tryd.prog 45 #[.slice (some ⟨g, 0, none⟩) 21 c, mark L S E] w
      fun e w' => e = .returned (.bool (anyHit L S E 21)) ∧ Below w.heap.size w w' := by
  have HC := Lib.hid (indexFunc_any L S E g c w hD hg)
  clear hD
  generalize mark L S E = mk at *
  generalize anyHit L S E 21 = b at *
  go_enter Tryd.func45, Tryd.ntmps45
  go_wp2_with fail
  refine HC.out.mono ?_
  rintro e w1 ⟨⟨i, rfl, hi⟩, hb⟩
  have HI := Lib.hid hi
  clear hi
  go_wp2
  go_ret
  refine ⟨?_, hb⟩
  rw [← HI.out]
  rfl
end Go.Proofs.YtmbbigmnliiadaaDoor.Hd
namespace Go.Proofs.YtmbbigmnliiadaaDoor.Hd
open Go.RowKit Hs Hp
set_option linter.unusedVariables false
set_option maxRecDepth 4000

theorem run_fields (d : Nat) (A : Array Value) (w : World) : ∀ fs : List Field, (∀ f ∈ fs, f.type = 3 ∧ ∃ x : Int, A[f.offset]? = some (.int .i64 x)) → (Op.eqFields (d + 1) A A fs).run Tryd.prog w = .ok true w
  | [], _ => by simp [Op.eqFields]
  | f :: fs, h => by
    obtain ⟨ht, x, hx⟩ := h f (by simp)
    have hp : (part f.type A f.offset).run Tryd.prog w = .ok (.int .i64 x) w := by rw [ht]; simp [part, Tryd.isAgg3, hx]
    have ih := run_fields d A w fs (fun j hj => h j (by simp [hj]))
    have he : (Op.equalIn (d + 1) f.type (.int .i64 x) (.int .i64 x)).run Tryd.prog w = .ok true w := by rw [ht, run_equalIn_int w d 3 .i64 .i64 x x Tryd.underlying3]; simp
    by_cases hn : f.name = "_"
    · simp [Op.eqFields, hn, ih]
    · simp [Op.eqFields, hn, Sem.run_bind, hp, he, ih]
theorem vs_get (a b c : Int) (i : Nat) (h : i < 3) : ∃ x : Int, (vs a b c)[i]? = some (.int .i64 x) := by
  match i, h with
  | 0, _ => exact ⟨a, rfl⟩
  | 1, _ => exact ⟨b, rfl⟩
  | 2, _ => exact ⟨c, rfl⟩
theorem fields_ok (t : TypeId) (a b c : Int) (h : ((Tryd.prog.fieldsOf t).toList.all fun f => f.type == 3 && decide (f.offset < 3)) = true) : ∀ f ∈ (Tryd.prog.fieldsOf t).toList, f.type = 3 ∧ ∃ x : Int, (vs a b c)[f.offset]? = some (.int .i64 x) := fun f hf => by
  have := List.all_eq_true.1 h f hf
  simp at this
  exact ⟨this.1, vs_get a b c _ this.2⟩
theorem eql_vs23 (a b c : Int) (w : World) : (binOp .eql 82 (.agg (vs a b c)) (.agg (vs a b c))).run Tryd.prog w = .ok (.bool true) w := by
  have h : (Op.equalIn 10000 82 (.agg (vs a b c)) (.agg (vs a b c))).run Tryd.prog w = .ok true w := by
    rw [run_equalIn_agg w 9999 82 _ _ (by kernel_rfl) (by kernel_rfl)]
    exact run_fields 9998 _ w _ (fields_ok _ a b c (by kernel_rfl))
  rw [run_eql_struct, h]; rfl
theorem guard23 : Tryd.prog.eqGuardType Tryd.prog.depth 82 = false := by kernel_rfl

/-- an argument that is a vector -/
theorem open_vec {H : Type} {enc : TypeId × Value → H} {W : World} {base : Nat} {v : Value} {d : DataW H} {ps : List MemPlace} (hok : Value.okWide Tryd.prog W .any base 82 v)
    (h : DataW.Trod enc Tryd.prog W 0 (fun _ => true) true 82 v d ps) : ∃ a b c : Int, v = .agg (vs a b c) := by
  obtain ⟨A, rfl, hsz⟩ := WideShapes.okWide_struct Tryd.underlying82 hok
  obtain ⟨fuel, hf⟩ := h
  obtain ⟨xs, m, _, _, hl, hxl, hi⟩ := DataW.trod_struct Tryd.underlying82 hf
  have h1 : Tryd.prog.cellsOf 3 = 1 := by kernel_rfl
  have h3 : Tryd.prog.cellsOf 82 = 3 := by kernel_rfl
  have hc : (Value.agg A).cells = A := rfl
  rw [h3] at hsz
  rw [hc] at hi
  have hxl3 : xs.length = 3 := hxl
  have g0 := hi 0 _ rfl
  have g1 := hi 1 _ rfl
  have g2 := hi 2 _ rfl
  rw [List.getElem?_eq_getElem (by omega)] at g0 g1 g2
  obtain ⟨a, ha, _, _⟩ := DataW.trod_int Tryd.underlying3 g0
  obtain ⟨b, hb, _, _⟩ := DataW.trod_int Tryd.underlying3 g1
  obtain ⟨c, hcc, _, _⟩ := DataW.trod_int Tryd.underlying3 g2
  change (A.toList.drop 0).take (Tryd.prog.cellsOf 3) = _ at ha
  change (A.toList.drop 1).take (Tryd.prog.cellsOf 3) = _ at hb
  change (A.toList.drop 2).take (Tryd.prog.cellsOf 3) = _ at hcc
  rw [h1] at ha hb hcc
  refine ⟨a, b, c, congrArg Value.agg ?_⟩
  have pick : ∀ (i : Nat) (x : Value), (A.toList.drop i).take 1 = [x] → A[i]? = some x := fun i x hx => by
    have e := congrArg (fun l : List Value => l[0]?) hx
    simpa [List.getElem?_take, List.getElem?_drop] using e
  have k0 := pick 0 _ ha
  have k1 := pick 1 _ hb
  have k2 := pick 2 _ hcc
  apply Array.ext_getElem?
  intro i
  by_cases h : i < 3
  · rcases (by omega : i = 0 ∨ i = 1 ∨ i = 2) with rfl | rfl | rfl
    · rw [k0]; rfl
    · rw [k1]; rfl
    · rw [k2]; rfl
  · rw [Array.getElem?_eq_none (by omega), Array.getElem?_eq_none (by show 3 ≤ i; omega)]

/-! ### steps that a guard lets run -/
section
variable {P : Program} {ops : Array Oper} {rest : List Oper} {o : Oper} {a : Act} {w : World} {Q : Exit → Act → World → Prop}
theorem wpList_wanted (hw : Region.wanted o (yielded ops a.tmps) = true) (h : ∀ K : Act → World → Prop, (∀ a w, wpList P ops Q rest a w → K a w) → o.wp P a w K Q) : wpList P ops Q (o :: rest) a w :=
  wpList_step fun K hK => by simp only [hw, if_true]; exact h K hK
theorem wpList_load_subW (hw : Region.wanted o (yielded ops a.tmps) = true) (ty : TypeId) (x : Operand) (ho : o.op = .load ty x) (g off : Nat) (hx : a.eval x = .pointer (some ⟨g, off, none⟩)) (cs : Array Value) (hl : (loadVar ty ⟨g, off, none⟩).run P w = .ok (.agg cs) w)
    (h : wpList P ops Q rest (a.put o.dst (.agg cs)) w) : wpList P ops Q (o :: rest) a w := wpList_wanted hw fun _ hK => wp_load_sub ty x ho g off hx cs hl (hK _ _ h)
theorem wpList_load_rowW (hw : Region.wanted o (yielded ops a.tmps) = true) (ty : TypeId) (x : Operand) (ho : o.op = .load ty x) (g : Nat) (hx : a.eval x = .pointer (some ⟨g, 0, none⟩)) (t : TypeId) (cs : Array Value) (fr : Nat × Nat) (d : TypeDesc) (hg : w.heap[g]? = some (.cells cs t fr))
    (hu : P.underlying ty = some d) (hd : (match d with | .struct _ | .array _ _ => true | _ => false) = true) (hi : (P.info? ty).map (·.size) = some cs.size) (h : wpList P ops Q rest (a.put o.dst (.agg cs)) w) : wpList P ops Q (o :: rest) a w :=
  wpList_wanted hw fun _ hK => wp_load_row ty x ho g hx t cs fr d hg hu hd hi (hK _ _ h)
theorem wpList_build0W (hw : Region.wanted o (yielded ops a.tmps) = true) (t : TypeId) (ho : o.op = .build t #[]) (cells : Array Value) (hc : P.built t [] = some cells) (h : wpList P ops Q rest (a.put o.dst (.agg cells)) w) : wpList P ops Q (o :: rest) a w :=
  wpList_wanted hw fun K hK => by
    have hc' : P.built t ((#[] : Array (Nat × Operand)).map fun (i, x) => (i, a.eval x)).toList = some cells := by simpa using hc
    refine wp_build t #[] ho (by rw [hc']; rfl) ?_
    rw [hc']
    exact hK _ _ h
theorem wpList_eq_opW (hw : Region.wanted o (yielded ops a.tmps) = true) (op : BinOp) (hop : op = .eql ∨ op = .neq) (ty ty' : TypeId) (x y : Operand) (ho : o.op = .binOp op ty x y ty') (X Y : Array Value) (hx : a.eval x = .agg X) (hy : a.eval y = .agg Y)
    (hg : P.eqGuardType P.depth ty = false) (b : Bool) (h : (binOp op ty (.agg X) (.agg Y)).run P w = .ok (.bool b) w) (hr : wpList P ops Q rest (a.put o.dst (.bool b)) w) : wpList P ops Q (o :: rest) a w :=
  wpList_wanted hw fun _ hK => by
    unfold Oper.wp
    rw [run_eq_op op hop ty ty' x y ho X Y hx hy hg b w h]
    exact hK _ _ hr
end
end Go.Proofs.YtmbbigmnliiadaaDoor.Hd
