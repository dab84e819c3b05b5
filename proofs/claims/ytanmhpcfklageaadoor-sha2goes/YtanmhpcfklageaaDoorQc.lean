/-
  The contract of the program's press (package sha2): the chain behind a block of 64 bytes.
-/
import Derived.Test.YtanmhpcfklageaaDoorQb
namespace Go.Proofs.YtanmhpcfklageaaDoor.Ho
open Go.RowKit Hs
set_option linter.unusedVariables false
attribute [local go_sem] t_and t_or t_xor t_not t_add t_sub t_add_wrap t_sub_wrap

theorem run_index_row {P : Program} {ty elem : TypeId} {n : Nat} (hu : P.underlying ty = some (.array n elem)) (ha : ∀ w, (isAgg elem).run P w = .ok false w) (hz : ∀ w, (Go.sizeOf elem).run P w = .ok 1 w)
    {W : Array Value} {t : Nat} (h : t < n) {v : Value} (hv : W[t]? = some v) (w : World) : (Instr.index ty (.agg W) (.int .i64 t)).run P w = .ok v w := by
  have h0 : (0 : Int) ≤ t := by omega
  have h1 : (t : Int) < n := by omega
  simp [Instr.index, asIntOf, run_underlying hu, Sem.run_bind, h, hz, part, ha, hv]

/-- the state of press: the chain that came in, the result's row, the constants -/
structure Pv (w wr : World) (x : S2.Ch) : Prop where
  below : Below w.heap.size w wr
  bf : wr.heap[w.heap.size]? = some (.cells (c8 x) 40 (0, 0))
  rs : wr.heap[w.heap.size + 1]? = some (.cells (c8 ⟨0, 0, 0, 0, 0, 0, 0, 0⟩) 40 (0, 0))
  ks : Ks wr
  kl : 0 < w.heap.size
section
variable {w wr : World} {x y : S2.Ch} {g i : Nat}
theorem Ks.setRow (h : Ks w) (hg : 0 ≠ g) (c : Array Value) : Ks (w.setRow g c) := fun i hi => by
  rw [World.cell?_of_block (a := ⟨0, i, none⟩) (setRow_other _ _ _ _ (fun e => hg e))]
  exact h i hi
theorem Pv.drew (h : Pv w wr x) : Pv w wr.drew x := ⟨h.below.drew, h.bf, h.rs, h.ks, h.kl⟩
theorem Pv.lt (h : Pv w wr x) : w.heap.size + 1 < wr.heap.size := (Array.getElem?_eq_some_iff.1 h.rs).1
theorem Pv.laid (h : Pv w wr x) (c d : Array Value) (ty : TypeId) : Pv w ((wr.alloc (.cells c ty)).setRow wr.heap.size d) x := by
  have hlt := h.lt
  have hkl := h.kl
  exact ⟨below_row (h.below.alloc h.below.size _) h.below.size _, (setRow_other _ _ _ _ (by omega)).trans ((Below.heap_alloc _ _ _ (by omega)).trans h.bf), (setRow_other _ _ _ _ (by omega)).trans ((Below.heap_alloc _ _ _ (by omega)).trans h.rs), (h.ks.alloc _).setRow (by omega) _, h.kl⟩
theorem Pv.fld (h : Pv w wr x) {j : Nat} (hj : j < 8) : wr.cell? ⟨w.heap.size, j, none⟩ = some (.int .u32 (tn (S2.fld x j))) := by rw [cell_of_row _ _ j _ _ _ h.bf]; exact c8_get x j hj

/-- .. while the letters are added: i of them are -/
structure Pw (w wr : World) (g : Nat) (x y : S2.Ch) (i : Nat) : Prop where
  below : Below w.heap.size w wr
  bf : wr.heap[w.heap.size]? = some (.cells (c8 x) 40 (0, 0))
  rs : wr.heap[w.heap.size + 1]? = some (.cells (c8 ⟨0, 0, 0, 0, 0, 0, 0, 0⟩) 40 (0, 0))
  lo : w.heap.size + 1 < g
  row : wr.rowIs g 40 8 (fun j => .int .u32 (tn (if j < i then S2.fld (S2.add x y) j else S2.fld y j)))
theorem Pw.start (h : Pv w wr x) (y : S2.Ch) (g : Nat) (hg : wr.heap.size = g) : Pw w (wr.alloc (.cells (c8 y) 40)) g x y 0 := by
  subst hg
  have hlt := h.lt
  refine ⟨h.below.alloc h.below.size _, (Below.heap_alloc _ _ _ (by omega)).trans h.bf, (Below.heap_alloc _ _ _ (by omega)).trans h.rs, hlt, ⟨c8 y, heap_alloc_new _ _, rfl, fun j hj => ?_⟩⟩
  rw [c8_get y j hj]; show _ = some (Value.int .u32 (tn (if j < 0 then _ else _))); rw [if_neg (Nat.not_lt_zero _)]
theorem Pw.put (h : Pw w wr g x y i) (hi : i < 8) {v : UInt32} (hv : v = S2.fld y i + S2.fld x i) : Pw w (wr.setCell ⟨g, i, none⟩ (.int .u32 (tn v))) g x y (i + 1) := by
  have hlo := h.lo
  refine ⟨h.below.setCell (show w.heap.size ≤ g by omega) _, (heap_setCell_other _ _ _ _ (by simp; omega)).trans h.bf, (heap_setCell_other _ _ _ _ (by simp; omega)).trans h.rs, h.lo, ?_⟩
  refine (h.row.set i _).congr fun j _ => ?_
  by_cases e : j = i
  · subst e
    rw [if_pos rfl, if_pos (Nat.lt_succ_self _), S2.fld_add, hv, UInt32.add_comm]
  · rw [if_neg e]
    by_cases h1 : j < i
    · rw [if_pos h1, if_pos (by omega)]
    · rw [if_neg h1, if_neg (by omega)]
theorem Pw.drew (h : Pw w wr g x y i) : Pw w wr.drew g x y i := ⟨h.below.drew, h.bf, h.rs, h.lo, h.row⟩
theorem Pw.fld (h : Pw w wr g x y i) {j : Nat} (hj : j < 8) : wr.cell? ⟨w.heap.size, j, none⟩ = some (.int .u32 (tn (S2.fld x j))) := by rw [cell_of_row _ _ j _ _ _ h.bf]; exact c8_get x j hj
theorem Pw.at_ (h : Pw w wr g x y i) (hi : i < 8) : wr.cell? ⟨g, i, none⟩ = some (.int .u32 (tn (S2.fld y i))) := by
  have := h.row.cell hi
  rw [if_neg (Nat.lt_irrefl _)] at this
  exact this
theorem Pw.done (h : Pw w wr g x y 8) : wr.heap[g]? = some (.cells (c8 (S2.add x y)) 40 (0, 0)) := by
  obtain ⟨c, hb, hn, hc⟩ := h.row
  rw [hb]
  congr 2
  apply Array.ext_getElem?
  intro j
  by_cases hj : j < 8
  · rw [hc j hj, c8_get _ j hj]; show some (Value.int .u32 (tn (if j < 8 then _ else _))) = _; rw [if_pos hj]
  · rw [Array.getElem?_eq_none (by omega), Array.getElem?_eq_none (by show 8 ≤ j; omega)]
end

set_option maxHeartbeats 1000000 in
set_option maxRecDepth 100000 in
theorem press_any (x : S2.Ch) (s : ByteArray) (w : World) (hs : s.size = 64) (hK : Ks w) :
    Calls Tryd.prog 22 #[.agg (c8 x), .string s] w fun e w' => e = .returned (.agg (c8 (S2.press x s.data.toList))) ∧ Below w.heap.size w w' := by
  have hz := zv64
  have hz8 := zv8
  have hpx : S2.press x s.data.toList = S2.add x (S2.stepsTo (S2.wordsTo s.data.toList 64) x 64) := rfl
  have hss : ∀ t, S2.stepsTo (S2.wordsTo s.data.toList 64) x (t + 1) = S2.step (S2.stepsTo (S2.wordsTo s.data.toList 64) x t) (S2.keys.getD t 0) ((S2.wordsTo s.data.toList 64).getD t 0) := fun t => rfl
  have hs0 : S2.stepsTo (S2.wordsTo s.data.toList 64) x 0 = x := rfl
  have HPX := Lib.hid hpx
  have HSS := Lib.hid hss
  have HS0 := Lib.hid hs0
  have HK := Lib.hid hK
  clear hpx hss hs0 hK
  go_enter Tryd.func22, Tryd.ntmps22
  go_wp2_with fail
  refine (expand_any _ _ hs).mono ?_
  rintro e0 w1 ⟨rfl, hb1⟩
  have hsz := hb1.size
  simp at hsz
  have hpv : Pv w w1 x := ⟨(((Below.refl _ w).alloc (Nat.le_refl _) _).alloc (by simp) _).trans (hb1.mono (by simp; omega)), by rw [hb1.block _ (by simp; omega)]; exact heap_alloc2_old _ _ _,
    by rw [hb1.block _ (by simp)]; exact heap_alloc2_new _ _ _, ((HK.out.alloc _).alloc _).under hb1, HK.out.lt⟩
  clear hb1 hsz
  generalize hL : S2.wordsTo s.data.toList 64 = L at *
  have hnew := heap_alloc_new w1 (.cells (w64 []) 34)
  have hpv2 := hpv.laid (w64 []) (w64 L) 34
  have hw2 := setRow_heap _ _ _ (w64 L) _ _ hnew
  have HL := Lib.hid hL
  have HNEW := Lib.hid hnew
  have HW := Lib.hid hw2
  have HPV := Lib.hid hpv2
  clear hL hnew hw2 hpv hpv2 HK
  go_wp2_with (with_reducible refine wpList_store_row rfl 34 (.tmp 5) (.tmp 21) rfl w1.heap.size (w64 L) rfl rfl 34 (w64 []) HNEW.out (info64 _) (by rw [w64_size, w64_size]) (w64_one _) ?_)
  clear hz HNEW
  generalize (w1.alloc (.cells (w64 []) 34)).setRow w1.heap.size (w64 L) = w2 at *
  obtain ⟨xa, xb, xc, xd, xe, xf, xg, xh⟩ := x
  have f0 := HPV.out.fld (j := 0) (by omega)
  have f1 := HPV.out.fld (j := 1) (by omega)
  have f2 := HPV.out.fld (j := 2) (by omega)
  have f3 := HPV.out.fld (j := 3) (by omega)
  have f4 := HPV.out.fld (j := 4) (by omega)
  have f5 := HPV.out.fld (j := 5) (by omega)
  have f6 := HPV.out.fld (j := 6) (by omega)
  have f7 := HPV.out.fld (j := 7) (by omega)
  simp only [S2.fld] at f0 f1 f2 f3 f4 f5 f6 f7
  generalize hX : (⟨xa, xb, xc, xd, xe, xf, xg, xh⟩ : S2.Ch) = X at *
  have HX := Lib.hid hX
  clear hX
  have HWD := Lib.hid (show w2.drew.drew.heap[w1.heap.size]? = some (.cells (w64 L) 34 (0, 0)) from HW.out)
  refine wp_region_still_lit (by kernel_rfl) (by kernel_rfl) ?_
  change wpStill _ _ (World.drew _) (fun a' => Exit.then _ _ _ a' (World.drew _)) _ _
  iterate 12 still_step
  refine wpStill_nil ?_
  go_wp2_with fail
  refine wp_region_still_lit (by kernel_rfl) (by kernel_rfl) ?_
  change wpStill _ _ (World.drew _) (fun a' => Exit.then _ _ _ a' (World.drew _)) _ _
  iterate 12 still_step
  refine wpStill_nil ?_
  go_wp2_with (with_reducible refine wpList_load_row rfl 34 (.tmp 5) rfl w1.heap.size rfl 34 (w64 L) (0, 0) _ HWD.out Tryd.underlying34 rfl (info64 _) ?_)
  have HPD := Lib.hid HPV.out.drew.drew
  clear HWD HW HPV f0 f1 f2 f3 f4 f5 f6 f7
  go_loopg [6, 7, 8, 9, 10, 11, 12, 13, 39] 64 (fun g va vb vc vd ve vf vg vh i wx => ∃ (t : Nat) (y : S2.Ch), t ≤ 64 ∧ g = 64 - t ∧ i = .int .i64 t ∧ Pv w wx X ∧ y = S2.stepsTo L X t ∧ va = .int .u32 (tn y.a) ∧ vb = .int .u32 (tn y.b) ∧ vc = .int .u32 (tn y.c) ∧ vd = .int .u32 (tn y.d) ∧ ve = .int .u32 (tn y.e) ∧ vf = .int .u32 (tn y.f) ∧ vg = .int .u32 (tn y.g) ∧ vh = .int .u32 (tn y.h))
  case atStart => exact ⟨0, ⟨xa, xb, xc, xd, xe, xf, xg, xh⟩, Nat.zero_le _, rfl, rfl, HPD.out, HX.out.trans HS0.out.symm, rfl, rfl, rfl, rfl, rfl, rfl, rfl, rfl⟩
  case round =>
    obtain ⟨t, ⟨ya, yb, yc, yd, ye, yf, yg, yh⟩, ht, rfl, rfl, hpv, hy, rfl, rfl, rfl, rfl, rfl, rfl, rfl, rfl⟩ := hrel
    clear HPD
    have HY := Lib.hid hy
    clear hy
    by_cases htl : t < 64
    · as_aux_lemma =>
        have h2 : (t : Int) < 64 := by omega
        have h0 : (0 : Int) ≤ t := by omega
        have hkn : ((t : Int)).toNat = t := by omega
        have ck := hpv.ks t htl
        have hg := run_index_row (P := Tryd.prog) Tryd.underlying34 Tryd.isAgg33 Tryd.sizeOf33 htl (w64_get L t htl)
        have hnx := HSS.out t
        generalize S2.keys.getD t 0 = kk at *
        generalize L.getD t 0 = v at *
        rw [← HY.out] at hnx
        have HNX := Lib.hid hnx
        have HPV := Lib.hid hpv.drew
        clear hnx hpv
        go_wp2_with fail
        refine wp_region_still_lit (by kernel_rfl) (by kernel_rfl) ?_
        change wpStill _ _ (World.drew _) (fun a' => Exit.then _ _ _ a' (World.drew _)) _ _
        iterate 2 still_step
        still_call (turn6 _ _)
        iterate 1 still_step
        still_call (turn11 _ _)
        iterate 2 still_step
        still_call (turn25 _ _)
        iterate 18 still_step
        refine wpStill_nil ?_
        have hnot : ∀ z : UInt32, bits .xor .u32 (if IntKind.u32.signed = true then -1 else IntKind.u32.max) (tn z) = tn (~~~z) := fun z => t_not z
        simp only [hnot, t_and, t_xor, t_add_wrap]
        clear hnot
        generalize hone : yh + (S2.turn ye 6 ^^^ S2.turn ye 11 ^^^ S2.turn ye 25) + (ye &&& yf ^^^ ~~~ye &&& yg) + kk + v = one
        have HONE := Lib.hid hone
        clear hone
        go_wp2_with fail
        refine (turn2 _ _).mono ?_
        rintro e w' ⟨rfl, rfl⟩
        go_wp2_with fail
        refine (turn13 _ _).mono ?_
        rintro e w' ⟨rfl, rfl⟩
        go_wp2_with fail
        refine (turn22 _ _).mono ?_
        rintro e w' ⟨rfl, rfl⟩
        go_wp2_with fail
        go_roundg (64 - (t + 1))
        case rel =>
          have ho : S2.one ⟨ya, yb, yc, yd, ye, yf, yg, yh⟩ kk v = one := HONE.out
          refine ⟨t + 1, ⟨one + S2.two ⟨ya, yb, yc, yd, ye, yf, yg, yh⟩, ya, yb, yc, yd + one, ye, yf, yg⟩, by omega, rfl, by go_num, HPV.out, ?_, rfl, rfl, rfl, rfl, rfl, rfl, rfl, rfl⟩
          rw [HNX.out, S2.step, ho]
        case measure => omega
    · obtain rfl : t = 64 := by omega
      have hfin := HPX.out
      rw [← HY.out] at hfin
      have HF := Lib.hid hfin
      obtain ⟨gg, hgg⟩ : ∃ gg, wr.heap.size = gg := ⟨_, rfl⟩
      have hst : Pw w (wr.alloc (.cells #[.int .u32 (tn ya), .int .u32 (tn yb), .int .u32 (tn yc), .int .u32 (tn yd), .int .u32 (tn ye), .int .u32 (tn yf), .int .u32 (tn yg), .int .u32 (tn yh)] 40)) gg X ⟨ya, yb, yc, yd, ye, yf, yg, yh⟩ 0 := Pw.start hpv ⟨ya, yb, yc, yd, ye, yf, yg, yh⟩ gg hgg
      have HST := Lib.hid hst
      have HGG := Lib.hid hgg
      clear hfin hst hpv hgg hz8
      go_wp2_with fail
      generalize wr.alloc (.cells #[.int .u32 (tn ya), .int .u32 (tn yb), .int .u32 (tn yc), .int .u32 (tn yd), .int .u32 (tn ye), .int .u32 (tn yf), .int .u32 (tn yg), .int .u32 (tn yh)] 40) = w3 at *
      rw [HGG.out]
      clear HGG
      go_loopg [110] 8 (fun g i wx => ∃ k : Nat, k ≤ 8 ∧ g = 8 - k ∧ i = .int .i64 k ∧ Pw w wx gg X ⟨ya, yb, yc, yd, ye, yf, yg, yh⟩ k)
      case atStart => exact ⟨0, Nat.zero_le _, rfl, rfl, HST.out⟩
      case round =>
        obtain ⟨k, hk, rfl, rfl, hpw⟩ := hrel
        clear HST
        by_cases hkl : k < 8
        · have h2 : (k : Int) < 8 := by omega
          have h0 : (0 : Int) ≤ k := by omega
          have hkn : ((k : Int)).toNat = k := by omega
          have c1 := hpw.at_ hkl
          have c2 := hpw.fld hkl
          have cf := hpw.row.frozen k
          have HPUT := Lib.hid (hpw.put hkl rfl)
          clear hpw
          generalize S2.fld ⟨ya, yb, yc, yd, ye, yf, yg, yh⟩ k = p1 at *
          generalize S2.fld X k = p2 at *
          go_wp2_with fail
          refine wp_region_still_tail 7 (by kernel_rfl) (by kernel_rfl) ?_
          simp only [List.take_succ_cons, List.take_zero, List.drop_succ_cons, List.drop_zero]
          change wpStill _ _ (World.drew _) (fun a' => wpList _ _ _ _ a' (World.drew _)) _ _
          iterate 7 still_step
          refine wpStill_nil ?_
          go_wp2
          go_roundg (8 - (k + 1))
          case rel => exact ⟨k + 1, by omega, rfl, by go_num, HPUT.out.drew⟩
          case measure => omega
        · obtain rfl : k = 8 := by omega
          have hd := hpw.done
          have hr := hpw.rs
          have hbl := hpw.below
          clear hpw
          rw [← HF.out] at hd
          generalize hPR : S2.press X s.data.toList = PR at *
          have HPR := Lib.hid hPR
          have HD := Lib.hid hd
          have HR := Lib.hid hr
          clear hPR hd hr
          go_wp2_with (first
            | (with_reducible refine wpList_load_row rfl 40 (.tmp 18) rfl gg rfl 40 (c8 PR) (0, 0) _ HD.out Tryd.underlying40 rfl (info8 _) ?_)
            | (with_reducible refine wpList_store_row rfl 40 (.tmp 4) (.tmp 122) rfl (w.heap.size + 1) (c8 PR) rfl rfl 40 (c8 ⟨0, 0, 0, 0, 0, 0, 0, 0⟩) HR.out (info8 _) (c8_sizes _ _) (c8_one _) ?_))
          refine bodyPost_ret (results_cell_row Tryd.results22 _ _ (w.heap.size + 1) 40 (c8 PR) (0, 0) _ rfl (setRow_heap _ _ _ _ _ _ HR.out) Tryd.underlying40 rfl (info8 _)) rfl ⟨by rw [HX.out, HPR.out], ?_⟩
          exact below_row hbl (Nat.le_succ _) _
end Go.Proofs.YtanmhpcfklageaaDoor.Ho
