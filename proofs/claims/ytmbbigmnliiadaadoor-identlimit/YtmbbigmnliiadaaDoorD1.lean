/-
  Contracts of the program's mixed, ahead and back (package detect), and of the library's RotateLeft32 at the numbers that layer 5 hands it.
  Contracts of the program's hasRow and row (package detect): whether a vector has a row; its row of 85 words.
  The contract of the program's Difference (package detect).
-/
import Derived.Test.YtmbbigmnliiadaaDoorDa
import Derived.Test.YtmbbigmnliiadaaDoorP1
namespace Go.Proofs.YtmbbigmnliiadaaDoor.Hd
open Go.RowKit Hs Hp
set_option linter.unusedVariables false
attribute [local go_sem] t_and t_or t_xor t_not t_add t_sub t_add_wrap t_sub_wrap

theorem rotl2 (x : UInt32) (w : World) : Calls Tryd.prog 66 #[.int .u32 (tn x), .int .i64 2] w fun e w' => e = .returned (.int .u32 (tn (Sh.rot x 2))) ∧ w = w' := by
  have hx := tn_lt x
  have hx0 := tn_nonneg x
  have hs : tn x * 4 % 4294967296 = tn (x <<< UInt32.ofNat 2) := t_shl x 2 (by omega)
  have hr : tn x / 1073741824 = tn (x >>> UInt32.ofNat 30) := t_shr x 30 (by omega)
  have hb : bits .and .u64 2 31 = 2 := by decide +kernel
  go_enter Tryd.func66, Tryd.ntmps66
  go_wp2
  go_ret
  exact ⟨rfl, rfl⟩
theorem rotl31 (x : UInt32) (w : World) : Calls Tryd.prog 66 #[.int .u32 (tn x), .int .i64 31] w fun e w' => e = .returned (.int .u32 (tn (Sh.rot x 31))) ∧ w = w' := by
  have hx := tn_lt x
  have hx0 := tn_nonneg x
  have hs : tn x * 2147483648 % 4294967296 = tn (x <<< UInt32.ofNat 31) := t_shl x 31 (by omega)
  have hr : tn x / 2 = tn (x >>> UInt32.ofNat 1) := t_shr x 1 (by omega)
  have hb : bits .and .u64 31 31 = 31 := by decide +kernel
  go_enter Tryd.func66, Tryd.ntmps66
  go_wp2
  go_ret
  exact ⟨rfl, rfl⟩

theorem rotlT (B : Nat) (hB : B < 32) (w : World) : Calls Tryd.prog 66 #[.int .u32 1, .int .i64 (31 + B)] w fun e w' => e = .returned (.int .u32 (tn ((1 : UInt32) <<< UInt32.ofNat ((31 + B) % 32)))) ∧ w = w' := by
  have hb : bits .and .u64 (31 + B) 31 = (((31 + B) % 32 : Nat) : Int) := by
    have h : ∀ b : Fin 32, bits .and .u64 (31 + (b.val : Int)) 31 = (((31 + b.val) % 32 : Nat) : Int) := by decide +kernel
    exact h ⟨B, hB⟩
  have hs : (31 + B) % 32 < 32 := by omega
  generalize (31 + B) % 32 = s at *
  go_enter Tryd.func66, Tryd.ntmps66
  go_wp2
  go_ret
  refine ⟨ret_int ?_, rfl⟩
  have h : ∀ b : Fin 32, bits .or .u32 (2 ^ b.val % 4294967296) (1 / 2 ^ (32 - b.val)) = tn ((1 : UInt32) <<< UInt32.ofNat b.val) := by decide +kernel
  exact h ⟨s, hs⟩

theorem dmixed_any (t : Int) (b c d : UInt32) (w : World) : Calls Tryd.prog 73 #[.int .u32 (tn b), .int .u32 (tn c), .int .u32 (tn d), .int .i64 t] w fun e w' => e = .returned (.int .u32 (tn (Sh.mix t.toNat b c d))) ∧ w = w' := by
  by_cases h1 : t < 20
  · have hv : Sh.mix t.toNat b c d = ((b &&& c) ||| (~~~b &&& d)) + 0x5a827999 := by rw [Sh.mix, if_pos (by omega)]
    have HV := Lib.hid hv
    clear hv
    go_enter Tryd.func73, Tryd.ntmps73
    go_wp2
    go_ret
    exact ⟨ret_int ((k1 _).trans (congrArg tn HV.out.symm)), rfl⟩
  · by_cases h2 : t < 40
    · have hv : Sh.mix t.toNat b c d = (b ^^^ c ^^^ d) + 0x6ed9eba1 := by rw [Sh.mix, if_neg (by omega), if_pos (by omega)]
      have HV := Lib.hid hv
      clear hv
      go_enter Tryd.func73, Tryd.ntmps73
      go_wp2
      go_ret
      exact ⟨ret_int ((k2 _).trans (congrArg tn HV.out.symm)), rfl⟩
    · by_cases h3 : t < 60
      · have hv : Sh.mix t.toNat b c d = ((b &&& c) ||| (b &&& d) ||| (c &&& d)) + 0x8f1bbcdc := by rw [Sh.mix, if_neg (by omega), if_neg (by omega), if_pos (by omega)]
        have HV := Lib.hid hv
        clear hv
        go_enter Tryd.func73, Tryd.ntmps73
        go_wp2
        go_ret
        exact ⟨ret_int ((k3 _).trans (congrArg tn HV.out.symm)), rfl⟩
      · have hv : Sh.mix t.toNat b c d = (b ^^^ c ^^^ d) + 0xca62c1d6 := by rw [Sh.mix, if_neg (by omega), if_neg (by omega), if_neg (by omega)]
        have HV := Lib.hid hv
        clear hv
        go_enter Tryd.func73, Tryd.ntmps73
        go_wp2
        go_ret
        exact ⟨ret_int ((k4 _).trans (congrArg tn HV.out.symm)), rfl⟩

/-- the state of ahead and back: the words and the result's row, behind the chain -/
structure Ah (w wr : World) (W : List UInt32) : Prop where
  below : Below w.heap.size w wr
  wd : wr.heap[w.heap.size + 1]? = some (.cells (ws W) 73 (0, 0))
  res : wr.heap[w.heap.size + 1 + 1]? = some (.cells #[.int .u32 0, .int .u32 0, .int .u32 0, .int .u32 0, .int .u32 0] 70 (0, 0))
theorem Ah.drew {w wr : World} {W : List UInt32} (h : Ah w wr W) : Ah w wr.drew W := ⟨h.below.drew, h.wd, h.res⟩
theorem Ah.start (w : World) (x : Array Value) (W : List UInt32) : Ah w (((w.alloc (.cells x 70)).alloc (.cells (ws W) 73)).alloc (.cells #[.int .u32 0, .int .u32 0, .int .u32 0, .int .u32 0, .int .u32 0] 70)) W := by
  refine ⟨(((Below.refl _ w).alloc (Nat.le_refl _) _).alloc (by simp) _).alloc (by simp; omega) _, ?_, ?_⟩
  · rw [heap_alloc_old _ _ (by simp)]; exact heap_alloc2_new _ _ _
  · have := heap_alloc_new ((w.alloc (.cells x 70)).alloc (.cells (ws W) 73)) (.cells #[.int .u32 0, .int .u32 0, .int .u32 0, .int .u32 0, .int .u32 0] 70)
    simpa using this
theorem Ah.first (w : World) (x : Array Value) (W : List UInt32) : (((w.alloc (.cells x 70)).alloc (.cells (ws W) 73)).alloc (.cells #[.int .u32 0, .int .u32 0, .int .u32 0, .int .u32 0, .int .u32 0] 70)).heap[w.heap.size]? = some (.cells x 70 (0, 0)) := by
  rw [heap_alloc_old _ _ (by simp; omega)]; exact heap_alloc2_old _ _ _
theorem row_of32 {w : World} {g : Nat} {l : List UInt32} (h : w.heap[g]? = some (.cells (ws l) 73 (0, 0))) (j : Nat) (hj : j < 80) : w.cell? ⟨g, j, none⟩ = some (.int .u32 (tn (l.getD j 0))) := by
  rw [cell_of_row w g j _ _ _ h]; simp [ws, hj]

set_option maxHeartbeats 2000000 in
set_option maxRecDepth 100000 in
theorem ahead_any (x : Sh.Ch) (W : List UInt32) (a m : Nat) (w : World) (h : a + m ≤ 80) :
    Calls Tryd.prog 60 #[.agg (cs x), .agg (ws W), .int .i64 a, .int .i64 ((a + m : Nat) : Int)] w fun e w' => e = .returned (.agg (cs (Dv.fore W x a m))) ∧ Below w.heap.size w w' := by
  obtain ⟨p, q, r, s, u⟩ := x
  have hS : ∀ n, Dv.fore W ⟨p, q, r, s, u⟩ a (n + 1) = Sh.step (Dv.fore W ⟨p, q, r, s, u⟩ a n) (a + n) (W.getD (a + n) 0) := fun n => rfl
  have hS0 : Dv.fore W ⟨p, q, r, s, u⟩ a 0 = ⟨p, q, r, s, u⟩ := rfl
  have HS := Lib.hid hS
  have HS0 := Lib.hid hS0
  clear hS hS0
  unfold cs
  have hA := Ah.start w #[.int .u32 (tn p), .int .u32 (tn q), .int .u32 (tn r), .int .u32 (tn s), .int .u32 (tn u)] W
  have hF := Ah.first w #[.int .u32 (tn p), .int .u32 (tn q), .int .u32 (tn r), .int .u32 (tn s), .int .u32 (tn u)] W
  have HA := Lib.hid hA
  have HF := Lib.hid hF
  clear hA hF
  generalize hv : ((a + m : Nat) : Int) = e at *
  have he : e = (a : Int) + m := by omega
  clear hv
  go_enter Tryd.func60, Tryd.ntmps60
  go_wp2_with fail
  generalize ((w.alloc (.cells #[.int .u32 (tn p), .int .u32 (tn q), .int .u32 (tn r), .int .u32 (tn s), .int .u32 (tn u)] 70)).alloc (.cells (ws W) 73)).alloc (.cells #[.int .u32 0, .int .u32 0, .int .u32 0, .int .u32 0, .int .u32 0] 70) = w2 at *
  have c0 := cell_of_row w2 w.heap.size 0 _ _ _ HF.out
  have c1 := cell_of_row w2 w.heap.size 1 _ _ _ HF.out
  have c2 := cell_of_row w2 w.heap.size 2 _ _ _ HF.out
  have c3 := cell_of_row w2 w.heap.size 3 _ _ _ HF.out
  have c4 := cell_of_row w2 w.heap.size 4 _ _ _ HF.out
  simp at c0 c1 c2 c3 c4
  refine wp_region_still_lit (by kernel_rfl) (by kernel_rfl) ?_
  change wpStill _ _ (World.drew _) (fun a' => Exit.then _ _ _ a' (World.drew _)) _ _
  iterate 15 still_step
  refine wpStill_nil ?_
  go_wp2
  go_loopg [9, 10, 11, 12, 13, 14] m (fun g va vb vc vd ve i wr => ∃ (n : Nat) (y : Sh.Ch), n ≤ m ∧ g = m - n ∧ i = .int .i64 ((a + n : Nat) : Int) ∧ Ah w wr W ∧ y = Dv.fore W ⟨p, q, r, s, u⟩ a n ∧ va = .int .u32 (tn y.a) ∧ vb = .int .u32 (tn y.b) ∧ vc = .int .u32 (tn y.c) ∧ vd = .int .u32 (tn y.d) ∧ ve = .int .u32 (tn y.e))
  case atStart => exact ⟨0, ⟨p, q, r, s, u⟩, Nat.zero_le _, rfl, by simp, HA.out.drew, HS0.out.symm, rfl, rfl, rfl, rfl, rfl⟩
  case round =>
    obtain ⟨n, ⟨ya, yb, yc, yd, ye⟩, hn, rfl, rfl, hW, hy, rfl, rfl, rfl, rfl, rfl⟩ := hrel
    have HY := Lib.hid hy
    clear hy c0 c1 c2 c3 c4 HF HA
    by_cases hlt : n < m
    · have h1 : ((a + n : Nat) : Int) < (a : Int) + m := by omega
      have h2 : ((a + n : Nat) : Int) < 80 := by omega
      have h0 : (0 : Int) ≤ ((a + n : Nat) : Int) := by omega
      have HQ := Lib.hid (show ((a + n : Nat) : Int) + 1 = ((a + (n + 1) : Nat) : Int) by omega)
      have hcell : wr.cell? ⟨w.heap.size + 1, a + n, none⟩ = some (.int .u32 (tn (W.getD (a + n) 0))) := row_of32 hW.wd (a + n) (by omega)
      have hnx := HS.out n
      generalize W.getD (a + n) 0 = v at *
      rw [← HY.out] at hnx
      have HNX := Lib.hid hnx
      have HW := Lib.hid hW
      clear hnx hW
      generalize a + n = k at *
      go_wp2_with fail
      refine wp_region_still_lit (by kernel_rfl) (by kernel_rfl) ?_
      change wpStill _ _ (World.drew _) (fun a' => Exit.inBlock _ _ _ a' (World.drew _)) _ _
      still_step
      still_call (flip_ (rotl5 _ _))
      iterate 4 still_step
      still_call (flip_ (dmixed_any _ _ _ _ _))
      iterate 9 still_step
      still_call (flip_ (rotl30 _ _))
      iterate 7 still_step
      refine wpStill_nil ?_
      go_wp2
      go_roundg (m - (n + 1))
      case rel => exact ⟨n + 1, Sh.step ⟨ya, yb, yc, yd, ye⟩ k v, by omega, rfl, by rw [← HQ.out], HW.out.drew, HNX.out.symm, rfl, rfl, rfl, rfl, rfl⟩
      case measure => omega
    · obtain rfl : n = m := by omega
      have HRD := Lib.hid hW.res
      have HB := Lib.hid hW.below
      clear hW
      go_wp2_with (with_reducible refine wpList_store_row rfl 70 (.tmp 8) (.tmp 55) rfl (w.heap.size + 1 + 1) #[.int .u32 (tn ya), .int .u32 (tn yb), .int .u32 (tn yc), .int .u32 (tn yd), .int .u32 (tn ye)] rfl rfl 70 _ HRD.out (info28' _ _ _ _ _) (size5 _ _ _ _ _ _ _ _ _ _) (one5 _ _ _ _ _) ?_)
      refine bodyPost_ret (results_cell_row Tryd.results60 _ _ (w.heap.size + 1 + 1) 70 #[.int .u32 (tn ya), .int .u32 (tn yb), .int .u32 (tn yc), .int .u32 (tn yd), .int .u32 (tn ye)] (0, 0) _ rfl (setRow_heap _ _ _ _ _ _ HRD.out) Tryd.underlying70 rfl (info28' _ _ _ _ _)) rfl ⟨by rw [← HY.out], ?_⟩
      exact below_setRow HB.out (by omega) _
set_option maxHeartbeats 2000000 in
set_option maxRecDepth 100000 in
theorem dback_any (x : Sh.Ch) (W : List UInt32) (a : Nat) (w : World) (h : a ≤ 80) :
    Calls Tryd.prog 63 #[.agg (cs x), .agg (ws W), .int .i64 a] w fun e w' => e = .returned (.agg (cs (Dv.rear W x a a))) ∧ Below w.heap.size w w' := by
  obtain ⟨p, q, r, s, u⟩ := x
  have hS : ∀ n, Dv.rear W ⟨p, q, r, s, u⟩ a (n + 1) = Sh.back (Dv.rear W ⟨p, q, r, s, u⟩ a n) (a - 1 - n) (W.getD (a - 1 - n) 0) := fun n => rfl
  have hS0 : Dv.rear W ⟨p, q, r, s, u⟩ a 0 = ⟨p, q, r, s, u⟩ := rfl
  have HS := Lib.hid hS
  have HS0 := Lib.hid hS0
  clear hS hS0
  unfold cs
  have hA := Ah.start w #[.int .u32 (tn p), .int .u32 (tn q), .int .u32 (tn r), .int .u32 (tn s), .int .u32 (tn u)] W
  have hF := Ah.first w #[.int .u32 (tn p), .int .u32 (tn q), .int .u32 (tn r), .int .u32 (tn s), .int .u32 (tn u)] W
  have HA := Lib.hid hA
  have HF := Lib.hid hF
  clear hA hF
  go_enter Tryd.func63, Tryd.ntmps63
  go_wp2_with fail
  generalize ((w.alloc (.cells #[.int .u32 (tn p), .int .u32 (tn q), .int .u32 (tn r), .int .u32 (tn s), .int .u32 (tn u)] 70)).alloc (.cells (ws W) 73)).alloc (.cells #[.int .u32 0, .int .u32 0, .int .u32 0, .int .u32 0, .int .u32 0] 70) = w2 at *
  have c0 := cell_of_row w2 w.heap.size 0 _ _ _ HF.out
  have c1 := cell_of_row w2 w.heap.size 1 _ _ _ HF.out
  have c2 := cell_of_row w2 w.heap.size 2 _ _ _ HF.out
  have c3 := cell_of_row w2 w.heap.size 3 _ _ _ HF.out
  have c4 := cell_of_row w2 w.heap.size 4 _ _ _ HF.out
  simp at c0 c1 c2 c3 c4
  refine wp_region_still_lit (by kernel_rfl) (by kernel_rfl) ?_
  change wpStill _ _ (World.drew _) (fun a' => Exit.then _ _ _ a' (World.drew _)) _ _
  iterate 15 still_step
  refine wpStill_nil ?_
  go_wp2
  go_loopg [7, 8, 9, 10, 11, 12] a (fun g va vb vc vd ve i wr => ∃ (n : Nat) (y : Sh.Ch), n ≤ a ∧ g = a - n ∧ i = .int .i64 ((a : Int) - 1 - n) ∧ Ah w wr W ∧ y = Dv.rear W ⟨p, q, r, s, u⟩ a n ∧ va = .int .u32 (tn y.a) ∧ vb = .int .u32 (tn y.b) ∧ vc = .int .u32 (tn y.c) ∧ vd = .int .u32 (tn y.d) ∧ ve = .int .u32 (tn y.e))
  case atStart => exact ⟨0, ⟨p, q, r, s, u⟩, Nat.zero_le _, rfl, by simp, HA.out.drew, HS0.out.symm, rfl, rfl, rfl, rfl, rfl⟩
  case round =>
    obtain ⟨n, ⟨ya, yb, yc, yd, ye⟩, hn, rfl, rfl, hW, hy, rfl, rfl, rfl, rfl, rfl⟩ := hrel
    have HY := Lib.hid hy
    clear hy c0 c1 c2 c3 c4 HF HA
    by_cases hlt : n < a
    · have hk : ((a : Int) - 1 - n) = ((a - 1 - n : Nat) : Int) := by omega
      rw [hk]
      have h1 : a - 1 - n < 80 := by omega
      have h2 : ((a - 1 - n : Nat) : Int) < 80 := by omega
      have h0 : (0 : Int) ≤ ((a - 1 - n : Nat) : Int) := by omega
      have hq : ((a - 1 - n : Nat) : Int) - 1 = (a : Int) - 1 - ((n + 1 : Nat) : Int) := by omega
      have HQ := Lib.hid hq
      have hcell : wr.cell? ⟨w.heap.size + 1, a - 1 - n, none⟩ = some (.int .u32 (tn (W.getD (a - 1 - n) 0))) := row_of32 hW.wd (a - 1 - n) h1
      have hnx := HS.out n
      generalize W.getD (a - 1 - n) 0 = v at *
      rw [← HY.out] at hnx
      have HNX := Lib.hid hnx
      have HW := Lib.hid hW
      clear hnx hW hq hk h1
      generalize a - 1 - n = k at *
      go_wp2_with fail
      refine wp_region_still_lit (by kernel_rfl) (by kernel_rfl) ?_
      change wpStill _ _ (World.drew _) (fun a' => Exit.inBlock _ _ _ a' (World.drew _)) _ _
      iterate 2 still_step
      still_call (flip_ (rotl2 _ _))
      iterate 4 still_step
      still_call (flip_ (rotl5 _ _))
      iterate 2 still_step
      still_call (flip_ (rotl2 _ _))
      iterate 3 still_step
      still_call (flip_ (dmixed_any _ _ _ _ _))
      iterate 10 still_step
      refine wpStill_nil ?_
      go_wp2
      go_roundg (a - (n + 1))
      case rel => exact ⟨n + 1, Sh.back ⟨ya, yb, yc, yd, ye⟩ k v, by omega, rfl, by rw [← HQ.out], HW.out.drew, HNX.out.symm, rfl, rfl, rfl, rfl, by rw [sub3]; rfl⟩
      case measure => omega
    · obtain rfl : n = a := by omega
      have HRD := Lib.hid hW.res
      have HB := Lib.hid hW.below
      clear hW
      go_wp2_with (with_reducible refine wpList_store_row rfl 70 (.tmp 6) (.tmp 54) rfl (w.heap.size + 1 + 1) #[.int .u32 (tn ya), .int .u32 (tn yb), .int .u32 (tn yc), .int .u32 (tn yd), .int .u32 (tn ye)] rfl rfl 70 _ HRD.out (info28' _ _ _ _ _) (size5 _ _ _ _ _ _ _ _ _ _) (one5 _ _ _ _ _) ?_)
      refine bodyPost_ret (results_cell_row Tryd.results63 _ _ (w.heap.size + 1 + 1) 70 #[.int .u32 (tn ya), .int .u32 (tn yb), .int .u32 (tn yc), .int .u32 (tn yd), .int .u32 (tn ye)] (0, 0) _ rfl (setRow_heap _ _ _ _ _ _ HRD.out) Tryd.underlying70 rfl (info28' _ _ _ _ _)) rfl ⟨by rw [← HY.out], ?_⟩
      exact below_setRow HB.out (by omega) _
end Go.Proofs.YtmbbigmnliiadaaDoor.Hd
namespace Go.Proofs.YtmbbigmnliiadaaDoor.Hd
open Go.RowKit Hs Hp
set_option linter.unusedVariables false
attribute [local go_sem] t_and t_or t_xor t_not t_add t_sub t_add_wrap t_sub_wrap

/-- a vector as cells -/
def vs (ty K B : Int) : Array Value := #[.int .i64 ty, .int .i64 K, .int .i64 B]

theorem hasRow_any (ty K B : Int) (w : World) :
    Calls Tryd.prog 64 #[.agg (vs ty K B)] w fun e w' => e = .returned (.bool (decide (Dv.ok ty K B))) ∧ Below w.heap.size w w' := by
  have hbl := (Below.refl w.heap.size w).alloc (Nat.le_refl _) (.cells (vs ty K B) 82)
  have HB := Lib.hid hbl
  clear hbl
  unfold vs at *
  by_cases h1 : ty = 1 ∨ ty = 2
  · by_cases h3 : 0 ≤ K
    · by_cases h4 : K ≤ 64
      · by_cases h5 : 0 ≤ B
        · by_cases h6 : B < 32
          · have hv : decide (Dv.ok ty K B) = true := decide_eq_true ⟨h1, h3, h4, h5, by omega⟩
            have HV := Lib.hid hv
            clear hv
            rcases h1 with rfl | rfl
            all_goals
              go_enter Tryd.func64, Tryd.ntmps64
              go_wp2
              go_ret
              exact ⟨by rw [HV.out]; rfl, HB.out⟩
          · have hv : decide (Dv.ok ty K B) = false := decide_eq_false fun h => h6 (by have := h.2.2.2.2; omega)
            have HV := Lib.hid hv
            clear hv
            rcases h1 with rfl | rfl
            all_goals
              go_enter Tryd.func64, Tryd.ntmps64
              go_wp2
              go_ret
              exact ⟨by rw [HV.out]; rfl, HB.out⟩
        · have hv : decide (Dv.ok ty K B) = false := decide_eq_false fun h => h5 h.2.2.2.1
          have HV := Lib.hid hv
          clear hv
          rcases h1 with rfl | rfl
          all_goals
            go_enter Tryd.func64, Tryd.ntmps64
            go_wp2
            go_ret
            exact ⟨by rw [HV.out]; rfl, HB.out⟩
      · have hv : decide (Dv.ok ty K B) = false := decide_eq_false fun h => h4 h.2.2.1
        have HV := Lib.hid hv
        clear hv
        rcases h1 with rfl | rfl
        all_goals
          go_enter Tryd.func64, Tryd.ntmps64
          go_wp2
          go_ret
          exact ⟨by rw [HV.out]; rfl, HB.out⟩
    · have hv : decide (Dv.ok ty K B) = false := decide_eq_false fun h => h3 h.2.1
      have HV := Lib.hid hv
      clear hv
      rcases h1 with rfl | rfl
      all_goals
        go_enter Tryd.func64, Tryd.ntmps64
        go_wp2
        go_ret
        exact ⟨by rw [HV.out]; rfl, HB.out⟩
  · have hv : decide (Dv.ok ty K B) = false := decide_eq_false fun h => h1 h.1
    have HV := Lib.hid hv
    have h11 : ¬ ty = 1 := fun h => h1 (.inl h)
    have h12 : ¬ ty = 2 := fun h => h1 (.inr h)
    clear hv h1
    go_enter Tryd.func64, Tryd.ntmps64
    go_wp2
    go_ret
    exact ⟨by rw [HV.out]; rfl, HB.out⟩

/-! ### rows of 85 words -/
def ds (f : Nat → UInt32) : Array Value := ((List.range 85).map fun j => .int .u32 (tn (f j))).toArray
def nought (_ : Nat) : UInt32 := 0
theorem ds_size (f : Nat → UInt32) : (ds f).size = 85 := by simp [ds]
theorem ds_sizes (f g : Nat → UInt32) : (ds f).size = (ds g).size := by rw [ds_size, ds_size]
theorem ds_one (f : Nat → UInt32) : (ds f).all (·.oneCell') = true := by simp [ds, Value.oneCell']
theorem ds_get (f : Nat → UInt32) (t : Nat) (h : t < 85) : (ds f)[t]? = some (.int .u32 (tn (f t))) := by simp [ds, h]
theorem zv85 (w : World) : (zeroValue 103).run Tryd.prog w = .ok (.agg (ds nought)) w := by kernel_rfl
theorem info85 (f : Nat → UInt32) : (Tryd.prog.info? 103).map (·.size) = some (ds f).size := by
  have : (Tryd.prog.info? 103).map (·.size) = some 85 := by kernel_rfl
  rw [ds_size, this]
theorem row_ds {w : World} {g : Nat} {f : Nat → UInt32} (h : w.heap[g]? = some (.cells (ds f) 103 (0, 0))) : w.rowIs g 103 85 (fun j => .int .u32 (tn (f j))) := ⟨ds f, h, ds_size f, fun i hi => ds_get f i hi⟩
theorem ds_row {w : World} {g : Nat} {f : Nat → UInt32} (h : w.rowIs g 103 85 (fun j => .int .u32 (tn (f j)))) : w.heap[g]? = some (.cells (ds f) 103 (0, 0)) := by
  obtain ⟨c, hb, hn, hc⟩ := h
  rw [hb]
  congr 2
  apply Array.ext_getElem?
  intro i
  by_cases hi : i < 85
  · rw [hc i hi, ds_get f i hi]
  · rw [Array.getElem?_eq_none (by omega), Array.getElem?_eq_none (by rw [ds_size]; omega)]
theorem ds_put {w : World} {g : Nat} {f : Nat → UInt32} (h : w.rowIs g 103 85 (fun j => .int .u32 (tn (f j)))) (i : Nat) (v : UInt32) :
    (w.setCell ⟨g, i, none⟩ (.int .u32 (tn v))).rowIs g 103 85 (fun j => .int .u32 (tn (Dv.setAt f i v j))) :=
  (h.set i _).congr fun j _ => by unfold Dv.setAt; split <;> rfl

theorem ds_set (f : Nat → UInt32) (i : Nat) (v : UInt32) : (ds f).setIfInBounds i (.int .u32 (tn v)) = ds (Dv.setAt f i v) := by
  apply Array.ext_getElem?
  intro j
  by_cases hj : j < 85
  · rw [ds_get _ j hj, Array.getElem?_setIfInBounds, ds_size, ds_get _ j hj]
    unfold Dv.setAt
    by_cases h : i = j
    · subst h; simp [hj]
    · rw [if_neg h, if_neg (fun e => h e.symm)]
  · rw [Array.getElem?_eq_none (by rw [Array.size_setIfInBounds, ds_size]; omega), Array.getElem?_eq_none (by rw [ds_size]; omega)]

/-- the state of row: the result's row, the row -/
structure Rw (w wr : World) (f : Nat → UInt32) : Prop where
  below : Below w.heap.size w wr
  res : wr.heap[w.heap.size + 1]? = some (.cells (ds nought) 103 (0, 0))
  row : wr.rowIs (w.heap.size + 1 + 1) 103 85 (fun j => .int .u32 (tn (f j)))
section
variable {w wr : World} {f : Nat → UInt32}
theorem Rw.drew (h : Rw w wr f) : Rw w wr.drew f := ⟨h.below.drew, h.res, h.row⟩
theorem Rw.put (h : Rw w wr f) (i : Nat) (x : UInt32) : Rw w (wr.setCell ⟨w.heap.size + 1 + 1, i, none⟩ (.int .u32 (tn x))) (Dv.setAt f i x) :=
  ⟨h.below.setCell (by simp; omega) _, by rw [heap_setCell_other _ _ _ _ (by simp)]; exact h.res, ds_put h.row i x⟩
theorem Rw.at_ (h : Rw w wr f) (j : Nat) (hj : j < 85) : wr.cell? ⟨w.heap.size + 1 + 1, j, none⟩ = some (.int .u32 (tn (f j))) := h.row.cell hj
theorem Rw.start (w : World) (v : Array Value) (T : TypeId) (c : Array Value) (f : Nat → UInt32) (hc : c = ds f) : Rw w (((w.alloc (.cells v T)).alloc (.cells (ds nought) 103)).alloc (.cells c 103)) f := by
  subst hc
  refine ⟨(((Below.refl _ w).alloc (Nat.le_refl _) _).alloc (by simp) _).alloc (by simp; omega) _, ?_, row_ds ?_⟩
  · rw [heap_alloc_old _ _ (by simp)]; exact heap_alloc2_new _ _ _
  · have := heap_alloc_new ((w.alloc (.cells v T)).alloc (.cells (ds nought) 103)) (.cells (ds f) 103)
    simpa using this
end
theorem start_one (K B : Nat) : Dv.setAt nought (K + 20) ((1 : UInt32) <<< UInt32.ofNat B) = Dv.start 1 K B := by
  funext j
  unfold Dv.setAt Dv.start nought
  by_cases h : j = K + 20
  · rw [if_pos h, if_pos h]
  · rw [if_neg h, if_neg h, if_neg (by omega)]
theorem start_two (K B : Nat) : Dv.setAt (Dv.setAt (Dv.setAt nought (K + 6) ((1 : UInt32) <<< UInt32.ofNat ((31 + B) % 32))) (K + 8) ((1 : UInt32) <<< UInt32.ofNat ((31 + B) % 32))) (K + 20) ((1 : UInt32) <<< UInt32.ofNat B) = Dv.start 2 K B := by
  funext j
  unfold Dv.setAt Dv.start nought
  by_cases h : j = K + 20
  · rw [if_pos h, if_pos h]
  · rw [if_neg h, if_neg h]
    by_cases h8 : j = K + 8
    · rw [if_pos h8, if_pos ⟨rfl, .inl h8⟩]
    · rw [if_neg h8]
      by_cases h6 : j = K + 6
      · rw [if_pos h6, if_pos ⟨rfl, .inr h6⟩]
      · rw [if_neg h6, if_neg (by omega)]
theorem shl_one (B : Nat) (h : B < 32) : (2 : Int) ^ B % 4294967296 = tn ((1 : UInt32) <<< UInt32.ofNat B) := by
  have h' : ∀ b : Fin 32, (2 : Int) ^ b.val % 4294967296 = tn ((1 : UInt32) <<< UInt32.ofNat b.val) := by decide +kernel
  exact h' ⟨B, h⟩

set_option maxHeartbeats 4000000 in
set_option maxRecDepth 100000 in
theorem row_any (ty : Int) (K B : Nat) (w : World) (ht : ty = 1 ∨ ty = 2) (hK : K ≤ 64) (hB : B < 32) :
    Calls Tryd.prog 65 #[.agg (vs ty K B)] w fun e w' => e = .returned (.agg (ds (Dv.row ty.toNat K B))) ∧ Below w.heap.size w w' := by
  have hz := zv85
  have hsh := shl_one B hB
  have s1 : ty = 1 → Dv.setAt nought (K + 20) ((1 : UInt32) <<< UInt32.ofNat B) = Dv.start ty.toNat K B := fun h => by subst h; exact start_one K B
  have s2 : ty = 2 → _ = Dv.start ty.toNat K B := fun h => by subst h; exact start_two K B
  generalize (1 : UInt32) <<< UInt32.ofNat B = vB at *
  have hrow : Dv.row ty.toNat K B = Dv.bwd (Dv.fwd (Dv.start ty.toNat K B) (K + 21) (64 - K)) (K + 4) (K + 5) := rfl
  generalize Dv.start ty.toNat K B = S at *
  generalize Dv.row ty.toNat K B = R at *
  have HS1 := Lib.hid s1
  have HS2 := Lib.hid s2
  have HR := Lib.hid hrow
  have hr := rotlT B hB
  generalize (1 : UInt32) <<< UInt32.ofNat ((31 + B) % 32) = vT at *
  have HRT := Lib.hid hr
  clear s1 s2 hr hrow
  have hB' : (B : Int) < 32 := by omega
  have hB0 : (0 : Int) ≤ B := by omega
  obtain ⟨F, hF⟩ : ∃ F : Nat, F = K + 5 := ⟨_, rfl⟩
  have e5 : (5 : Int) + (K : Int) = F := by omega
  have HF := Lib.hid hF
  have HK := Lib.hid hK
  have hFl : (F : Int) ≤ 69 := by omega
  have hF0 : (5 : Int) ≤ F := by omega
  have n1 : ((F : Int) + 1).toNat = F + 1 := by omega
  have n3 : ((F : Int) + 3).toNat = F + 3 := by omega
  have n15 : ((F : Int) + 15).toNat = F + 15 := by omega
  have g1 := ds_get nought (F + 1) (by omega)
  have g3 := ds_get nought (F + 3) (by omega)
  have g15 := ds_get nought (F + 15) (by omega)
  clear hF hK
  unfold vs at *
  rcases ht with rfl | rfl
  · go_enter Tryd.func65, Tryd.ntmps65
    go_wp2
    clear g1 g3 g15 n1 n3 n15 hz hsh
    go_loopg [6] (64 - K) (fun g i wr => ∃ n : Nat, n ≤ 64 - K ∧ g = 64 - K - n ∧ i = .int .i64 ((K + 21 + n : Nat) : Int) ∧ Rw w wr (Dv.fwd S (K + 21) n))
    case atStart =>
      refine ⟨0, Nat.zero_le _, rfl, by have := HF.out; congr 1; omega, Rw.start w _ _ _ _ ?_⟩
      rw [ds_set, HF.out]
      exact congrArg ds (HS1.out (by trivial))
    case round =>
      obtain ⟨n, hn, rfl, rfl, hx⟩ := hrel
      by_cases hlt : n < 64 - K
      · have hnx : Dv.fwd S (K + 21) (n + 1) = Dv.setAt (Dv.fwd S (K + 21) n) (K + 21 + n) (Sh.rot (Dv.fwd S (K + 21) n (K + 21 + n - 3) ^^^ Dv.fwd S (K + 21) n (K + 21 + n - 8) ^^^ Dv.fwd S (K + 21) n (K + 21 + n - 14) ^^^ Dv.fwd S (K + 21) n (K + 21 + n - 16)) 1) := rfl
        have htl : K + 21 + n < 85 := by omega
        have htg : 21 ≤ K + 21 + n := by omega
        have HQ := Lib.hid (show ((K + 21 + n : Nat) : Int) + 1 = ((K + 21 + (n + 1) : Nat) : Int) by omega)
        generalize Dv.fwd S (K + 21) n = g at *
        generalize K + 21 + n = t at *
        have h1 : ((t : Nat) : Int) < 85 := by omega
        have h0 : (0 : Int) ≤ ((t : Nat) : Int) := by omega
        have a3 : (0 : Int) ≤ ((t : Nat) : Int) - 3 := by omega
        have b3 : (3 : Int) ≤ ((t : Nat) : Int) := by omega
        have d3 : ((t : Nat) : Int) - 3 < 85 := by omega
        have n3 : (((t : Nat) : Int) - 3).toNat = t - 3 := by omega
        have w3 : IntKind.i64.wrap (((t : Nat) : Int) - 3) = ((t : Nat) : Int) - 3 := IntWalk.i64_in _ (by omega)
        have c3 := hx.at_ (t - 3) (by omega)
        have a8 : (0 : Int) ≤ ((t : Nat) : Int) - 8 := by omega
        have b8 : (8 : Int) ≤ ((t : Nat) : Int) := by omega
        have d8 : ((t : Nat) : Int) - 8 < 85 := by omega
        have n8 : (((t : Nat) : Int) - 8).toNat = t - 8 := by omega
        have w8 : IntKind.i64.wrap (((t : Nat) : Int) - 8) = ((t : Nat) : Int) - 8 := IntWalk.i64_in _ (by omega)
        have c8 := hx.at_ (t - 8) (by omega)
        have a14 : (0 : Int) ≤ ((t : Nat) : Int) - 14 := by omega
        have b14 : (14 : Int) ≤ ((t : Nat) : Int) := by omega
        have d14 : ((t : Nat) : Int) - 14 < 85 := by omega
        have n14 : (((t : Nat) : Int) - 14).toNat = t - 14 := by omega
        have w14 : IntKind.i64.wrap (((t : Nat) : Int) - 14) = ((t : Nat) : Int) - 14 := IntWalk.i64_in _ (by omega)
        have c14 := hx.at_ (t - 14) (by omega)
        have a16 : (0 : Int) ≤ ((t : Nat) : Int) - 16 := by omega
        have b16 : (16 : Int) ≤ ((t : Nat) : Int) := by omega
        have d16 : ((t : Nat) : Int) - 16 < 85 := by omega
        have n16 : (((t : Nat) : Int) - 16).toNat = t - 16 := by omega
        have w16 : IntKind.i64.wrap (((t : Nat) : Int) - 16) = ((t : Nat) : Int) - 16 := IntWalk.i64_in _ (by omega)
        have c16 := hx.at_ (t - 16) (by omega)
        have ct := hx.at_ t htl
        have cf := hx.row.frozen t
        generalize hgt : g t = xt at *
        generalize g (t - 3) = x3 at *
        generalize g (t - 8) = x8 at *
        generalize g (t - 14) = x14 at *
        generalize g (t - 16) = x16 at *
        have HX := Lib.hid hx
        have HNX := Lib.hid hnx
        clear hx hnx hgt
        go_wp2_with fail
        refine wp_region_still_tail 22 (by kernel_rfl) (by kernel_rfl) ?_
        simp only [List.take_succ_cons, List.take_zero, List.drop_succ_cons, List.drop_zero]
        change wpStill _ _ (World.drew _) (fun a' => wpList _ _ _ _ a' (World.drew _)) _ _
        iterate 20 still_step
        still_call (flip_ (rotl1 _ _))
        still_step
        refine wpStill_nil ?_
        go_wp2
        go_roundg (64 - K - (n + 1))
        case rel => exact ⟨n + 1, by omega, rfl, by rw [← HQ.out], by rw [HNX.out]; exact HX.out.drew.put _ _⟩
        case measure => omega
      · obtain rfl : n = 64 - K := by omega
        have HX := Lib.hid hx
        clear hx
        go_wp2
        go_loopg [7] (K + 5) (fun g i wr => ∃ n : Nat, n ≤ K + 5 ∧ g = K + 5 - n ∧ i = .int .i64 ((K : Int) + 4 - n) ∧ Rw w wr (Dv.bwd (Dv.fwd S (K + 21) (64 - K)) (K + 4) n))
        case atStart => exact ⟨0, Nat.zero_le _, rfl, by have := HF.out; congr 1; omega, HX.out⟩
        case round =>
          obtain ⟨n, hn, rfl, rfl, hx⟩ := hrel
          clear HX
          by_cases hlt : n < K + 5
          · have hnx : Dv.bwd (Dv.fwd S (K + 21) (64 - K)) (K + 4) (n + 1) = Dv.setAt (Dv.bwd (Dv.fwd S (K + 21) (64 - K)) (K + 4) n) (K + 4 - n) (Sh.rot (Dv.bwd (Dv.fwd S (K + 21) (64 - K)) (K + 4) n (K + 4 - n + 16)) 31 ^^^ Dv.bwd (Dv.fwd S (K + 21) (64 - K)) (K + 4) n (K + 4 - n + 13) ^^^ Dv.bwd (Dv.fwd S (K + 21) (64 - K)) (K + 4) n (K + 4 - n + 8) ^^^ Dv.bwd (Dv.fwd S (K + 21) (64 - K)) (K + 4) n (K + 4 - n + 2)) := rfl
            have htl : K + 4 - n < 69 := by have := HK.out; omega
            have hk : (K : Int) + 4 - n = ((K + 4 - n : Nat) : Int) := by omega
            have HQ := Lib.hid (show ((K + 4 - n : Nat) : Int) - 1 = (K : Int) + 4 - ((n + 1 : Nat) : Int) by omega)
            rw [hk]
            clear hk
            generalize Dv.bwd (Dv.fwd S (K + 21) (64 - K)) (K + 4) n = g at *
            generalize K + 4 - n = t at *
            have h1 : ((t : Nat) : Int) < 85 := by omega
            have h0 : (0 : Int) ≤ ((t : Nat) : Int) := by omega
            have a16 : (0 : Int) ≤ ((t : Nat) : Int) + 16 := by omega
            have d16 : ((t : Nat) : Int) + 16 < 85 := by omega
            have n16 : (((t : Nat) : Int) + 16).toNat = t + 16 := by omega
            have w16 : IntKind.i64.wrap (((t : Nat) : Int) + 16) = ((t : Nat) : Int) + 16 := IntWalk.i64_in _ (by omega)
            have c16 := hx.at_ (t + 16) (by omega)
            have a13 : (0 : Int) ≤ ((t : Nat) : Int) + 13 := by omega
            have d13 : ((t : Nat) : Int) + 13 < 85 := by omega
            have n13 : (((t : Nat) : Int) + 13).toNat = t + 13 := by omega
            have w13 : IntKind.i64.wrap (((t : Nat) : Int) + 13) = ((t : Nat) : Int) + 13 := IntWalk.i64_in _ (by omega)
            have c13 := hx.at_ (t + 13) (by omega)
            have a8 : (0 : Int) ≤ ((t : Nat) : Int) + 8 := by omega
            have d8 : ((t : Nat) : Int) + 8 < 85 := by omega
            have n8 : (((t : Nat) : Int) + 8).toNat = t + 8 := by omega
            have w8 : IntKind.i64.wrap (((t : Nat) : Int) + 8) = ((t : Nat) : Int) + 8 := IntWalk.i64_in _ (by omega)
            have c8 := hx.at_ (t + 8) (by omega)
            have a2 : (0 : Int) ≤ ((t : Nat) : Int) + 2 := by omega
            have d2 : ((t : Nat) : Int) + 2 < 85 := by omega
            have n2 : (((t : Nat) : Int) + 2).toNat = t + 2 := by omega
            have w2 : IntKind.i64.wrap (((t : Nat) : Int) + 2) = ((t : Nat) : Int) + 2 := IntWalk.i64_in _ (by omega)
            have c2 := hx.at_ (t + 2) (by omega)
            have ct := hx.at_ t (by omega)
            have cf := hx.row.frozen t
            generalize hgt : g t = xt at *
            generalize g (t + 16) = x16 at *
            generalize g (t + 13) = x13 at *
            generalize g (t + 8) = x8 at *
            generalize g (t + 2) = x2 at *
            have HX := Lib.hid hx
            have HNX := Lib.hid hnx
            clear hx hnx hgt
            go_wp2_with fail
            refine wp_region_still_tail 22 (by kernel_rfl) (by kernel_rfl) ?_
            simp only [List.take_succ_cons, List.take_zero, List.drop_succ_cons, List.drop_zero]
            change wpStill _ _ (World.drew _) (fun a' => wpList _ _ _ _ a' (World.drew _)) _ _
            iterate 5 still_step
            still_call (flip_ (rotl31 _ _))
            iterate 16 still_step
            refine wpStill_nil ?_
            go_wp2
            go_roundg (K + 5 - (n + 1))
            case rel => exact ⟨n + 1, by omega, rfl, by rw [← HQ.out], by rw [HNX.out]; exact HX.out.drew.put _ _⟩
            case measure => omega
          · obtain rfl : n = K + 5 := by omega
            have hrw := ds_row hx.row
            rw [← HR.out] at hrw
            have HW := Lib.hid hrw
            have HZ := Lib.hid hx.res
            have HB := Lib.hid hx.below
            clear hx hrw
            have hend : ¬ (0 : Int) ≤ (K : Int) + 4 - ((K + 5 : Nat) : Int) := by omega
            go_wp2_with (first
              | (with_reducible refine wpList_load_row rfl 103 (.tmp 3) rfl (w.heap.size + 1 + 1) rfl 103 (ds R) (0, 0) _ HW.out Tryd.underlying103 rfl (info85 _) ?_)
              | (with_reducible refine wpList_store_row rfl 103 (.tmp 2) (.tmp 89) rfl (w.heap.size + 1) (ds R) rfl rfl 103 _ HZ.out (info85 _) (ds_sizes _ _) (ds_one _) ?_))
            refine bodyPost_ret (results_cell_row Tryd.results65 _ _ (w.heap.size + 1) 103 (ds R) (0, 0) _ rfl (setRow_heap _ _ _ _ _ _ HZ.out) Tryd.underlying103 rfl (info85 _)) rfl ⟨rfl, ?_⟩
            exact below_setRow HB.out (by omega) _
  · go_enter Tryd.func65, Tryd.ntmps65
    go_wp2_with (go_at_call 66; refine (HRT.out _).mono ?_; rintro e w' ⟨rfl, rfl⟩)
    clear g1 g3 g15 n1 n3 n15 hz hsh
    go_loopg [6] (64 - K) (fun g i wr => ∃ n : Nat, n ≤ 64 - K ∧ g = 64 - K - n ∧ i = .int .i64 ((K + 21 + n : Nat) : Int) ∧ Rw w wr (Dv.fwd S (K + 21) n))
    case atStart =>
      refine ⟨0, Nat.zero_le _, rfl, by have := HF.out; congr 1; omega, Rw.start w _ _ _ _ ?_⟩
      rw [ds_set, ds_set, ds_set, HF.out]
      exact congrArg ds (HS2.out (by trivial))
    case round =>
      obtain ⟨n, hn, rfl, rfl, hx⟩ := hrel
      by_cases hlt : n < 64 - K
      · have hnx : Dv.fwd S (K + 21) (n + 1) = Dv.setAt (Dv.fwd S (K + 21) n) (K + 21 + n) (Sh.rot (Dv.fwd S (K + 21) n (K + 21 + n - 3) ^^^ Dv.fwd S (K + 21) n (K + 21 + n - 8) ^^^ Dv.fwd S (K + 21) n (K + 21 + n - 14) ^^^ Dv.fwd S (K + 21) n (K + 21 + n - 16)) 1) := rfl
        have htl : K + 21 + n < 85 := by omega
        have htg : 21 ≤ K + 21 + n := by omega
        have HQ := Lib.hid (show ((K + 21 + n : Nat) : Int) + 1 = ((K + 21 + (n + 1) : Nat) : Int) by omega)
        generalize Dv.fwd S (K + 21) n = g at *
        generalize K + 21 + n = t at *
        have h1 : ((t : Nat) : Int) < 85 := by omega
        have h0 : (0 : Int) ≤ ((t : Nat) : Int) := by omega
        have a3 : (0 : Int) ≤ ((t : Nat) : Int) - 3 := by omega
        have b3 : (3 : Int) ≤ ((t : Nat) : Int) := by omega
        have d3 : ((t : Nat) : Int) - 3 < 85 := by omega
        have n3 : (((t : Nat) : Int) - 3).toNat = t - 3 := by omega
        have w3 : IntKind.i64.wrap (((t : Nat) : Int) - 3) = ((t : Nat) : Int) - 3 := IntWalk.i64_in _ (by omega)
        have c3 := hx.at_ (t - 3) (by omega)
        have a8 : (0 : Int) ≤ ((t : Nat) : Int) - 8 := by omega
        have b8 : (8 : Int) ≤ ((t : Nat) : Int) := by omega
        have d8 : ((t : Nat) : Int) - 8 < 85 := by omega
        have n8 : (((t : Nat) : Int) - 8).toNat = t - 8 := by omega
        have w8 : IntKind.i64.wrap (((t : Nat) : Int) - 8) = ((t : Nat) : Int) - 8 := IntWalk.i64_in _ (by omega)
        have c8 := hx.at_ (t - 8) (by omega)
        have a14 : (0 : Int) ≤ ((t : Nat) : Int) - 14 := by omega
        have b14 : (14 : Int) ≤ ((t : Nat) : Int) := by omega
        have d14 : ((t : Nat) : Int) - 14 < 85 := by omega
        have n14 : (((t : Nat) : Int) - 14).toNat = t - 14 := by omega
        have w14 : IntKind.i64.wrap (((t : Nat) : Int) - 14) = ((t : Nat) : Int) - 14 := IntWalk.i64_in _ (by omega)
        have c14 := hx.at_ (t - 14) (by omega)
        have a16 : (0 : Int) ≤ ((t : Nat) : Int) - 16 := by omega
        have b16 : (16 : Int) ≤ ((t : Nat) : Int) := by omega
        have d16 : ((t : Nat) : Int) - 16 < 85 := by omega
        have n16 : (((t : Nat) : Int) - 16).toNat = t - 16 := by omega
        have w16 : IntKind.i64.wrap (((t : Nat) : Int) - 16) = ((t : Nat) : Int) - 16 := IntWalk.i64_in _ (by omega)
        have c16 := hx.at_ (t - 16) (by omega)
        have ct := hx.at_ t htl
        have cf := hx.row.frozen t
        generalize hgt : g t = xt at *
        generalize g (t - 3) = x3 at *
        generalize g (t - 8) = x8 at *
        generalize g (t - 14) = x14 at *
        generalize g (t - 16) = x16 at *
        have HX := Lib.hid hx
        have HNX := Lib.hid hnx
        clear hx hnx hgt
        go_wp2_with fail
        refine wp_region_still_tail 22 (by kernel_rfl) (by kernel_rfl) ?_
        simp only [List.take_succ_cons, List.take_zero, List.drop_succ_cons, List.drop_zero]
        change wpStill _ _ (World.drew _) (fun a' => wpList _ _ _ _ a' (World.drew _)) _ _
        iterate 20 still_step
        still_call (flip_ (rotl1 _ _))
        still_step
        refine wpStill_nil ?_
        go_wp2
        go_roundg (64 - K - (n + 1))
        case rel => exact ⟨n + 1, by omega, rfl, by rw [← HQ.out], by rw [HNX.out]; exact HX.out.drew.put _ _⟩
        case measure => omega
      · obtain rfl : n = 64 - K := by omega
        have HX := Lib.hid hx
        clear hx
        go_wp2
        go_loopg [7] (K + 5) (fun g i wr => ∃ n : Nat, n ≤ K + 5 ∧ g = K + 5 - n ∧ i = .int .i64 ((K : Int) + 4 - n) ∧ Rw w wr (Dv.bwd (Dv.fwd S (K + 21) (64 - K)) (K + 4) n))
        case atStart => exact ⟨0, Nat.zero_le _, rfl, by have := HF.out; congr 1; omega, HX.out⟩
        case round =>
          obtain ⟨n, hn, rfl, rfl, hx⟩ := hrel
          clear HX
          by_cases hlt : n < K + 5
          · have hnx : Dv.bwd (Dv.fwd S (K + 21) (64 - K)) (K + 4) (n + 1) = Dv.setAt (Dv.bwd (Dv.fwd S (K + 21) (64 - K)) (K + 4) n) (K + 4 - n) (Sh.rot (Dv.bwd (Dv.fwd S (K + 21) (64 - K)) (K + 4) n (K + 4 - n + 16)) 31 ^^^ Dv.bwd (Dv.fwd S (K + 21) (64 - K)) (K + 4) n (K + 4 - n + 13) ^^^ Dv.bwd (Dv.fwd S (K + 21) (64 - K)) (K + 4) n (K + 4 - n + 8) ^^^ Dv.bwd (Dv.fwd S (K + 21) (64 - K)) (K + 4) n (K + 4 - n + 2)) := rfl
            have htl : K + 4 - n < 69 := by have := HK.out; omega
            have hk : (K : Int) + 4 - n = ((K + 4 - n : Nat) : Int) := by omega
            have HQ := Lib.hid (show ((K + 4 - n : Nat) : Int) - 1 = (K : Int) + 4 - ((n + 1 : Nat) : Int) by omega)
            rw [hk]
            clear hk
            generalize Dv.bwd (Dv.fwd S (K + 21) (64 - K)) (K + 4) n = g at *
            generalize K + 4 - n = t at *
            have h1 : ((t : Nat) : Int) < 85 := by omega
            have h0 : (0 : Int) ≤ ((t : Nat) : Int) := by omega
            have a16 : (0 : Int) ≤ ((t : Nat) : Int) + 16 := by omega
            have d16 : ((t : Nat) : Int) + 16 < 85 := by omega
            have n16 : (((t : Nat) : Int) + 16).toNat = t + 16 := by omega
            have w16 : IntKind.i64.wrap (((t : Nat) : Int) + 16) = ((t : Nat) : Int) + 16 := IntWalk.i64_in _ (by omega)
            have c16 := hx.at_ (t + 16) (by omega)
            have a13 : (0 : Int) ≤ ((t : Nat) : Int) + 13 := by omega
            have d13 : ((t : Nat) : Int) + 13 < 85 := by omega
            have n13 : (((t : Nat) : Int) + 13).toNat = t + 13 := by omega
            have w13 : IntKind.i64.wrap (((t : Nat) : Int) + 13) = ((t : Nat) : Int) + 13 := IntWalk.i64_in _ (by omega)
            have c13 := hx.at_ (t + 13) (by omega)
            have a8 : (0 : Int) ≤ ((t : Nat) : Int) + 8 := by omega
            have d8 : ((t : Nat) : Int) + 8 < 85 := by omega
            have n8 : (((t : Nat) : Int) + 8).toNat = t + 8 := by omega
            have w8 : IntKind.i64.wrap (((t : Nat) : Int) + 8) = ((t : Nat) : Int) + 8 := IntWalk.i64_in _ (by omega)
            have c8 := hx.at_ (t + 8) (by omega)
            have a2 : (0 : Int) ≤ ((t : Nat) : Int) + 2 := by omega
            have d2 : ((t : Nat) : Int) + 2 < 85 := by omega
            have n2 : (((t : Nat) : Int) + 2).toNat = t + 2 := by omega
            have w2 : IntKind.i64.wrap (((t : Nat) : Int) + 2) = ((t : Nat) : Int) + 2 := IntWalk.i64_in _ (by omega)
            have c2 := hx.at_ (t + 2) (by omega)
            have ct := hx.at_ t (by omega)
            have cf := hx.row.frozen t
            generalize hgt : g t = xt at *
            generalize g (t + 16) = x16 at *
            generalize g (t + 13) = x13 at *
            generalize g (t + 8) = x8 at *
            generalize g (t + 2) = x2 at *
            have HX := Lib.hid hx
            have HNX := Lib.hid hnx
            clear hx hnx hgt
            go_wp2_with fail
            refine wp_region_still_tail 22 (by kernel_rfl) (by kernel_rfl) ?_
            simp only [List.take_succ_cons, List.take_zero, List.drop_succ_cons, List.drop_zero]
            change wpStill _ _ (World.drew _) (fun a' => wpList _ _ _ _ a' (World.drew _)) _ _
            iterate 5 still_step
            still_call (flip_ (rotl31 _ _))
            iterate 16 still_step
            refine wpStill_nil ?_
            go_wp2
            go_roundg (K + 5 - (n + 1))
            case rel => exact ⟨n + 1, by omega, rfl, by rw [← HQ.out], by rw [HNX.out]; exact HX.out.drew.put _ _⟩
            case measure => omega
          · obtain rfl : n = K + 5 := by omega
            have hrw := ds_row hx.row
            rw [← HR.out] at hrw
            have HW := Lib.hid hrw
            have HZ := Lib.hid hx.res
            have HB := Lib.hid hx.below
            clear hx hrw
            have hend : ¬ (0 : Int) ≤ (K : Int) + 4 - ((K + 5 : Nat) : Int) := by omega
            go_wp2_with (first
              | (with_reducible refine wpList_load_row rfl 103 (.tmp 3) rfl (w.heap.size + 1 + 1) rfl 103 (ds R) (0, 0) _ HW.out Tryd.underlying103 rfl (info85 _) ?_)
              | (with_reducible refine wpList_store_row rfl 103 (.tmp 2) (.tmp 89) rfl (w.heap.size + 1) (ds R) rfl rfl 103 _ HZ.out (info85 _) (ds_sizes _ _) (ds_one _) ?_))
            refine bodyPost_ret (results_cell_row Tryd.results65 _ _ (w.heap.size + 1) 103 (ds R) (0, 0) _ rfl (setRow_heap _ _ _ _ _ _ HZ.out) Tryd.underlying103 rfl (info85 _)) rfl ⟨rfl, ?_⟩
            exact below_setRow HB.out (by omega) _
end Go.Proofs.YtmbbigmnliiadaaDoor.Hd
namespace Go.Proofs.YtmbbigmnliiadaaDoor.Hd
open Go.RowKit Hs Hp
set_option linter.unusedVariables false
attribute [local go_sem] t_and t_or t_xor t_not t_add t_sub t_add_wrap t_sub_wrap

theorem diffs_get (f : Nat → UInt32) (j : Nat) (h : j < 80) : (Dv.diffs f).getD j 0 = Dv.diffAt f j := by simp [Dv.diffs, List.getD, h]
theorem info23 (ty K B : Int) : (Tryd.prog.info? 82).map (·.size) = some (vs ty K B).size := by
  have : (Tryd.prog.info? 82).map (·.size) = some 3 := by kernel_rfl
  rw [this]; rfl

/-- the state of Difference: the result's row, the row, the words so far -/
structure Df (w wr : World) (g : Nat) (f : Nat → UInt32) (n : Nat) : Prop where
  below : Below w.heap.size w wr
  lo : w.heap.size + 1 + 1 < g
  res : wr.heap[w.heap.size + 1]? = some (.cells (ws []) 73 (0, 0))
  row : wr.heap[g]? = some (.cells (ds f) 103 (0, 0))
  m : wr.rowIs (w.heap.size + 1 + 1) 73 80 (fun j => .int .u32 (tn (if j < n then Dv.diffAt f j else 0)))
section
variable {w wr : World} {g n : Nat} {f : Nat → UInt32}
theorem Df.drew (h : Df w wr g f n) : Df w wr.drew g f n := ⟨h.below.drew, h.lo, h.res, h.row, h.m⟩
theorem Df.put (h : Df w wr g f n) (x : UInt32) (hx : Dv.diffAt f n = x) : Df w (wr.setCell ⟨w.heap.size + 1 + 1, n, none⟩ (.int .u32 (tn x))) g f (n + 1) := by
  have hl := h.lo
  refine ⟨h.below.setCell (by simp; omega) _, hl, by rw [heap_setCell_other _ _ _ _ (by simp)]; exact h.res, by rw [heap_setCell_other _ _ _ _ (by simp; omega)]; exact h.row, (h.m.set n _).congr fun j _ => ?_⟩
  by_cases e : j = n
  · subst e; rw [if_pos rfl, if_pos (by omega), hx]
  · rw [if_neg e]
    by_cases hlt : j < n
    · rw [if_pos hlt, if_pos (by omega)]
    · rw [if_neg hlt, if_neg (by omega)]
theorem Df.at_ (h : Df w wr g f n) (j : Nat) (hj : j < 85) : wr.cell? ⟨g, j, none⟩ = some (.int .u32 (tn (f j))) := by rw [cell_of_row wr g j _ _ _ h.row, ds_get f j hj]
theorem Df.done (h : Df w wr g f 80) : wr.heap[w.heap.size + 1 + 1]? = some (.cells (ws (Dv.diffs f)) 73 (0, 0)) :=
  Hp.ws_row (h.m.congr fun j hj => by rw [if_pos hj, diffs_get f j hj])
end
theorem Df.start {w w1 w2 : World} {v : Array Value} {T : TypeId} (f : Nat → UInt32)
    (h1 : Below (w.heap.size + 1 + 1 + 1) (((w.alloc (.cells v T)).alloc (.cells (ws []) 73)).alloc (.cells (ws []) 73)) w1) (h2 : Below w1.heap.size w1 w2) :
    Df w ((w2.alloc (.cells (ds nought) 103)).setRow w2.heap.size (ds f)) w2.heap.size f 0 := by
  have z1 := h1.size
  have z2 := h2.size
  simp at z1
  have hb0 : Below w.heap.size w (((w.alloc (.cells v T)).alloc (.cells (ws []) 73)).alloc (.cells (ws []) 73)) := (((Below.refl _ w).alloc (Nat.le_refl _) _).alloc (by simp) _).alloc (by simp; omega) _
  have hb : Below w.heap.size w w2 := (hb0.trans (h1.mono (by omega))).trans (h2.mono (by omega))
  have r1 : w2.heap[w.heap.size + 1]? = some (.cells (ws []) 73 (0, 0)) := by
    rw [h2.block _ (by omega), h1.block _ (by omega), heap_alloc_old _ _ (by simp)]; exact heap_alloc2_new _ _ _
  have r2 : w2.heap[w.heap.size + 1 + 1]? = some (.cells (ws []) 73 (0, 0)) := by
    rw [h2.block _ (by omega), h1.block _ (by omega)]
    have := heap_alloc_new ((w.alloc (.cells v T)).alloc (.cells (ws []) 73)) (.cells (ws []) 73)
    simpa using this
  refine ⟨below_setRow (hb.alloc hb.size _) hb.size _, by omega, ?_, setRow_heap _ _ (ds nought) _ _ _ (heap_alloc_new _ _), ?_⟩
  · rw [setRow_other _ _ _ _ (by omega), heap_alloc_old _ _ (by omega)]; exact r1
  · refine World.rowIs.congr (f := fun j => .int .u32 (tn (([] : List UInt32).getD j 0))) ⟨ws [], ?_, ws_size _, fun i hi => ws_get [] i hi⟩ fun j _ => by rw [if_neg (by omega)]; rfl
    rw [setRow_other _ _ _ _ (by omega), heap_alloc_old _ _ (by omega)]; exact r2

set_option maxHeartbeats 4000000 in
set_option maxRecDepth 100000 in
theorem difference_any (ty K B : Int) (w : World) :
    Calls Tryd.prog 48 #[.agg (vs ty K B)] w fun e w' => e = .returned (.agg (ws (Dv.diff ty K B))) ∧ Below w.heap.size w w' := by
  have hz := zv30
  have hz5 := zv85
  by_cases hok : Dv.ok ty K B
  · have hd : Dv.diff ty K B = Dv.diffs (Dv.row ty.toNat K.toNat B.toNat) := if_pos hok
    obtain ⟨ht, hK0, hK1, hB0, hB1⟩ := hok
    obtain ⟨K, rfl⟩ : ∃ n : Nat, K = n := ⟨K.toNat, by omega⟩
    obtain ⟨B, rfl⟩ : ∃ n : Nat, B = n := ⟨B.toNat, by omega⟩
    have hok : decide (Dv.ok ty K B) = true := decide_eq_true ⟨ht, hK0, hK1, hB0, hB1⟩
    have hr := fun w => row_any ty K B w ht (by omega) (by omega)
    have e1 : ((K : Int)).toNat = K := by omega
    have e2 : ((B : Int)).toNat = B := by omega
    rw [e1, e2] at hd
    generalize Dv.row ty.toNat K B = f at *
    have HD := Lib.hid hd
    have HR := Lib.hid hr
    clear hd hr ht hK0 hK1 hB0 hB1 e1 e2
    go_enter Tryd.func48, Tryd.ntmps48
    go_wp2_with (with_reducible refine wpList_load_row rfl 82 (.tmp 1) rfl w.heap.size rfl 82 (vs ty K B) (0, 0) _ (by rw [heap_alloc_old _ _ (by simp; omega)]; exact heap_alloc2_old _ _ _) Tryd.underlying82 rfl (info23 _ _ _) ?_)
    refine (hasRow_any ty K B _).mono ?_
    rintro e w1 ⟨rfl, hb1⟩
    rw [hok]
    have hv : w1.heap[w.heap.size]? = some (.cells (vs ty K B) 82 (0, 0)) := by
      rw [hb1.block _ (by simp; omega), heap_alloc_old _ _ (by simp; omega)]; exact heap_alloc2_old _ _ _
    have HB1 := Lib.hid hb1
    have HV := Lib.hid hv
    clear hb1 hv
    go_wp2_with (with_reducible refine wpList_load_row rfl 82 (.tmp 1) rfl w.heap.size rfl 82 (vs ty K B) (0, 0) _ HV.out Tryd.underlying82 rfl (info23 _ _ _) ?_)
    refine (HR.out _).mono ?_
    rintro e w2 ⟨rfl, hb2⟩
    have hst := Df.start f (HB1.out.mono (by simp)) hb2
    have HST := Lib.hid hst
    have hnew := heap_alloc_new w2 (.cells (ds nought) 103)
    have HN := Lib.hid hnew
    clear hst hb2 HB1 HV hnew
    go_wp2_with (with_reducible refine wpList_store_row rfl 103 (.tmp 4) (.tmp 12) rfl w2.heap.size (ds f) rfl rfl 103 _ HN.out (info85 _) (ds_sizes _ _) (ds_one _) ?_)
    clear HN hz hz5
    generalize hgg : w2.heap.size = g at *
    clear hgg
    go_loopg [5, 6, 13] 80 (fun gk s5 s6 i wr => ∃ n : Nat, n ≤ 80 ∧ gk = 80 - n ∧ i = .int .i64 n ∧ Df w wr g f n)
    case atStart => exact ⟨0, Nat.zero_le _, rfl, rfl, HST.out⟩
    case round =>
      obtain ⟨t, hn, rfl, rfl, hx⟩ := hrel
      clear HST
      by_cases hlt : t < 80
      · have hnx : Dv.diffAt f t = f (t + 5) ^^^ Sh.rot (f (t + 4)) 5 ^^^ f (t + 3) ^^^ Sh.rot (f (t + 2) ^^^ f (t + 1) ^^^ f t) 30 := rfl
        have hm1 : ((t : Nat) : Int) < 80 := by omega
        have hm0 : (0 : Int) ≤ ((t : Nat) : Int) := by omega
        have ct := hx.m.cell hlt
        have cf := hx.m.frozen t
        obtain ⟨I, hI⟩ : ∃ I : Nat, I = t + 5 := ⟨_, rfl⟩
        have e5 : (5 : Int) + (t : Int) = I := by omega
        rw [← hI, show t + 4 = I - 1 by omega, show t + 3 = I - 2 by omega, show t + 2 = I - 3 by omega, show t + 1 = I - 4 by omega, show f t = f (I - 5) by rw [hI]; rfl] at hnx
        have a1 : (0 : Int) ≤ ((I : Nat) : Int) - 1 := by omega
        have b1 : (1 : Int) ≤ ((I : Nat) : Int) := by omega
        have d1 : ((I : Nat) : Int) - 1 < 85 := by omega
        have n1 : (((I : Nat) : Int) - 1).toNat = I - 1 := by omega
        have w1 : IntKind.i64.wrap (((I : Nat) : Int) - 1) = ((I : Nat) : Int) - 1 := IntWalk.i64_in _ (by omega)
        have c1 := hx.at_ (I - 1) (by omega)
        have a2 : (0 : Int) ≤ ((I : Nat) : Int) - 2 := by omega
        have b2 : (2 : Int) ≤ ((I : Nat) : Int) := by omega
        have d2 : ((I : Nat) : Int) - 2 < 85 := by omega
        have n2 : (((I : Nat) : Int) - 2).toNat = I - 2 := by omega
        have w2 : IntKind.i64.wrap (((I : Nat) : Int) - 2) = ((I : Nat) : Int) - 2 := IntWalk.i64_in _ (by omega)
        have c2 := hx.at_ (I - 2) (by omega)
        have a3 : (0 : Int) ≤ ((I : Nat) : Int) - 3 := by omega
        have b3 : (3 : Int) ≤ ((I : Nat) : Int) := by omega
        have d3 : ((I : Nat) : Int) - 3 < 85 := by omega
        have n3 : (((I : Nat) : Int) - 3).toNat = I - 3 := by omega
        have w3 : IntKind.i64.wrap (((I : Nat) : Int) - 3) = ((I : Nat) : Int) - 3 := IntWalk.i64_in _ (by omega)
        have c3 := hx.at_ (I - 3) (by omega)
        have a4 : (0 : Int) ≤ ((I : Nat) : Int) - 4 := by omega
        have b4 : (4 : Int) ≤ ((I : Nat) : Int) := by omega
        have d4 : ((I : Nat) : Int) - 4 < 85 := by omega
        have n4 : (((I : Nat) : Int) - 4).toNat = I - 4 := by omega
        have w4 : IntKind.i64.wrap (((I : Nat) : Int) - 4) = ((I : Nat) : Int) - 4 := IntWalk.i64_in _ (by omega)
        have c4 := hx.at_ (I - 4) (by omega)
        have a5 : (0 : Int) ≤ ((I : Nat) : Int) - 5 := by omega
        have b5 : (5 : Int) ≤ ((I : Nat) : Int) := by omega
        have d5 : ((I : Nat) : Int) - 5 < 85 := by omega
        have n5 : (((I : Nat) : Int) - 5).toNat = I - 5 := by omega
        have w5 : IntKind.i64.wrap (((I : Nat) : Int) - 5) = ((I : Nat) : Int) - 5 := IntWalk.i64_in _ (by omega)
        have c5 := hx.at_ (I - 5) (by omega)
        have h1 : ((I : Nat) : Int) < 85 := by omega
        have h0 : (0 : Int) ≤ ((I : Nat) : Int) := by omega
        have c0 := hx.at_ I (by omega)
        generalize f (I - 1) = x1 at *
        generalize f (I - 2) = x2 at *
        generalize f (I - 3) = x3 at *
        generalize f (I - 4) = x4 at *
        generalize f (I - 5) = x5 at *
        generalize f I = x0 at *
        have HX := Lib.hid hx
        have HNX := Lib.hid hnx
        clear hx hnx hI
        go_wp2_with fail
        refine wp_region_still_tail 32 (by kernel_rfl) (by kernel_rfl) ?_
        simp only [List.take_succ_cons, List.take_zero, List.drop_succ_cons, List.drop_zero]
        change wpStill _ _ (World.drew _) (fun a' => wpList _ _ _ _ a' (World.drew _)) _ _
        iterate 8 still_step
        still_call (flip_ (rotl5 _ _))
        iterate 20 still_step
        still_call (flip_ (rotl30 _ _))
        iterate 2 still_step
        refine wpStill_nil ?_
        go_wp2
        go_roundg (80 - (t + 1))
        case rel => exact ⟨t + 1, by omega, rfl, by go_num, HX.out.drew.put _ HNX.out⟩
        case measure => omega
      · obtain rfl : t = 80 := by omega
        have HW := Lib.hid hx.done
        have HZ := Lib.hid hx.res
        have HB := Lib.hid hx.below
        clear hx
        go_wp2_with (first
          | (with_reducible refine wpList_load_row rfl 73 (.tmp 3) rfl (w.heap.size + 1 + 1) rfl 73 (ws (Dv.diffs f)) (0, 0) _ HW.out Tryd.underlying73 rfl (info30' _) ?_)
          | (with_reducible refine wpList_store_row rfl 73 (.tmp 2) (.tmp 51) rfl (w.heap.size + 1) (ws (Dv.diffs f)) rfl rfl 73 _ HZ.out (info30' _) (ws_sizes _ _) (Hp.ws_one _) ?_))
        refine bodyPost_ret (results_cell_row Tryd.results48 _ _ (w.heap.size + 1) 73 (ws (Dv.diffs f)) (0, 0) _ rfl (setRow_heap _ _ _ _ _ _ HZ.out) Tryd.underlying73 rfl (info30' _)) rfl ⟨by rw [HD.out], ?_⟩
        exact below_setRow HB.out (by omega) _
  · have hd : Dv.diff ty K B = [] := if_neg hok
    have hok : decide (Dv.ok ty K B) = false := decide_eq_false hok
    have HD := Lib.hid hd
    clear hd
    go_enter Tryd.func48, Tryd.ntmps48
    go_wp2_with (with_reducible refine wpList_load_row rfl 82 (.tmp 1) rfl w.heap.size rfl 82 (vs ty K B) (0, 0) _ (by rw [heap_alloc_old _ _ (by simp; omega)]; exact heap_alloc2_old _ _ _) Tryd.underlying82 rfl (info23 _ _ _) ?_)
    refine (hasRow_any ty K B _).mono ?_
    rintro e w1 ⟨rfl, hb1⟩
    rw [hok]
    have hb0 : Below w.heap.size w (((w.alloc (.cells (vs ty K B) 82)).alloc (.cells (ws []) 73)).alloc (.cells (ws []) 73)) := (((Below.refl _ w).alloc (Nat.le_refl _) _).alloc (by simp) _).alloc (by simp; omega) _
    have hb : Below w.heap.size w w1 := hb0.trans (hb1.mono (by simp; omega))
    have hv1 : w1.heap[w.heap.size + 1]? = some (.cells (ws []) 73 (0, 0)) := by
      rw [hb1.block _ (by simp), heap_alloc_old _ _ (by simp)]; exact heap_alloc2_new _ _ _
    have hv2 : w1.heap[w.heap.size + 1 + 1]? = some (.cells (ws []) 73 (0, 0)) := by
      rw [hb1.block _ (by simp)]
      have := heap_alloc_new ((w.alloc (.cells (vs ty K B) 82)).alloc (.cells (ws []) 73)) (.cells (ws []) 73)
      simpa using this
    have HB := Lib.hid hb
    have HZ := Lib.hid hv1
    have HW := Lib.hid hv2
    clear hb1 hv1 hv2 hb hb0
    go_wp2_with (first
      | (with_reducible refine wpList_load_row rfl 73 (.tmp 3) rfl (w.heap.size + 1 + 1) rfl 73 (ws []) (0, 0) _ HW.out Tryd.underlying73 rfl (info30' _) ?_)
      | (with_reducible refine wpList_store_row rfl 73 (.tmp 2) (.tmp 10) rfl (w.heap.size + 1) (ws []) rfl rfl 73 _ HZ.out (info30' _) (ws_sizes _ _) (Hp.ws_one _) ?_))
    refine bodyPost_ret (results_cell_row Tryd.results48 _ _ (w.heap.size + 1) 73 (ws []) (0, 0) _ rfl (setRow_heap _ _ _ _ _ _ HZ.out) Tryd.underlying73 rfl (info30' _)) rfl ⟨by rw [HD.out], ?_⟩
    exact below_setRow HB.out (by omega) _
end Go.Proofs.YtmbbigmnliiadaaDoor.Hd
