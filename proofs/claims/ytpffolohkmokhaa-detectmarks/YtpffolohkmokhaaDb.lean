/-
  Contracts of the program's mixed, ahead and back (package detect), and of the library's RotateLeft32 at the numbers that layer 5 hands it.
-/
import Derived.Test.YtpffolohkmokhaaDa
import Derived.Test.YtpffolohkmokhaaPc
namespace Go.Proofs.Ytpffolohkmokhaa.Hd
open Go.RowKit Hs Hp
set_option linter.unusedVariables false
attribute [local go_sem] t_and t_or t_xor t_not t_add t_sub t_add_wrap t_sub_wrap

theorem rotl2 (x : UInt32) (w : World) : Calls Try.prog 22 #[.int .u32 (tn x), .int .i64 2] w fun e w' => e = .returned (.int .u32 (tn (Sh.rot x 2))) ∧ w = w' := by
  have hx := tn_lt x
  have hx0 := tn_nonneg x
  have hs : tn x * 4 % 4294967296 = tn (x <<< UInt32.ofNat 2) := t_shl x 2 (by omega)
  have hr : tn x / 1073741824 = tn (x >>> UInt32.ofNat 30) := t_shr x 30 (by omega)
  have hb : bits .and .u64 2 31 = 2 := by decide +kernel
  go_enter Try.func22, Try.ntmps22
  go_wp2
  go_ret
  exact ⟨rfl, rfl⟩
theorem rotl31 (x : UInt32) (w : World) : Calls Try.prog 22 #[.int .u32 (tn x), .int .i64 31] w fun e w' => e = .returned (.int .u32 (tn (Sh.rot x 31))) ∧ w = w' := by
  have hx := tn_lt x
  have hx0 := tn_nonneg x
  have hs : tn x * 2147483648 % 4294967296 = tn (x <<< UInt32.ofNat 31) := t_shl x 31 (by omega)
  have hr : tn x / 2 = tn (x >>> UInt32.ofNat 1) := t_shr x 1 (by omega)
  have hb : bits .and .u64 31 31 = 31 := by decide +kernel
  go_enter Try.func22, Try.ntmps22
  go_wp2
  go_ret
  exact ⟨rfl, rfl⟩

theorem rotlT (B : Nat) (hB : B < 32) (w : World) : Calls Try.prog 22 #[.int .u32 1, .int .i64 (31 + B)] w fun e w' => e = .returned (.int .u32 (tn ((1 : UInt32) <<< UInt32.ofNat ((31 + B) % 32)))) ∧ w = w' := by
  have hb : bits .and .u64 (31 + B) 31 = (((31 + B) % 32 : Nat) : Int) := by
    have h : ∀ b : Fin 32, bits .and .u64 (31 + (b.val : Int)) 31 = (((31 + b.val) % 32 : Nat) : Int) := by decide +kernel
    exact h ⟨B, hB⟩
  have hs : (31 + B) % 32 < 32 := by omega
  generalize (31 + B) % 32 = s at *
  go_enter Try.func22, Try.ntmps22
  go_wp2
  go_ret
  refine ⟨ret_int ?_, rfl⟩
  have h : ∀ b : Fin 32, bits .or .u32 (2 ^ b.val % 4294967296) (1 / 2 ^ (32 - b.val)) = tn ((1 : UInt32) <<< UInt32.ofNat b.val) := by decide +kernel
  exact h ⟨s, hs⟩

theorem dmixed_any (t : Int) (b c d : UInt32) (w : World) : Calls Try.prog 50 #[.int .u32 (tn b), .int .u32 (tn c), .int .u32 (tn d), .int .i64 t] w fun e w' => e = .returned (.int .u32 (tn (Sh.mix t.toNat b c d))) ∧ w = w' := by
  by_cases h1 : t < 20
  · have hv : Sh.mix t.toNat b c d = ((b &&& c) ||| (~~~b &&& d)) + 0x5a827999 := by rw [Sh.mix, if_pos (by omega)]
    have HV := Lib.hid hv
    clear hv
    go_enter Try.func50, Try.ntmps50
    go_wp2
    go_ret
    exact ⟨ret_int ((k1 _).trans (congrArg tn HV.out.symm)), rfl⟩
  · by_cases h2 : t < 40
    · have hv : Sh.mix t.toNat b c d = (b ^^^ c ^^^ d) + 0x6ed9eba1 := by rw [Sh.mix, if_neg (by omega), if_pos (by omega)]
      have HV := Lib.hid hv
      clear hv
      go_enter Try.func50, Try.ntmps50
      go_wp2
      go_ret
      exact ⟨ret_int ((k2 _).trans (congrArg tn HV.out.symm)), rfl⟩
    · by_cases h3 : t < 60
      · have hv : Sh.mix t.toNat b c d = ((b &&& c) ||| (b &&& d) ||| (c &&& d)) + 0x8f1bbcdc := by rw [Sh.mix, if_neg (by omega), if_neg (by omega), if_pos (by omega)]
        have HV := Lib.hid hv
        clear hv
        go_enter Try.func50, Try.ntmps50
        go_wp2
        go_ret
        exact ⟨ret_int ((k3 _).trans (congrArg tn HV.out.symm)), rfl⟩
      · have hv : Sh.mix t.toNat b c d = (b ^^^ c ^^^ d) + 0xca62c1d6 := by rw [Sh.mix, if_neg (by omega), if_neg (by omega), if_neg (by omega)]
        have HV := Lib.hid hv
        clear hv
        go_enter Try.func50, Try.ntmps50
        go_wp2
        go_ret
        exact ⟨ret_int ((k4 _).trans (congrArg tn HV.out.symm)), rfl⟩

/-- the state of ahead and back: the words and the result's row, behind the chain -/
structure Ah (w wr : World) (W : List UInt32) : Prop where
  below : Below w.heap.size w wr
  wd : wr.heap[w.heap.size + 1]? = some (.cells (ws W) 32 (0, 0))
  res : wr.heap[w.heap.size + 1 + 1]? = some (.cells #[.int .u32 0, .int .u32 0, .int .u32 0, .int .u32 0, .int .u32 0] 40 (0, 0))
theorem Ah.drew {w wr : World} {W : List UInt32} (h : Ah w wr W) : Ah w wr.drew W := ⟨h.below.drew, h.wd, h.res⟩
theorem Ah.start (w : World) (x : Array Value) (W : List UInt32) : Ah w (((w.alloc (.cells x 40)).alloc (.cells (ws W) 32)).alloc (.cells #[.int .u32 0, .int .u32 0, .int .u32 0, .int .u32 0, .int .u32 0] 40)) W := by
  refine ⟨(((Below.refl _ w).alloc (Nat.le_refl _) _).alloc (by simp) _).alloc (by simp; omega) _, ?_, ?_⟩
  · rw [heap_alloc_old _ _ (by simp)]; exact heap_alloc2_new _ _ _
  · have := heap_alloc_new ((w.alloc (.cells x 40)).alloc (.cells (ws W) 32)) (.cells #[.int .u32 0, .int .u32 0, .int .u32 0, .int .u32 0, .int .u32 0] 40)
    simpa using this
theorem Ah.first (w : World) (x : Array Value) (W : List UInt32) : (((w.alloc (.cells x 40)).alloc (.cells (ws W) 32)).alloc (.cells #[.int .u32 0, .int .u32 0, .int .u32 0, .int .u32 0, .int .u32 0] 40)).heap[w.heap.size]? = some (.cells x 40 (0, 0)) := by
  rw [heap_alloc_old _ _ (by simp; omega)]; exact heap_alloc2_old _ _ _
theorem row_of32 {w : World} {g : Nat} {l : List UInt32} (h : w.heap[g]? = some (.cells (ws l) 32 (0, 0))) (j : Nat) (hj : j < 80) : w.cell? ⟨g, j, none⟩ = some (.int .u32 (tn (l.getD j 0))) := by
  rw [cell_of_row w g j _ _ _ h]; simp [ws, hj]

set_option maxHeartbeats 2000000 in
set_option maxRecDepth 100000 in
theorem ahead_any (x : Sh.Ch) (W : List UInt32) (a m : Nat) (w : World) (h : a + m ≤ 80) :
    Calls Try.prog 42 #[.agg (cs x), .agg (ws W), .int .i64 a, .int .i64 ((a + m : Nat) : Int)] w fun e w' => e = .returned (.agg (cs (Dv.fore W x a m))) ∧ Below w.heap.size w w' := by
  obtain ⟨p, q, r, s, u⟩ := x
  have hS : ∀ n, Dv.fore W ⟨p, q, r, s, u⟩ a (n + 1) = Sh.step (Dv.fore W ⟨p, q, r, s, u⟩ a n) (a + n) (W.getD (a + n) 0) := fun n => rfl
  have hS0 : Dv.fore W ⟨p, q, r, s, u⟩ a 0 = ⟨p, q, r, s, u⟩ := rfl
  have HS := Lib.hid hS
  have HS0 := Lib.hid hS0
  clear hS hS0
  unfold cs
  have hA := Ah.start w #[.int .u32 (tn p), .int .u32 (tn q), .int .u32 (tn r), .int .u32 (tn s), .int .u32 (tn u)] W
  have hF := Ah.first w #[.int .u32 (tn p), .int .u32 (tn q), .int .u32 (tn r), .int .u32 (tn s), .int .u32 (tn u)] W
  have HA := Lib.hid hA
  have HF := Lib.hid hF
  clear hA hF
  generalize hv : ((a + m : Nat) : Int) = e at *
  have he : e = (a : Int) + m := by omega
  clear hv
  go_enter Try.func42, Try.ntmps42
  go_wp2_with fail
  generalize ((w.alloc (.cells #[.int .u32 (tn p), .int .u32 (tn q), .int .u32 (tn r), .int .u32 (tn s), .int .u32 (tn u)] 40)).alloc (.cells (ws W) 32)).alloc (.cells #[.int .u32 0, .int .u32 0, .int .u32 0, .int .u32 0, .int .u32 0] 40) = w2 at *
  have c0 := cell_of_row w2 w.heap.size 0 _ _ _ HF.out
  have c1 := cell_of_row w2 w.heap.size 1 _ _ _ HF.out
  have c2 := cell_of_row w2 w.heap.size 2 _ _ _ HF.out
  have c3 := cell_of_row w2 w.heap.size 3 _ _ _ HF.out
  have c4 := cell_of_row w2 w.heap.size 4 _ _ _ HF.out
  simp at c0 c1 c2 c3 c4
  refine wp_region_still_lit (by kernel_rfl) (by kernel_rfl) ?_
  change wpStill _ _ (World.drew _) (fun a' => Exit.then _ _ _ a' (World.drew _)) _ _
  iterate 15 still_step
  refine wpStill_nil ?_
  go_wp2
  go_loopg [9, 10, 11, 12, 13, 14] m (fun g va vb vc vd ve i wr => ∃ (n : Nat) (y : Sh.Ch), n ≤ m ∧ g = m - n ∧ i = .int .i64 ((a + n : Nat) : Int) ∧ Ah w wr W ∧ y = Dv.fore W ⟨p, q, r, s, u⟩ a n ∧ va = .int .u32 (tn y.a) ∧ vb = .int .u32 (tn y.b) ∧ vc = .int .u32 (tn y.c) ∧ vd = .int .u32 (tn y.d) ∧ ve = .int .u32 (tn y.e))
  case atStart => exact ⟨0, ⟨p, q, r, s, u⟩, Nat.zero_le _, rfl, by simp, HA.out.drew, HS0.out.symm, rfl, rfl, rfl, rfl, rfl⟩
  case round =>
    obtain ⟨n, ⟨ya, yb, yc, yd, ye⟩, hn, rfl, rfl, hW, hy, rfl, rfl, rfl, rfl, rfl⟩ := hrel
    have HY := Lib.hid hy
    clear hy c0 c1 c2 c3 c4 HF HA
    by_cases hlt : n < m
    · have h1 : ((a + n : Nat) : Int) < (a : Int) + m := by omega
      have h2 : ((a + n : Nat) : Int) < 80 := by omega
      have h0 : (0 : Int) ≤ ((a + n : Nat) : Int) := by omega
      have HQ := Lib.hid (show ((a + n : Nat) : Int) + 1 = ((a + (n + 1) : Nat) : Int) by omega)
      have hcell : wr.cell? ⟨w.heap.size + 1, a + n, none⟩ = some (.int .u32 (tn (W.getD (a + n) 0))) := row_of32 hW.wd (a + n) (by omega)
      have hnx := HS.out n
      generalize W.getD (a + n) 0 = v at *
      rw [← HY.out] at hnx
      have HNX := Lib.hid hnx
      have HW := Lib.hid hW
      clear hnx hW
      generalize a + n = k at *
      go_wp2_with fail
      refine wp_region_still_lit (by kernel_rfl) (by kernel_rfl) ?_
      change wpStill _ _ (World.drew _) (fun a' => Exit.inBlock _ _ _ a' (World.drew _)) _ _
      still_step
      still_call (flip_ (rotl5 _ _))
      iterate 4 still_step
      still_call (flip_ (dmixed_any _ _ _ _ _))
      iterate 9 still_step
      still_call (flip_ (rotl30 _ _))
      iterate 7 still_step
      refine wpStill_nil ?_
      go_wp2
      go_roundg (m - (n + 1))
      case rel => exact ⟨n + 1, Sh.step ⟨ya, yb, yc, yd, ye⟩ k v, by omega, rfl, by rw [← HQ.out], HW.out.drew, HNX.out.symm, rfl, rfl, rfl, rfl, rfl⟩
      case measure => omega
    · obtain rfl : n = m := by omega
      have HRD := Lib.hid hW.res
      have HB := Lib.hid hW.below
      clear hW
      go_wp2_with (with_reducible refine wpList_store_row rfl 40 (.tmp 8) (.tmp 55) rfl (w.heap.size + 1 + 1) #[.int .u32 (tn ya), .int .u32 (tn yb), .int .u32 (tn yc), .int .u32 (tn yd), .int .u32 (tn ye)] rfl rfl 40 _ HRD.out (info28' _ _ _ _ _) (size5 _ _ _ _ _ _ _ _ _ _) (one5 _ _ _ _ _) ?_)
      refine bodyPost_ret (results_cell_row Try.results42 _ _ (w.heap.size + 1 + 1) 40 #[.int .u32 (tn ya), .int .u32 (tn yb), .int .u32 (tn yc), .int .u32 (tn yd), .int .u32 (tn ye)] (0, 0) _ rfl (setRow_heap _ _ _ _ _ _ HRD.out) Try.underlying40 rfl (info28' _ _ _ _ _)) rfl ⟨by rw [← HY.out], ?_⟩
      exact below_setRow HB.out (by omega) _
set_option maxHeartbeats 2000000 in
set_option maxRecDepth 100000 in
theorem dback_any (x : Sh.Ch) (W : List UInt32) (a : Nat) (w : World) (h : a ≤ 80) :
    Calls Try.prog 43 #[.agg (cs x), .agg (ws W), .int .i64 a] w fun e w' => e = .returned (.agg (cs (Dv.rear W x a a))) ∧ Below w.heap.size w w' := by
  obtain ⟨p, q, r, s, u⟩ := x
  have hS : ∀ n, Dv.rear W ⟨p, q, r, s, u⟩ a (n + 1) = Sh.back (Dv.rear W ⟨p, q, r, s, u⟩ a n) (a - 1 - n) (W.getD (a - 1 - n) 0) := fun n => rfl
  have hS0 : Dv.rear W ⟨p, q, r, s, u⟩ a 0 = ⟨p, q, r, s, u⟩ := rfl
  have HS := Lib.hid hS
  have HS0 := Lib.hid hS0
  clear hS hS0
  unfold cs
  have hA := Ah.start w #[.int .u32 (tn p), .int .u32 (tn q), .int .u32 (tn r), .int .u32 (tn s), .int .u32 (tn u)] W
  have hF := Ah.first w #[.int .u32 (tn p), .int .u32 (tn q), .int .u32 (tn r), .int .u32 (tn s), .int .u32 (tn u)] W
  have HA := Lib.hid hA
  have HF := Lib.hid hF
  clear hA hF
  go_enter Try.func43, Try.ntmps43
  go_wp2_with fail
  generalize ((w.alloc (.cells #[.int .u32 (tn p), .int .u32 (tn q), .int .u32 (tn r), .int .u32 (tn s), .int .u32 (tn u)] 40)).alloc (.cells (ws W) 32)).alloc (.cells #[.int .u32 0, .int .u32 0, .int .u32 0, .int .u32 0, .int .u32 0] 40) = w2 at *
  have c0 := cell_of_row w2 w.heap.size 0 _ _ _ HF.out
  have c1 := cell_of_row w2 w.heap.size 1 _ _ _ HF.out
  have c2 := cell_of_row w2 w.heap.size 2 _ _ _ HF.out
  have c3 := cell_of_row w2 w.heap.size 3 _ _ _ HF.out
  have c4 := cell_of_row w2 w.heap.size 4 _ _ _ HF.out
  simp at c0 c1 c2 c3 c4
  refine wp_region_still_lit (by kernel_rfl) (by kernel_rfl) ?_
  change wpStill _ _ (World.drew _) (fun a' => Exit.then _ _ _ a' (World.drew _)) _ _
  iterate 15 still_step
  refine wpStill_nil ?_
  go_wp2
  go_loopg [7, 8, 9, 10, 11, 12] a (fun g va vb vc vd ve i wr => ∃ (n : Nat) (y : Sh.Ch), n ≤ a ∧ g = a - n ∧ i = .int .i64 ((a : Int) - 1 - n) ∧ Ah w wr W ∧ y = Dv.rear W ⟨p, q, r, s, u⟩ a n ∧ va = .int .u32 (tn y.a) ∧ vb = .int .u32 (tn y.b) ∧ vc = .int .u32 (tn y.c) ∧ vd = .int .u32 (tn y.d) ∧ ve = .int .u32 (tn y.e))
  case atStart => exact ⟨0, ⟨p, q, r, s, u⟩, Nat.zero_le _, rfl, by simp, HA.out.drew, HS0.out.symm, rfl, rfl, rfl, rfl, rfl⟩
  case round =>
    obtain ⟨n, ⟨ya, yb, yc, yd, ye⟩, hn, rfl, rfl, hW, hy, rfl, rfl, rfl, rfl, rfl⟩ := hrel
    have HY := Lib.hid hy
    clear hy c0 c1 c2 c3 c4 HF HA
    by_cases hlt : n < a
    · have hk : ((a : Int) - 1 - n) = ((a - 1 - n : Nat) : Int) := by omega
      rw [hk]
      have h1 : a - 1 - n < 80 := by omega
      have h2 : ((a - 1 - n : Nat) : Int) < 80 := by omega
      have h0 : (0 : Int) ≤ ((a - 1 - n : Nat) : Int) := by omega
      have hq : ((a - 1 - n : Nat) : Int) - 1 = (a : Int) - 1 - ((n + 1 : Nat) : Int) := by omega
      have HQ := Lib.hid hq
      have hcell : wr.cell? ⟨w.heap.size + 1, a - 1 - n, none⟩ = some (.int .u32 (tn (W.getD (a - 1 - n) 0))) := row_of32 hW.wd (a - 1 - n) h1
      have hnx := HS.out n
      generalize W.getD (a - 1 - n) 0 = v at *
      rw [← HY.out] at hnx
      have HNX := Lib.hid hnx
      have HW := Lib.hid hW
      clear hnx hW hq hk h1
      generalize a - 1 - n = k at *
      go_wp2_with fail
      refine wp_region_still_lit (by kernel_rfl) (by kernel_rfl) ?_
      change wpStill _ _ (World.drew _) (fun a' => Exit.inBlock _ _ _ a' (World.drew _)) _ _
      iterate 2 still_step
      still_call (flip_ (rotl2 _ _))
      iterate 4 still_step
      still_call (flip_ (rotl5 _ _))
      iterate 2 still_step
      still_call (flip_ (rotl2 _ _))
      iterate 3 still_step
      still_call (flip_ (dmixed_any _ _ _ _ _))
      iterate 10 still_step
      refine wpStill_nil ?_
      go_wp2
      go_roundg (a - (n + 1))
      case rel => exact ⟨n + 1, Sh.back ⟨ya, yb, yc, yd, ye⟩ k v, by omega, rfl, by rw [← HQ.out], HW.out.drew, HNX.out.symm, rfl, rfl, rfl, rfl, by rw [sub3]; rfl⟩
      case measure => omega
    · obtain rfl : n = a := by omega
      have HRD := Lib.hid hW.res
      have HB := Lib.hid hW.below
      clear hW
      go_wp2_with (with_reducible refine wpList_store_row rfl 40 (.tmp 6) (.tmp 54) rfl (w.heap.size + 1 + 1) #[.int .u32 (tn ya), .int .u32 (tn yb), .int .u32 (tn yc), .int .u32 (tn yd), .int .u32 (tn ye)] rfl rfl 40 _ HRD.out (info28' _ _ _ _ _) (size5 _ _ _ _ _ _ _ _ _ _) (one5 _ _ _ _ _) ?_)
      refine bodyPost_ret (results_cell_row Try.results43 _ _ (w.heap.size + 1 + 1) 40 #[.int .u32 (tn ya), .int .u32 (tn yb), .int .u32 (tn yc), .int .u32 (tn yd), .int .u32 (tn ye)] (0, 0) _ rfl (setRow_heap _ _ _ _ _ _ HRD.out) Try.underlying40 rfl (info28' _ _ _ _ _)) rfl ⟨by rw [← HY.out], ?_⟩
      exact below_setRow HB.out (by omega) _
end Go.Proofs.Ytpffolohkmokhaa.Hd
