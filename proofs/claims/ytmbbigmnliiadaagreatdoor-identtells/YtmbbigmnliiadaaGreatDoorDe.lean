/-
  The contract of the document's Difference (layer 5).
-/
import Derived.Test.YtmbbigmnliiadaaGreatDoorD1
namespace Go.Proofs.YtmbbigmnliiadaaGreatDoor.Hd
open Go.RowKit Hs Hp
set_option linter.unusedVariables false
attribute [local go_sem] t_and t_or t_xor t_not t_add t_sub t_add_wrap t_sub_wrap

theorem rr1 (x : UInt32) (w : World) : Calls Tryz.prog 87 #[.int .u32 (tn x), .int .u64 1] w fun e w' => e = .returned (.int .u32 (tn (Sh.rot x 1))) ∧ w' = w := flip_ (rot_any x 1 w (by omega) (by omega))
theorem rr5 (x : UInt32) (w : World) : Calls Tryz.prog 87 #[.int .u32 (tn x), .int .u64 5] w fun e w' => e = .returned (.int .u32 (tn (Sh.rot x 5))) ∧ w' = w := flip_ (rot_any x 5 w (by omega) (by omega))
theorem rr30 (x : UInt32) (w : World) : Calls Tryz.prog 87 #[.int .u32 (tn x), .int .u64 30] w fun e w' => e = .returned (.int .u32 (tn (Sh.rot x 30))) ∧ w' = w := flip_ (rot_any x 30 w (by omega) (by omega))
theorem rr31 (x : UInt32) (w : World) : Calls Tryz.prog 87 #[.int .u32 (tn x), .int .u64 31] w fun e w' => e = .returned (.int .u32 (tn (Sh.rot x 31))) ∧ w' = w := flip_ (rot_any x 31 w (by omega) (by omega))
theorem diffAt_doc (f : Nat → UInt32) (t : Nat) : Dv.diffAt f t = f (t + 5) ^^^ Sh.rot (f (t + 4)) 5 ^^^ f (t + 3) ^^^ Sh.rot (f (t + 2)) 30 ^^^ Sh.rot (f (t + 1)) 30 ^^^ Sh.rot (f t) 30 := by
  unfold Dv.diffAt
  rw [rot_xor _ _ 30 (by omega) (by omega), rot_xor _ _ 30 (by omega) (by omega)]
  simp only [UInt32.xor_assoc]

/-- the state ahead of the third loop: the result's row, the words, the row -/
structure Rr (w wr : World) (f : Nat → UInt32) : Prop where
  below : Below w.heap.size w wr
  res : wr.heap[w.heap.size + 1]? = some (.cells (ws []) 84 (0, 0))
  m : wr.heap[w.heap.size + 1 + 1]? = some (.cells (ws []) 84 (0, 0))
  row : wr.rowIs (w.heap.size + 1 + 1 + 1) 115 85 (fun j => .int .u32 (tn (f j)))
/-- in the third loop -/
structure Dr (w wr : World) (f : Nat → UInt32) (n : Nat) : Prop where
  below : Below w.heap.size w wr
  res : wr.heap[w.heap.size + 1]? = some (.cells (ws []) 84 (0, 0))
  m : wr.rowIs (w.heap.size + 1 + 1) 84 80 (fun j => .int .u32 (tn (if j < n then Dv.diffAt f j else 0)))
  row : wr.rowIs (w.heap.size + 1 + 1 + 1) 115 85 (fun j => .int .u32 (tn (f j)))
section
variable {w wr : World} {f : Nat → UInt32} {n : Nat}
theorem Rr.drew (h : Rr w wr f) : Rr w wr.drew f := ⟨h.below.drew, h.res, h.m, h.row⟩
theorem Rr.put (h : Rr w wr f) (i : Nat) (x : UInt32) : Rr w (wr.setCell ⟨w.heap.size + 1 + 1 + 1, i, none⟩ (.int .u32 (tn x))) (Dv.setAt f i x) :=
  ⟨h.below.setCell (by simp; omega) _, by rw [heap_setCell_other _ _ _ _ (by simp)]; exact h.res, by rw [heap_setCell_other _ _ _ _ (by simp)]; exact h.m, ds_put h.row i x⟩
theorem Rr.at_ (h : Rr w wr f) (j : Nat) (hj : j < 85) : wr.cell? ⟨w.heap.size + 1 + 1 + 1, j, none⟩ = some (.int .u32 (tn (f j))) := h.row.cell hj
theorem Rr.third (h : Rr w wr f) : Dr w wr f 0 := ⟨h.below, h.res, World.rowIs.congr (f := fun j => .int .u32 (tn (([] : List UInt32).getD j 0))) ⟨ws [], h.m, ws_size _, fun i hi => ws_get [] i hi⟩ fun j _ => by rw [if_neg (by omega)]; rfl, h.row⟩
theorem Rr.start (w : World) (v : Array Value) (T : TypeId) (c : Array Value) (f : Nat → UInt32) (hc : c = ds f) :
    Rr w ((((w.alloc (.cells v T)).alloc (.cells (ws []) 84)).alloc (.cells (ws []) 84)).alloc (.cells c 115)) f := by
  subst hc
  refine ⟨((((Below.refl _ w).alloc (Nat.le_refl _) _).alloc (by simp) _).alloc (by simp; omega) _).alloc (by simp; omega) _, ?_, ?_, row_ds ?_⟩
  · rw [heap_alloc_old _ _ (by simp), heap_alloc_old _ _ (by simp)]; exact heap_alloc2_new _ _ _
  · rw [heap_alloc_old _ _ (by simp)]
    have := heap_alloc_new ((w.alloc (.cells v T)).alloc (.cells (ws []) 84)) (.cells (ws []) 84)
    simpa using this
  · have := heap_alloc_new (((w.alloc (.cells v T)).alloc (.cells (ws []) 84)).alloc (.cells (ws []) 84)) (.cells (ds f) 115)
    simpa using this
theorem Dr.drew (h : Dr w wr f n) : Dr w wr.drew f n := ⟨h.below.drew, h.res, h.m, h.row⟩
theorem Dr.put (h : Dr w wr f n) (x : UInt32) (hx : Dv.diffAt f n = x) : Dr w (wr.setCell ⟨w.heap.size + 1 + 1, n, none⟩ (.int .u32 (tn x))) f (n + 1) := by
  refine ⟨h.below.setCell (by simp; omega) _, by rw [heap_setCell_other _ _ _ _ (by simp)]; exact h.res, (h.m.set n _).congr fun j _ => ?_, h.row.setOther (by show w.heap.size + 1 + 1 + 1 ≠ w.heap.size + 1 + 1; omega) _⟩
  by_cases e : j = n
  · subst e; rw [if_pos rfl, if_pos (by omega), hx]
  · rw [if_neg e]
    by_cases hlt : j < n
    · rw [if_pos hlt, if_pos (by omega)]
    · rw [if_neg hlt, if_neg (by omega)]
theorem Dr.at_ (h : Dr w wr f n) (j : Nat) (hj : j < 85) : wr.cell? ⟨w.heap.size + 1 + 1 + 1, j, none⟩ = some (.int .u32 (tn (f j))) := h.row.cell hj
theorem Dr.done (h : Dr w wr f 80) : wr.heap[w.heap.size + 1 + 1]? = some (.cells (ws (Dv.diffs f)) 84 (0, 0)) :=
  Hs.ws_row (h.m.congr fun j hj => by rw [if_pos hj, diffs_get f j hj])
end

set_option maxRecDepth 100000 in
set_option maxHeartbeats 2000000 in
theorem rdiff_no (ty K B : Int) (w : World) (hok : ¬ Dv.ok ty K B) :
    Calls Tryz.prog 65 #[.agg (vs ty K B)] w fun e w' => e = .returned (.agg (ws [])) ∧ Below w.heap.size w w' := by
  have hz := zv29
  have hb0 : Below w.heap.size w (((w.alloc (.cells (vs ty K B) 73)).alloc (.cells (ws []) 84)).alloc (.cells (ws []) 84)) := (((Below.refl _ w).alloc (Nat.le_refl _) _).alloc (by simp) _).alloc (by simp; omega) _
  have hv1 : (((w.alloc (.cells (vs ty K B) 73)).alloc (.cells (ws []) 84)).alloc (.cells (ws []) 84)).heap[w.heap.size + 1]? = some (.cells (ws []) 84 (0, 0)) := by
    rw [heap_alloc_old _ _ (by simp)]; exact heap_alloc2_new _ _ _
  have hv2 : (((w.alloc (.cells (vs ty K B) 73)).alloc (.cells (ws []) 84)).alloc (.cells (ws []) 84)).heap[w.heap.size + 1 + 1]? = some (.cells (ws []) 84 (0, 0)) := by
    have := heap_alloc_new ((w.alloc (.cells (vs ty K B) 73)).alloc (.cells (ws []) 84)) (.cells (ws []) 84)
    simpa using this
  have HB := Lib.hid hb0
  have HZ := Lib.hid hv1
  have HW := Lib.hid hv2
  clear hb0 hv1 hv2
  have hcase : (¬ ty = 1 ∧ ¬ ty = 2) ∨ (ty = 1 ∧ K < 0) ∨ (ty = 2 ∧ K < 0) ∨ (ty = 1 ∧ ¬ K < 0 ∧ K > 64) ∨ (ty = 2 ∧ ¬ K < 0 ∧ K > 64) ∨ (ty = 1 ∧ ¬ K < 0 ∧ ¬ K > 64 ∧ B < 0) ∨ (ty = 2 ∧ ¬ K < 0 ∧ ¬ K > 64 ∧ B < 0) ∨ (ty = 1 ∧ ¬ K < 0 ∧ ¬ K > 64 ∧ ¬ B < 0 ∧ B > 31) ∨ (ty = 2 ∧ ¬ K < 0 ∧ ¬ K > 64 ∧ ¬ B < 0 ∧ B > 31) := by
    unfold Dv.ok at hok
    omega
  clear hok
  unfold vs at *
  rcases hcase with ⟨h1, h2⟩ | ⟨rfl, h2⟩ | ⟨rfl, h2⟩ | ⟨rfl, h2, h3⟩ | ⟨rfl, h2, h3⟩ | ⟨rfl, h2, h3, h4⟩ | ⟨rfl, h2, h3, h4⟩ | ⟨rfl, h2, h3, h4, h5⟩ | ⟨rfl, h2, h3, h4, h5⟩
  all_goals
    go_enter Tryz.func65, Tryz.ntmps65
    go_wp2_with (first
      | (with_reducible refine wpList_load_row rfl 84 (.tmp 3) rfl (w.heap.size + 1 + 1) rfl 84 (ws []) (0, 0) _ HW.out Tryz.underlying84 rfl (info29w _) ?_)
      | (with_reducible refine wpList_store_row rfl 84 (.tmp 2) (.tmp 37) rfl (w.heap.size + 1) (ws []) rfl rfl 84 _ HZ.out (info29w _) (ws_sizes _ _) (Hp.ws_one _) ?_))
    refine bodyPost_ret (results_cell_row Tryz.results65 _ _ (w.heap.size + 1) 84 (ws []) (0, 0) _ rfl (setRow_heap _ _ _ _ _ _ HZ.out) Tryz.underlying84 rfl (info29w _)) rfl ⟨rfl, ?_⟩
    exact below_setRow HB.out (by omega) _

set_option maxHeartbeats 8000000 in
set_option maxRecDepth 100000 in
theorem rdiff_yes (ty : Int) (K B : Nat) (w : World) (ht : ty = 1 ∨ ty = 2) (hK : K ≤ 64) (hB : B < 32) :
    Calls Tryz.prog 65 #[.agg (vs ty K B)] w fun e w' => e = .returned (.agg (ws (Dv.diffs (Dv.row ty.toNat K B)))) ∧ Below w.heap.size w w' := by
  have hz := zv29
  have hz5 := zv85
  have hsh := shl_one B hB
  have hsT := shl_one ((31 + B) % 32) (by omega)
  have s1 : ty = 1 → Dv.setAt nought (K + 20) ((1 : UInt32) <<< UInt32.ofNat B) = Dv.start ty.toNat K B := fun h => by subst h; exact start_one K B
  have s2 : ty = 2 → Dv.setAt (Dv.setAt (Dv.setAt nought (K + 20) ((1 : UInt32) <<< UInt32.ofNat B)) (K + 6) ((1 : UInt32) <<< UInt32.ofNat ((31 + B) % 32))) (K + 8) ((1 : UInt32) <<< UInt32.ofNat ((31 + B) % 32)) = Dv.start ty.toNat K B := fun h => by
    subst h
    rw [show (Int.toNat 2) = 2 from rfl, ← start_two K B]
    funext j
    unfold Dv.setAt
    by_cases h8 : j = K + 8
    · rw [if_pos h8, if_neg (by omega), if_pos h8]
    · rw [if_neg h8]
      by_cases h6 : j = K + 6
      · rw [if_pos h6, if_neg (by omega), if_neg h8, if_pos h6]
      · rw [if_neg h6]
        by_cases h20 : j = K + 20
        · rw [if_pos h20, if_pos h20]
        · rw [if_neg h20, if_neg h20, if_neg h8, if_neg h6]
  generalize (1 : UInt32) <<< UInt32.ofNat B = vB at *
  generalize (1 : UInt32) <<< UInt32.ofNat ((31 + B) % 32) = vT at *
  have hrow : Dv.row ty.toNat K B = Dv.bwd (Dv.fwd (Dv.start ty.toNat K B) (K + 21) (64 - K)) (K + 4) (K + 5) := rfl
  generalize Dv.start ty.toNat K B = S at *
  generalize Dv.row ty.toNat K B = R at *
  have HS1 := Lib.hid s1
  have HS2 := Lib.hid s2
  have HR := Lib.hid hrow
  clear s1 s2 hrow
  have hB' : (B : Int) < 32 := by omega
  have hB0 : (0 : Int) ≤ B := by omega
  obtain ⟨T, hT⟩ : ∃ T : Nat, T = (31 + B) % 32 := ⟨_, rfl⟩
  have eT : ((31 : Int) + (B : Int)).tmod 32 = (T : Int) := by rw [Int.tmod_eq_emod_of_nonneg (by omega)]; omega
  rw [← hT] at hsT
  have hTl : (T : Int) < 32 := by omega
  have hTl' : T < 32 := by omega
  obtain ⟨F, hF⟩ : ∃ F : Nat, F = K + 5 := ⟨_, rfl⟩
  have e5 : (K : Int) + (5 : Int) = F := by omega
  have HF := Lib.hid hF
  have HK := Lib.hid hK
  have hK0 : (0 : Int) ≤ K := by omega
  have hK1 : (K : Int) ≤ 64 := by omega
  have hFl : (F : Int) ≤ 69 := by omega
  have hF0 : (5 : Int) ≤ F := by omega
  have n1 : ((F : Int) + 1).toNat = F + 1 := by omega
  have n3 : ((F : Int) + 3).toNat = F + 3 := by omega
  have n15 : ((F : Int) + 15).toNat = F + 15 := by omega
  have g1 := ds_get nought (F + 1) (by omega)
  have g3 := ds_get nought (F + 3) (by omega)
  have g15 := ds_get nought (F + 15) (by omega)
  clear hF hK hT
  unfold vs at *
  rcases ht with rfl | rfl
  · go_enter Tryz.func65, Tryz.ntmps65
    go_wp2
    clear g1 g3 g15 n1 n3 n15 hz hz5 hsh hsT eT hTl hTl'
    go_loopg [6] (64 - K) (fun g i wr => ∃ n : Nat, n ≤ 64 - K ∧ g = 64 - K - n ∧ i = .int .i64 ((K + 21 + n : Nat) : Int) ∧ Rr w wr (Dv.fwd S (K + 21) n))
    case atStart =>
      refine ⟨0, Nat.zero_le _, rfl, by have := HF.out; congr 1; omega, Rr.start w _ _ _ _ ?_⟩
      rw [ds_set, HF.out]
      exact congrArg ds (HS1.out (by trivial))
    case round =>
      obtain ⟨n, hn, rfl, rfl, hx⟩ := hrel
      by_cases hlt : n < 64 - K
      · as_aux_lemma =>
        have hnx : Dv.fwd S (K + 21) (n + 1) = Dv.setAt (Dv.fwd S (K + 21) n) (K + 21 + n) (Sh.rot (Dv.fwd S (K + 21) n (K + 21 + n - 3) ^^^ Dv.fwd S (K + 21) n (K + 21 + n - 8) ^^^ Dv.fwd S (K + 21) n (K + 21 + n - 14) ^^^ Dv.fwd S (K + 21) n (K + 21 + n - 16)) 1) := rfl
        have htl : K + 21 + n < 85 := by omega
        have htg : 21 ≤ K + 21 + n := by omega
        have HQ := Lib.hid (show ((K + 21 + n : Nat) : Int) + 1 = ((K + 21 + (n + 1) : Nat) : Int) by omega)
        generalize Dv.fwd S (K + 21) n = g at *
        generalize K + 21 + n = t at *
        have h1 : ((t : Nat) : Int) < 85 := by omega
        have h0 : (0 : Int) ≤ ((t : Nat) : Int) := by omega
        have a3 : (0 : Int) ≤ ((t : Nat) : Int) - 3 := by omega
        have b3 : (3 : Int) ≤ ((t : Nat) : Int) := by omega
        have d3 : ((t : Nat) : Int) - 3 < 85 := by omega
        have n3 : (((t : Nat) : Int) - 3).toNat = t - 3 := by omega
        have w3 : IntKind.i64.wrap (((t : Nat) : Int) - 3) = ((t : Nat) : Int) - 3 := IntWalk.i64_in _ (by omega)
        have c3 := hx.at_ (t - 3) (by omega)
        have a8 : (0 : Int) ≤ ((t : Nat) : Int) - 8 := by omega
        have b8 : (8 : Int) ≤ ((t : Nat) : Int) := by omega
        have d8 : ((t : Nat) : Int) - 8 < 85 := by omega
        have n8 : (((t : Nat) : Int) - 8).toNat = t - 8 := by omega
        have w8 : IntKind.i64.wrap (((t : Nat) : Int) - 8) = ((t : Nat) : Int) - 8 := IntWalk.i64_in _ (by omega)
        have c8 := hx.at_ (t - 8) (by omega)
        have a14 : (0 : Int) ≤ ((t : Nat) : Int) - 14 := by omega
        have b14 : (14 : Int) ≤ ((t : Nat) : Int) := by omega
        have d14 : ((t : Nat) : Int) - 14 < 85 := by omega
        have n14 : (((t : Nat) : Int) - 14).toNat = t - 14 := by omega
        have w14 : IntKind.i64.wrap (((t : Nat) : Int) - 14) = ((t : Nat) : Int) - 14 := IntWalk.i64_in _ (by omega)
        have c14 := hx.at_ (t - 14) (by omega)
        have a16 : (0 : Int) ≤ ((t : Nat) : Int) - 16 := by omega
        have b16 : (16 : Int) ≤ ((t : Nat) : Int) := by omega
        have d16 : ((t : Nat) : Int) - 16 < 85 := by omega
        have n16 : (((t : Nat) : Int) - 16).toNat = t - 16 := by omega
        have w16 : IntKind.i64.wrap (((t : Nat) : Int) - 16) = ((t : Nat) : Int) - 16 := IntWalk.i64_in _ (by omega)
        have c16 := hx.at_ (t - 16) (by omega)
        have ct := hx.at_ t htl
        have cf := hx.row.frozen t
        generalize hgt : g t = xt at *
        generalize g (t - 3) = x3 at *
        generalize g (t - 8) = x8 at *
        generalize g (t - 14) = x14 at *
        generalize g (t - 16) = x16 at *
        have HX := Lib.hid hx
        have HNX := Lib.hid hnx
        clear hx hnx hgt
        go_wp2_with fail
        refine wp_region_still_tail 22 (by kernel_rfl) (by kernel_rfl) ?_
        simp only [List.take_succ_cons, List.take_zero, List.drop_succ_cons, List.drop_zero]
        change wpStill _ _ (World.drew _) (fun a' => wpList _ _ _ _ a' (World.drew _)) _ _
        iterate 20 still_step
        still_call (rr1 _ _)
        still_step
        refine wpStill_nil ?_
        go_wp2
        go_roundg (64 - K - (n + 1))
        case rel => exact ⟨n + 1, by omega, rfl, by rw [← HQ.out], by rw [HNX.out]; exact HX.out.drew.put _ _⟩
        case measure => omega
      · obtain rfl : n = 64 - K := by omega
        have HX := Lib.hid hx
        clear hx
        go_wp2
        go_loopg [7] (K + 5) (fun g i wr => ∃ n : Nat, n ≤ K + 5 ∧ g = K + 5 - n ∧ i = .int .i64 ((K : Int) + 20 - n) ∧ Rr w wr (Dv.bwd (Dv.fwd S (K + 21) (64 - K)) (K + 4) n))
        case atStart => exact ⟨0, Nat.zero_le _, rfl, by have := HF.out; congr 1; omega, HX.out⟩
        case round =>
          obtain ⟨n, hn, rfl, rfl, hx⟩ := hrel
          clear HX
          by_cases hlt : n < K + 5
          · as_aux_lemma =>
            have hnx : Dv.bwd (Dv.fwd S (K + 21) (64 - K)) (K + 4) (n + 1) = Dv.setAt (Dv.bwd (Dv.fwd S (K + 21) (64 - K)) (K + 4) n) (K + 4 - n) (Sh.rot (Dv.bwd (Dv.fwd S (K + 21) (64 - K)) (K + 4) n (K + 4 - n + 16)) 31 ^^^ Dv.bwd (Dv.fwd S (K + 21) (64 - K)) (K + 4) n (K + 4 - n + 13) ^^^ Dv.bwd (Dv.fwd S (K + 21) (64 - K)) (K + 4) n (K + 4 - n + 8) ^^^ Dv.bwd (Dv.fwd S (K + 21) (64 - K)) (K + 4) n (K + 4 - n + 2)) := rfl
            obtain ⟨t, ht⟩ : ∃ t : Nat, t = K + 20 - n := ⟨_, rfl⟩
            have hkl := HK.out
            have htl : t < 85 := by omega
            have htg : 16 ≤ t := by omega
            have hk : (K : Int) + 20 - n = ((t : Nat) : Int) := by omega
            have HQ := Lib.hid (show ((t : Nat) : Int) - 1 = (K : Int) + 20 - ((n + 1 : Nat) : Int) by omega)
            rw [hk]
            rw [show K + 4 - n + 16 = t by omega, show K + 4 - n + 13 = t - 3 by omega, show K + 4 - n + 8 = t - 8 by omega, show K + 4 - n + 2 = t - 14 by omega, show K + 4 - n = t - 16 by omega] at hnx
            clear hk ht hkl
            generalize Dv.bwd (Dv.fwd S (K + 21) (64 - K)) (K + 4) n = g at *
            have h1 : ((t : Nat) : Int) < 85 := by omega
            have h16 : (16 : Int) ≤ ((t : Nat) : Int) := by omega
            have h0 : (0 : Int) ≤ ((t : Nat) : Int) := by omega
            have a3 : (0 : Int) ≤ ((t : Nat) : Int) - 3 := by omega
            have b3 : (3 : Int) ≤ ((t : Nat) : Int) := by omega
            have d3 : ((t : Nat) : Int) - 3 < 85 := by omega
            have n3 : (((t : Nat) : Int) - 3).toNat = t - 3 := by omega
            have w3 : IntKind.i64.wrap (((t : Nat) : Int) - 3) = ((t : Nat) : Int) - 3 := IntWalk.i64_in _ (by omega)
            have c3 := hx.at_ (t - 3) (by omega)
            have a8 : (0 : Int) ≤ ((t : Nat) : Int) - 8 := by omega
            have b8 : (8 : Int) ≤ ((t : Nat) : Int) := by omega
            have d8 : ((t : Nat) : Int) - 8 < 85 := by omega
            have n8 : (((t : Nat) : Int) - 8).toNat = t - 8 := by omega
            have w8 : IntKind.i64.wrap (((t : Nat) : Int) - 8) = ((t : Nat) : Int) - 8 := IntWalk.i64_in _ (by omega)
            have c8 := hx.at_ (t - 8) (by omega)
            have a14 : (0 : Int) ≤ ((t : Nat) : Int) - 14 := by omega
            have b14 : (14 : Int) ≤ ((t : Nat) : Int) := by omega
            have d14 : ((t : Nat) : Int) - 14 < 85 := by omega
            have n14 : (((t : Nat) : Int) - 14).toNat = t - 14 := by omega
            have w14 : IntKind.i64.wrap (((t : Nat) : Int) - 14) = ((t : Nat) : Int) - 14 := IntWalk.i64_in _ (by omega)
            have c14 := hx.at_ (t - 14) (by omega)
            have a16 : (0 : Int) ≤ ((t : Nat) : Int) - 16 := by omega
            have b16 : (16 : Int) ≤ ((t : Nat) : Int) := by omega
            have d16 : ((t : Nat) : Int) - 16 < 85 := by omega
            have n16 : (((t : Nat) : Int) - 16).toNat = t - 16 := by omega
            have w16 : IntKind.i64.wrap (((t : Nat) : Int) - 16) = ((t : Nat) : Int) - 16 := IntWalk.i64_in _ (by omega)
            have c16 := hx.at_ (t - 16) (by omega)
            have ct := hx.at_ t htl
            have cf := hx.row.frozen (t - 16)
            generalize g t = xt at *
            generalize g (t - 3) = x3 at *
            generalize g (t - 8) = x8 at *
            generalize g (t - 14) = x14 at *
            generalize g (t - 16) = x16 at *
            have HX := Lib.hid hx
            have HNX := Lib.hid hnx
            clear hx hnx
            go_wp2_with fail
            refine wp_region_still_tail 22 (by kernel_rfl) (by kernel_rfl) ?_
            simp only [List.take_succ_cons, List.take_zero, List.drop_succ_cons, List.drop_zero]
            change wpStill _ _ (World.drew _) (fun a' => wpList _ _ _ _ a' (World.drew _)) _ _
            iterate 5 still_step
            still_call (rr31 _ _)
            iterate 16 still_step
            refine wpStill_nil ?_
            go_wp2
            go_roundg (K + 5 - (n + 1))
            case rel => exact ⟨n + 1, by omega, rfl, by rw [← HQ.out], by rw [HNX.out]; exact HX.out.drew.put _ _⟩
            case measure => omega
          · obtain rfl : n = K + 5 := by omega
            rw [← HR.out] at hx
            have HX := Lib.hid hx.third
            clear hx
            have hend : ¬ (16 : Int) ≤ (K : Int) + 20 - ((K + 5 : Nat) : Int) := by omega
            go_wp2
            go_loopg [8] 80 (fun g i wr => ∃ n : Nat, n ≤ 80 ∧ g = 80 - n ∧ i = .int .i64 n ∧ Dr w wr R n)
            case atStart => exact ⟨0, Nat.zero_le _, rfl, rfl, HX.out⟩
            case round =>
              obtain ⟨t, hn, rfl, rfl, hx⟩ := hrel
              clear HX
              by_cases hlt : t < 80
              · as_aux_lemma =>
                have hnx := diffAt_doc R t
                have h1 : ((t : Nat) : Int) < 80 := by omega
                have h85 : ((t : Nat) : Int) < 85 := by omega
                have h0 : (0 : Int) ≤ ((t : Nat) : Int) := by omega
                have cm := hx.m.cell hlt
                have cf := hx.m.frozen t
                have a1 : (0 : Int) ≤ ((t : Nat) : Int) + 1 := by omega
                have d1 : ((t : Nat) : Int) + 1 < 85 := by omega
                have n1 : (((t : Nat) : Int) + 1).toNat = t + 1 := by omega
                have w1 : IntKind.i64.wrap (((t : Nat) : Int) + 1) = ((t : Nat) : Int) + 1 := IntWalk.i64_in _ (by omega)
                have c1 := hx.at_ (t + 1) (by omega)
                have a2 : (0 : Int) ≤ ((t : Nat) : Int) + 2 := by omega
                have d2 : ((t : Nat) : Int) + 2 < 85 := by omega
                have n2 : (((t : Nat) : Int) + 2).toNat = t + 2 := by omega
                have w2 : IntKind.i64.wrap (((t : Nat) : Int) + 2) = ((t : Nat) : Int) + 2 := IntWalk.i64_in _ (by omega)
                have c2 := hx.at_ (t + 2) (by omega)
                have a3 : (0 : Int) ≤ ((t : Nat) : Int) + 3 := by omega
                have d3 : ((t : Nat) : Int) + 3 < 85 := by omega
                have n3 : (((t : Nat) : Int) + 3).toNat = t + 3 := by omega
                have w3 : IntKind.i64.wrap (((t : Nat) : Int) + 3) = ((t : Nat) : Int) + 3 := IntWalk.i64_in _ (by omega)
                have c3 := hx.at_ (t + 3) (by omega)
                have a4 : (0 : Int) ≤ ((t : Nat) : Int) + 4 := by omega
                have d4 : ((t : Nat) : Int) + 4 < 85 := by omega
                have n4 : (((t : Nat) : Int) + 4).toNat = t + 4 := by omega
                have w4 : IntKind.i64.wrap (((t : Nat) : Int) + 4) = ((t : Nat) : Int) + 4 := IntWalk.i64_in _ (by omega)
                have c4 := hx.at_ (t + 4) (by omega)
                have a5 : (0 : Int) ≤ ((t : Nat) : Int) + 5 := by omega
                have d5 : ((t : Nat) : Int) + 5 < 85 := by omega
                have n5 : (((t : Nat) : Int) + 5).toNat = t + 5 := by omega
                have w5 : IntKind.i64.wrap (((t : Nat) : Int) + 5) = ((t : Nat) : Int) + 5 := IntWalk.i64_in _ (by omega)
                have c5 := hx.at_ (t + 5) (by omega)
                have c0 := hx.at_ t (by omega)
                generalize R (t + 1) = x1 at *
                generalize R (t + 2) = x2 at *
                generalize R (t + 3) = x3 at *
                generalize R (t + 4) = x4 at *
                generalize R (t + 5) = x5 at *
                generalize R t = x0 at *
                have HX := Lib.hid hx
                have HNX := Lib.hid hnx
                clear hx hnx
                go_wp2_with fail
                refine wp_region_still_tail 34 (by kernel_rfl) (by kernel_rfl) ?_
                simp only [List.take_succ_cons, List.take_zero, List.drop_succ_cons, List.drop_zero]
                change wpStill _ _ (World.drew _) (fun a' => wpList _ _ _ _ a' (World.drew _)) _ _
                iterate 9 still_step
                still_call (rr5 _ _)
                iterate 10 still_step
                still_call (rr30 _ _)
                iterate 5 still_step
                still_call (rr30 _ _)
                iterate 4 still_step
                still_call (rr30 _ _)
                iterate 2 still_step
                refine wpStill_nil ?_
                go_wp2
                go_roundg (80 - (t + 1))
                case rel => exact ⟨t + 1, by omega, rfl, by go_num, HX.out.drew.put _ HNX.out⟩
                case measure => omega
              · obtain rfl : t = 80 := by omega
                have HW := Lib.hid hx.done
                have HZ := Lib.hid hx.res
                have HB := Lib.hid hx.below
                clear hx
                go_wp2_with (first
                  | (with_reducible refine wpList_load_row rfl 84 (.tmp 3) rfl (w.heap.size + 1 + 1) rfl 84 (ws (Dv.diffs R)) (0, 0) _ HW.out Tryz.underlying84 rfl (info29w _) ?_)
                  | (with_reducible refine wpList_store_row rfl 84 (.tmp 2) (.tmp 163) rfl (w.heap.size + 1) (ws (Dv.diffs R)) rfl rfl 84 _ HZ.out (info29w _) (ws_sizes _ _) (Hp.ws_one _) ?_))
                refine bodyPost_ret (results_cell_row Tryz.results65 _ _ (w.heap.size + 1) 84 (ws (Dv.diffs R)) (0, 0) _ rfl (setRow_heap _ _ _ _ _ _ HZ.out) Tryz.underlying84 rfl (info29w _)) rfl ⟨rfl, ?_⟩
                exact below_setRow HB.out (by omega) _
  · go_enter Tryz.func65, Tryz.ntmps65
    go_wp2
    clear g1 g3 g15 n1 n3 n15 hz hz5 hsh hsT eT hTl hTl'
    go_loopg [6] (64 - K) (fun g i wr => ∃ n : Nat, n ≤ 64 - K ∧ g = 64 - K - n ∧ i = .int .i64 ((K + 21 + n : Nat) : Int) ∧ Rr w wr (Dv.fwd S (K + 21) n))
    case atStart =>
      refine ⟨0, Nat.zero_le _, rfl, by have := HF.out; congr 1; omega, Rr.start w _ _ _ _ ?_⟩
      rw [ds_set, ds_set, ds_set, HF.out]
      exact congrArg ds (HS2.out (by trivial))
    case round =>
      obtain ⟨n, hn, rfl, rfl, hx⟩ := hrel
      by_cases hlt : n < 64 - K
      · as_aux_lemma =>
        have hnx : Dv.fwd S (K + 21) (n + 1) = Dv.setAt (Dv.fwd S (K + 21) n) (K + 21 + n) (Sh.rot (Dv.fwd S (K + 21) n (K + 21 + n - 3) ^^^ Dv.fwd S (K + 21) n (K + 21 + n - 8) ^^^ Dv.fwd S (K + 21) n (K + 21 + n - 14) ^^^ Dv.fwd S (K + 21) n (K + 21 + n - 16)) 1) := rfl
        have htl : K + 21 + n < 85 := by omega
        have htg : 21 ≤ K + 21 + n := by omega
        have HQ := Lib.hid (show ((K + 21 + n : Nat) : Int) + 1 = ((K + 21 + (n + 1) : Nat) : Int) by omega)
        generalize Dv.fwd S (K + 21) n = g at *
        generalize K + 21 + n = t at *
        have h1 : ((t : Nat) : Int) < 85 := by omega
        have h0 : (0 : Int) ≤ ((t : Nat) : Int) := by omega
        have a3 : (0 : Int) ≤ ((t : Nat) : Int) - 3 := by omega
        have b3 : (3 : Int) ≤ ((t : Nat) : Int) := by omega
        have d3 : ((t : Nat) : Int) - 3 < 85 := by omega
        have n3 : (((t : Nat) : Int) - 3).toNat = t - 3 := by omega
        have w3 : IntKind.i64.wrap (((t : Nat) : Int) - 3) = ((t : Nat) : Int) - 3 := IntWalk.i64_in _ (by omega)
        have c3 := hx.at_ (t - 3) (by omega)
        have a8 : (0 : Int) ≤ ((t : Nat) : Int) - 8 := by omega
        have b8 : (8 : Int) ≤ ((t : Nat) : Int) := by omega
        have d8 : ((t : Nat) : Int) - 8 < 85 := by omega
        have n8 : (((t : Nat) : Int) - 8).toNat = t - 8 := by omega
        have w8 : IntKind.i64.wrap (((t : Nat) : Int) - 8) = ((t : Nat) : Int) - 8 := IntWalk.i64_in _ (by omega)
        have c8 := hx.at_ (t - 8) (by omega)
        have a14 : (0 : Int) ≤ ((t : Nat) : Int) - 14 := by omega
        have b14 : (14 : Int) ≤ ((t : Nat) : Int) := by omega
        have d14 : ((t : Nat) : Int) - 14 < 85 := by omega
        have n14 : (((t : Nat) : Int) - 14).toNat = t - 14 := by omega
        have w14 : IntKind.i64.wrap (((t : Nat) : Int) - 14) = ((t : Nat) : Int) - 14 := IntWalk.i64_in _ (by omega)
        have c14 := hx.at_ (t - 14) (by omega)
        have a16 : (0 : Int) ≤ ((t : Nat) : Int) - 16 := by omega
        have b16 : (16 : Int) ≤ ((t : Nat) : Int) := by omega
        have d16 : ((t : Nat) : Int) - 16 < 85 := by omega
        have n16 : (((t : Nat) : Int) - 16).toNat = t - 16 := by omega
        have w16 : IntKind.i64.wrap (((t : Nat) : Int) - 16) = ((t : Nat) : Int) - 16 := IntWalk.i64_in _ (by omega)
        have c16 := hx.at_ (t - 16) (by omega)
        have ct := hx.at_ t htl
        have cf := hx.row.frozen t
        generalize hgt : g t = xt at *
        generalize g (t - 3) = x3 at *
        generalize g (t - 8) = x8 at *
        generalize g (t - 14) = x14 at *
        generalize g (t - 16) = x16 at *
        have HX := Lib.hid hx
        have HNX := Lib.hid hnx
        clear hx hnx hgt
        go_wp2_with fail
        refine wp_region_still_tail 22 (by kernel_rfl) (by kernel_rfl) ?_
        simp only [List.take_succ_cons, List.take_zero, List.drop_succ_cons, List.drop_zero]
        change wpStill _ _ (World.drew _) (fun a' => wpList _ _ _ _ a' (World.drew _)) _ _
        iterate 20 still_step
        still_call (rr1 _ _)
        still_step
        refine wpStill_nil ?_
        go_wp2
        go_roundg (64 - K - (n + 1))
        case rel => exact ⟨n + 1, by omega, rfl, by rw [← HQ.out], by rw [HNX.out]; exact HX.out.drew.put _ _⟩
        case measure => omega
      · obtain rfl : n = 64 - K := by omega
        have HX := Lib.hid hx
        clear hx
        go_wp2
        go_loopg [7] (K + 5) (fun g i wr => ∃ n : Nat, n ≤ K + 5 ∧ g = K + 5 - n ∧ i = .int .i64 ((K : Int) + 20 - n) ∧ Rr w wr (Dv.bwd (Dv.fwd S (K + 21) (64 - K)) (K + 4) n))
        case atStart => exact ⟨0, Nat.zero_le _, rfl, by have := HF.out; congr 1; omega, HX.out⟩
        case round =>
          obtain ⟨n, hn, rfl, rfl, hx⟩ := hrel
          clear HX
          by_cases hlt : n < K + 5
          · as_aux_lemma =>
            have hnx : Dv.bwd (Dv.fwd S (K + 21) (64 - K)) (K + 4) (n + 1) = Dv.setAt (Dv.bwd (Dv.fwd S (K + 21) (64 - K)) (K + 4) n) (K + 4 - n) (Sh.rot (Dv.bwd (Dv.fwd S (K + 21) (64 - K)) (K + 4) n (K + 4 - n + 16)) 31 ^^^ Dv.bwd (Dv.fwd S (K + 21) (64 - K)) (K + 4) n (K + 4 - n + 13) ^^^ Dv.bwd (Dv.fwd S (K + 21) (64 - K)) (K + 4) n (K + 4 - n + 8) ^^^ Dv.bwd (Dv.fwd S (K + 21) (64 - K)) (K + 4) n (K + 4 - n + 2)) := rfl
            obtain ⟨t, ht⟩ : ∃ t : Nat, t = K + 20 - n := ⟨_, rfl⟩
            have hkl := HK.out
            have htl : t < 85 := by omega
            have htg : 16 ≤ t := by omega
            have hk : (K : Int) + 20 - n = ((t : Nat) : Int) := by omega
            have HQ := Lib.hid (show ((t : Nat) : Int) - 1 = (K : Int) + 20 - ((n + 1 : Nat) : Int) by omega)
            rw [hk]
            rw [show K + 4 - n + 16 = t by omega, show K + 4 - n + 13 = t - 3 by omega, show K + 4 - n + 8 = t - 8 by omega, show K + 4 - n + 2 = t - 14 by omega, show K + 4 - n = t - 16 by omega] at hnx
            clear hk ht hkl
            generalize Dv.bwd (Dv.fwd S (K + 21) (64 - K)) (K + 4) n = g at *
            have h1 : ((t : Nat) : Int) < 85 := by omega
            have h16 : (16 : Int) ≤ ((t : Nat) : Int) := by omega
            have h0 : (0 : Int) ≤ ((t : Nat) : Int) := by omega
            have a3 : (0 : Int) ≤ ((t : Nat) : Int) - 3 := by omega
            have b3 : (3 : Int) ≤ ((t : Nat) : Int) := by omega
            have d3 : ((t : Nat) : Int) - 3 < 85 := by omega
            have n3 : (((t : Nat) : Int) - 3).toNat = t - 3 := by omega
            have w3 : IntKind.i64.wrap (((t : Nat) : Int) - 3) = ((t : Nat) : Int) - 3 := IntWalk.i64_in _ (by omega)
            have c3 := hx.at_ (t - 3) (by omega)
            have a8 : (0 : Int) ≤ ((t : Nat) : Int) - 8 := by omega
            have b8 : (8 : Int) ≤ ((t : Nat) : Int) := by omega
            have d8 : ((t : Nat) : Int) - 8 < 85 := by omega
            have n8 : (((t : Nat) : Int) - 8).toNat = t - 8 := by omega
            have w8 : IntKind.i64.wrap (((t : Nat) : Int) - 8) = ((t : Nat) : Int) - 8 := IntWalk.i64_in _ (by omega)
            have c8 := hx.at_ (t - 8) (by omega)
            have a14 : (0 : Int) ≤ ((t : Nat) : Int) - 14 := by omega
            have b14 : (14 : Int) ≤ ((t : Nat) : Int) := by omega
            have d14 : ((t : Nat) : Int) - 14 < 85 := by omega
            have n14 : (((t : Nat) : Int) - 14).toNat = t - 14 := by omega
            have w14 : IntKind.i64.wrap (((t : Nat) : Int) - 14) = ((t : Nat) : Int) - 14 := IntWalk.i64_in _ (by omega)
            have c14 := hx.at_ (t - 14) (by omega)
            have a16 : (0 : Int) ≤ ((t : Nat) : Int) - 16 := by omega
            have b16 : (16 : Int) ≤ ((t : Nat) : Int) := by omega
            have d16 : ((t : Nat) : Int) - 16 < 85 := by omega
            have n16 : (((t : Nat) : Int) - 16).toNat = t - 16 := by omega
            have w16 : IntKind.i64.wrap (((t : Nat) : Int) - 16) = ((t : Nat) : Int) - 16 := IntWalk.i64_in _ (by omega)
            have c16 := hx.at_ (t - 16) (by omega)
            have ct := hx.at_ t htl
            have cf := hx.row.frozen (t - 16)
            generalize g t = xt at *
            generalize g (t - 3) = x3 at *
            generalize g (t - 8) = x8 at *
            generalize g (t - 14) = x14 at *
            generalize g (t - 16) = x16 at *
            have HX := Lib.hid hx
            have HNX := Lib.hid hnx
            clear hx hnx
            go_wp2_with fail
            refine wp_region_still_tail 22 (by kernel_rfl) (by kernel_rfl) ?_
            simp only [List.take_succ_cons, List.take_zero, List.drop_succ_cons, List.drop_zero]
            change wpStill _ _ (World.drew _) (fun a' => wpList _ _ _ _ a' (World.drew _)) _ _
            iterate 5 still_step
            still_call (rr31 _ _)
            iterate 16 still_step
            refine wpStill_nil ?_
            go_wp2
            go_roundg (K + 5 - (n + 1))
            case rel => exact ⟨n + 1, by omega, rfl, by rw [← HQ.out], by rw [HNX.out]; exact HX.out.drew.put _ _⟩
            case measure => omega
          · obtain rfl : n = K + 5 := by omega
            rw [← HR.out] at hx
            have HX := Lib.hid hx.third
            clear hx
            have hend : ¬ (16 : Int) ≤ (K : Int) + 20 - ((K + 5 : Nat) : Int) := by omega
            go_wp2
            go_loopg [8] 80 (fun g i wr => ∃ n : Nat, n ≤ 80 ∧ g = 80 - n ∧ i = .int .i64 n ∧ Dr w wr R n)
            case atStart => exact ⟨0, Nat.zero_le _, rfl, rfl, HX.out⟩
            case round =>
              obtain ⟨t, hn, rfl, rfl, hx⟩ := hrel
              clear HX
              by_cases hlt : t < 80
              · as_aux_lemma =>
                have hnx := diffAt_doc R t
                have h1 : ((t : Nat) : Int) < 80 := by omega
                have h85 : ((t : Nat) : Int) < 85 := by omega
                have h0 : (0 : Int) ≤ ((t : Nat) : Int) := by omega
                have cm := hx.m.cell hlt
                have cf := hx.m.frozen t
                have a1 : (0 : Int) ≤ ((t : Nat) : Int) + 1 := by omega
                have d1 : ((t : Nat) : Int) + 1 < 85 := by omega
                have n1 : (((t : Nat) : Int) + 1).toNat = t + 1 := by omega
                have w1 : IntKind.i64.wrap (((t : Nat) : Int) + 1) = ((t : Nat) : Int) + 1 := IntWalk.i64_in _ (by omega)
                have c1 := hx.at_ (t + 1) (by omega)
                have a2 : (0 : Int) ≤ ((t : Nat) : Int) + 2 := by omega
                have d2 : ((t : Nat) : Int) + 2 < 85 := by omega
                have n2 : (((t : Nat) : Int) + 2).toNat = t + 2 := by omega
                have w2 : IntKind.i64.wrap (((t : Nat) : Int) + 2) = ((t : Nat) : Int) + 2 := IntWalk.i64_in _ (by omega)
                have c2 := hx.at_ (t + 2) (by omega)
                have a3 : (0 : Int) ≤ ((t : Nat) : Int) + 3 := by omega
                have d3 : ((t : Nat) : Int) + 3 < 85 := by omega
                have n3 : (((t : Nat) : Int) + 3).toNat = t + 3 := by omega
                have w3 : IntKind.i64.wrap (((t : Nat) : Int) + 3) = ((t : Nat) : Int) + 3 := IntWalk.i64_in _ (by omega)
                have c3 := hx.at_ (t + 3) (by omega)
                have a4 : (0 : Int) ≤ ((t : Nat) : Int) + 4 := by omega
                have d4 : ((t : Nat) : Int) + 4 < 85 := by omega
                have n4 : (((t : Nat) : Int) + 4).toNat = t + 4 := by omega
                have w4 : IntKind.i64.wrap (((t : Nat) : Int) + 4) = ((t : Nat) : Int) + 4 := IntWalk.i64_in _ (by omega)
                have c4 := hx.at_ (t + 4) (by omega)
                have a5 : (0 : Int) ≤ ((t : Nat) : Int) + 5 := by omega
                have d5 : ((t : Nat) : Int) + 5 < 85 := by omega
                have n5 : (((t : Nat) : Int) + 5).toNat = t + 5 := by omega
                have w5 : IntKind.i64.wrap (((t : Nat) : Int) + 5) = ((t : Nat) : Int) + 5 := IntWalk.i64_in _ (by omega)
                have c5 := hx.at_ (t + 5) (by omega)
                have c0 := hx.at_ t (by omega)
                generalize R (t + 1) = x1 at *
                generalize R (t + 2) = x2 at *
                generalize R (t + 3) = x3 at *
                generalize R (t + 4) = x4 at *
                generalize R (t + 5) = x5 at *
                generalize R t = x0 at *
                have HX := Lib.hid hx
                have HNX := Lib.hid hnx
                clear hx hnx
                go_wp2_with fail
                refine wp_region_still_tail 34 (by kernel_rfl) (by kernel_rfl) ?_
                simp only [List.take_succ_cons, List.take_zero, List.drop_succ_cons, List.drop_zero]
                change wpStill _ _ (World.drew _) (fun a' => wpList _ _ _ _ a' (World.drew _)) _ _
                iterate 9 still_step
                still_call (rr5 _ _)
                iterate 10 still_step
                still_call (rr30 _ _)
                iterate 5 still_step
                still_call (rr30 _ _)
                iterate 4 still_step
                still_call (rr30 _ _)
                iterate 2 still_step
                refine wpStill_nil ?_
                go_wp2
                go_roundg (80 - (t + 1))
                case rel => exact ⟨t + 1, by omega, rfl, by go_num, HX.out.drew.put _ HNX.out⟩
                case measure => omega
              · obtain rfl : t = 80 := by omega
                have HW := Lib.hid hx.done
                have HZ := Lib.hid hx.res
                have HB := Lib.hid hx.below
                clear hx
                go_wp2_with (first
                  | (with_reducible refine wpList_load_row rfl 84 (.tmp 3) rfl (w.heap.size + 1 + 1) rfl 84 (ws (Dv.diffs R)) (0, 0) _ HW.out Tryz.underlying84 rfl (info29w _) ?_)
                  | (with_reducible refine wpList_store_row rfl 84 (.tmp 2) (.tmp 163) rfl (w.heap.size + 1) (ws (Dv.diffs R)) rfl rfl 84 _ HZ.out (info29w _) (ws_sizes _ _) (Hp.ws_one _) ?_))
                refine bodyPost_ret (results_cell_row Tryz.results65 _ _ (w.heap.size + 1) 84 (ws (Dv.diffs R)) (0, 0) _ rfl (setRow_heap _ _ _ _ _ _ HZ.out) Tryz.underlying84 rfl (info29w _)) rfl ⟨rfl, ?_⟩
                exact below_setRow HB.out (by omega) _

theorem rdiff_any (ty K B : Int) (w : World) :
    Calls Tryz.prog 65 #[.agg (vs ty K B)] w fun e w' => e = .returned (.agg (ws (Dv.diff ty K B))) ∧ Below w.heap.size w w' := by
  by_cases hok : Dv.ok ty K B
  · rw [show Dv.diff ty K B = Dv.diffs (Dv.row ty.toNat K.toNat B.toNat) from if_pos hok]
    obtain ⟨ht, hK0, hK1, hB0, hB1⟩ := hok
    obtain ⟨K, rfl⟩ : ∃ n : Nat, K = n := ⟨K.toNat, by omega⟩
    obtain ⟨B, rfl⟩ : ∃ n : Nat, B = n := ⟨B.toNat, by omega⟩
    exact rdiff_yes ty K B w ht (by omega) (by omega)
  · rw [show Dv.diff ty K B = [] from if_neg hok]
    exact rdiff_no ty K B w hok
end Go.Proofs.YtmbbigmnliiadaaGreatDoor.Hd
