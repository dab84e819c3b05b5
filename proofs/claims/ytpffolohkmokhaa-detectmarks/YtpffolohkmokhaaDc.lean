/-
  Contracts of the program's hasRow and row (package detect): whether a vector has a row; its row of 85 words.
-/
import Derived.Test.YtpffolohkmokhaaDb
namespace Go.Proofs.Ytpffolohkmokhaa.Hd
open Go.RowKit Hs Hp
set_option linter.unusedVariables false
attribute [local go_sem] t_and t_or t_xor t_not t_add t_sub t_add_wrap t_sub_wrap

/-- a vector as cells -/
def vs (ty K B : Int) : Array Value := #[.int .i64 ty, .int .i64 K, .int .i64 B]

theorem hasRow_any (ty K B : Int) (w : World) :
    Calls Try.prog 20 #[.agg (vs ty K B)] w fun e w' => e = .returned (.bool (decide (Dv.ok ty K B))) ∧ Below w.heap.size w w' := by
  have hbl := (Below.refl w.heap.size w).alloc (Nat.le_refl _) (.cells (vs ty K B) 23)
  have HB := Lib.hid hbl
  clear hbl
  unfold vs at *
  by_cases h1 : ty = 1 ∨ ty = 2
  · by_cases h3 : 0 ≤ K
    · by_cases h4 : K ≤ 64
      · by_cases h5 : 0 ≤ B
        · by_cases h6 : B < 32
          · have hv : decide (Dv.ok ty K B) = true := decide_eq_true ⟨h1, h3, h4, h5, by omega⟩
            have HV := Lib.hid hv
            clear hv
            rcases h1 with rfl | rfl
            all_goals
              go_enter Try.func20, Try.ntmps20
              go_wp2
              go_ret
              exact ⟨by rw [HV.out]; rfl, HB.out⟩
          · have hv : decide (Dv.ok ty K B) = false := decide_eq_false fun h => h6 (by have := h.2.2.2.2; omega)
            have HV := Lib.hid hv
            clear hv
            rcases h1 with rfl | rfl
            all_goals
              go_enter Try.func20, Try.ntmps20
              go_wp2
              go_ret
              exact ⟨by rw [HV.out]; rfl, HB.out⟩
        · have hv : decide (Dv.ok ty K B) = false := decide_eq_false fun h => h5 h.2.2.2.1
          have HV := Lib.hid hv
          clear hv
          rcases h1 with rfl | rfl
          all_goals
            go_enter Try.func20, Try.ntmps20
            go_wp2
            go_ret
            exact ⟨by rw [HV.out]; rfl, HB.out⟩
      · have hv : decide (Dv.ok ty K B) = false := decide_eq_false fun h => h4 h.2.2.1
        have HV := Lib.hid hv
        clear hv
        rcases h1 with rfl | rfl
        all_goals
          go_enter Try.func20, Try.ntmps20
          go_wp2
          go_ret
          exact ⟨by rw [HV.out]; rfl, HB.out⟩
    · have hv : decide (Dv.ok ty K B) = false := decide_eq_false fun h => h3 h.2.1
      have HV := Lib.hid hv
      clear hv
      rcases h1 with rfl | rfl
      all_goals
        go_enter Try.func20, Try.ntmps20
        go_wp2
        go_ret
        exact ⟨by rw [HV.out]; rfl, HB.out⟩
  · have hv : decide (Dv.ok ty K B) = false := decide_eq_false fun h => h1 h.1
    have HV := Lib.hid hv
    have h11 : ¬ ty = 1 := fun h => h1 (.inl h)
    have h12 : ¬ ty = 2 := fun h => h1 (.inr h)
    clear hv h1
    go_enter Try.func20, Try.ntmps20
    go_wp2
    go_ret
    exact ⟨by rw [HV.out]; rfl, HB.out⟩

/-! ### rows of 85 words -/
def ds (f : Nat → UInt32) : Array Value := ((List.range 85).map fun j => .int .u32 (tn (f j))).toArray
def nought (_ : Nat) : UInt32 := 0
theorem ds_size (f : Nat → UInt32) : (ds f).size = 85 := by simp [ds]
theorem ds_sizes (f g : Nat → UInt32) : (ds f).size = (ds g).size := by rw [ds_size, ds_size]
theorem ds_one (f : Nat → UInt32) : (ds f).all (·.oneCell') = true := by simp [ds, Value.oneCell']
theorem ds_get (f : Nat → UInt32) (t : Nat) (h : t < 85) : (ds f)[t]? = some (.int .u32 (tn (f t))) := by simp [ds, h]
theorem zv85 (w : World) : (zeroValue 48).run Try.prog w = .ok (.agg (ds nought)) w := by kernel_rfl
theorem info85 (f : Nat → UInt32) : (Try.prog.info? 48).map (·.size) = some (ds f).size := by
  have : (Try.prog.info? 48).map (·.size) = some 85 := by kernel_rfl
  rw [ds_size, this]
theorem row_ds {w : World} {g : Nat} {f : Nat → UInt32} (h : w.heap[g]? = some (.cells (ds f) 48 (0, 0))) : w.rowIs g 48 85 (fun j => .int .u32 (tn (f j))) := ⟨ds f, h, ds_size f, fun i hi => ds_get f i hi⟩
theorem ds_row {w : World} {g : Nat} {f : Nat → UInt32} (h : w.rowIs g 48 85 (fun j => .int .u32 (tn (f j)))) : w.heap[g]? = some (.cells (ds f) 48 (0, 0)) := by
  obtain ⟨c, hb, hn, hc⟩ := h
  rw [hb]
  congr 2
  apply Array.ext_getElem?
  intro i
  by_cases hi : i < 85
  · rw [hc i hi, ds_get f i hi]
  · rw [Array.getElem?_eq_none (by omega), Array.getElem?_eq_none (by rw [ds_size]; omega)]
theorem ds_put {w : World} {g : Nat} {f : Nat → UInt32} (h : w.rowIs g 48 85 (fun j => .int .u32 (tn (f j)))) (i : Nat) (v : UInt32) :
    (w.setCell ⟨g, i, none⟩ (.int .u32 (tn v))).rowIs g 48 85 (fun j => .int .u32 (tn (Dv.setAt f i v j))) :=
  (h.set i _).congr fun j _ => by unfold Dv.setAt; split <;> rfl

theorem ds_set (f : Nat → UInt32) (i : Nat) (v : UInt32) : (ds f).setIfInBounds i (.int .u32 (tn v)) = ds (Dv.setAt f i v) := by
  apply Array.ext_getElem?
  intro j
  by_cases hj : j < 85
  · rw [ds_get _ j hj, Array.getElem?_setIfInBounds, ds_size, ds_get _ j hj]
    unfold Dv.setAt
    by_cases h : i = j
    · subst h; simp [hj]
    · rw [if_neg h, if_neg (fun e => h e.symm)]
  · rw [Array.getElem?_eq_none (by rw [Array.size_setIfInBounds, ds_size]; omega), Array.getElem?_eq_none (by rw [ds_size]; omega)]

/-- the state of row: the result's row, the row -/
structure Rw (w wr : World) (f : Nat → UInt32) : Prop where
  below : Below w.heap.size w wr
  res : wr.heap[w.heap.size + 1]? = some (.cells (ds nought) 48 (0, 0))
  row : wr.rowIs (w.heap.size + 1 + 1) 48 85 (fun j => .int .u32 (tn (f j)))
section
variable {w wr : World} {f : Nat → UInt32}
theorem Rw.drew (h : Rw w wr f) : Rw w wr.drew f := ⟨h.below.drew, h.res, h.row⟩
theorem Rw.put (h : Rw w wr f) (i : Nat) (x : UInt32) : Rw w (wr.setCell ⟨w.heap.size + 1 + 1, i, none⟩ (.int .u32 (tn x))) (Dv.setAt f i x) :=
  ⟨h.below.setCell (by simp; omega) _, by rw [heap_setCell_other _ _ _ _ (by simp)]; exact h.res, ds_put h.row i x⟩
theorem Rw.at_ (h : Rw w wr f) (j : Nat) (hj : j < 85) : wr.cell? ⟨w.heap.size + 1 + 1, j, none⟩ = some (.int .u32 (tn (f j))) := h.row.cell hj
theorem Rw.start (w : World) (v : Array Value) (T : TypeId) (c : Array Value) (f : Nat → UInt32) (hc : c = ds f) : Rw w (((w.alloc (.cells v T)).alloc (.cells (ds nought) 48)).alloc (.cells c 48)) f := by
  subst hc
  refine ⟨(((Below.refl _ w).alloc (Nat.le_refl _) _).alloc (by simp) _).alloc (by simp; omega) _, ?_, row_ds ?_⟩
  · rw [heap_alloc_old _ _ (by simp)]; exact heap_alloc2_new _ _ _
  · have := heap_alloc_new ((w.alloc (.cells v T)).alloc (.cells (ds nought) 48)) (.cells (ds f) 48)
    simpa using this
end
theorem start_one (K B : Nat) : Dv.setAt nought (K + 20) ((1 : UInt32) <<< UInt32.ofNat B) = Dv.start 1 K B := by
  funext j
  unfold Dv.setAt Dv.start nought
  by_cases h : j = K + 20
  · rw [if_pos h, if_pos h]
  · rw [if_neg h, if_neg h, if_neg (by omega)]
theorem start_two (K B : Nat) : Dv.setAt (Dv.setAt (Dv.setAt nought (K + 6) ((1 : UInt32) <<< UInt32.ofNat ((31 + B) % 32))) (K + 8) ((1 : UInt32) <<< UInt32.ofNat ((31 + B) % 32))) (K + 20) ((1 : UInt32) <<< UInt32.ofNat B) = Dv.start 2 K B := by
  funext j
  unfold Dv.setAt Dv.start nought
  by_cases h : j = K + 20
  · rw [if_pos h, if_pos h]
  · rw [if_neg h, if_neg h]
    by_cases h8 : j = K + 8
    · rw [if_pos h8, if_pos ⟨rfl, .inl h8⟩]
    · rw [if_neg h8]
      by_cases h6 : j = K + 6
      · rw [if_pos h6, if_pos ⟨rfl, .inr h6⟩]
      · rw [if_neg h6, if_neg (by omega)]
theorem shl_one (B : Nat) (h : B < 32) : (2 : Int) ^ B % 4294967296 = tn ((1 : UInt32) <<< UInt32.ofNat B) := by
  have h' : ∀ b : Fin 32, (2 : Int) ^ b.val % 4294967296 = tn ((1 : UInt32) <<< UInt32.ofNat b.val) := by decide +kernel
  exact h' ⟨B, h⟩

set_option maxHeartbeats 4000000 in
set_option maxRecDepth 100000 in
theorem row_any (ty : Int) (K B : Nat) (w : World) (ht : ty = 1 ∨ ty = 2) (hK : K ≤ 64) (hB : B < 32) :
    Calls Try.prog 21 #[.agg (vs ty K B)] w fun e w' => e = .returned (.agg (ds (Dv.row ty.toNat K B))) ∧ Below w.heap.size w w' := by
  have hz := zv85
  have hsh := shl_one B hB
  have s1 : ty = 1 → Dv.setAt nought (K + 20) ((1 : UInt32) <<< UInt32.ofNat B) = Dv.start ty.toNat K B := fun h => by subst h; exact start_one K B
  have s2 : ty = 2 → _ = Dv.start ty.toNat K B := fun h => by subst h; exact start_two K B
  generalize (1 : UInt32) <<< UInt32.ofNat B = vB at *
  have hrow : Dv.row ty.toNat K B = Dv.bwd (Dv.fwd (Dv.start ty.toNat K B) (K + 21) (64 - K)) (K + 4) (K + 5) := rfl
  generalize Dv.start ty.toNat K B = S at *
  generalize Dv.row ty.toNat K B = R at *
  have HS1 := Lib.hid s1
  have HS2 := Lib.hid s2
  have HR := Lib.hid hrow
  have hr := rotlT B hB
  generalize (1 : UInt32) <<< UInt32.ofNat ((31 + B) % 32) = vT at *
  have HRT := Lib.hid hr
  clear s1 s2 hr hrow
  have hB' : (B : Int) < 32 := by omega
  have hB0 : (0 : Int) ≤ B := by omega
  obtain ⟨F, hF⟩ : ∃ F : Nat, F = K + 5 := ⟨_, rfl⟩
  have e5 : (5 : Int) + (K : Int) = F := by omega
  have HF := Lib.hid hF
  have HK := Lib.hid hK
  have hFl : (F : Int) ≤ 69 := by omega
  have hF0 : (5 : Int) ≤ F := by omega
  have n1 : ((F : Int) + 1).toNat = F + 1 := by omega
  have n3 : ((F : Int) + 3).toNat = F + 3 := by omega
  have n15 : ((F : Int) + 15).toNat = F + 15 := by omega
  have g1 := ds_get nought (F + 1) (by omega)
  have g3 := ds_get nought (F + 3) (by omega)
  have g15 := ds_get nought (F + 15) (by omega)
  clear hF hK
  unfold vs at *
  rcases ht with rfl | rfl
  · go_enter Try.func21, Try.ntmps21
    go_wp2
    clear g1 g3 g15 n1 n3 n15 hz hsh
    go_loopg [6] (64 - K) (fun g i wr => ∃ n : Nat, n ≤ 64 - K ∧ g = 64 - K - n ∧ i = .int .i64 ((K + 21 + n : Nat) : Int) ∧ Rw w wr (Dv.fwd S (K + 21) n))
    case atStart =>
      refine ⟨0, Nat.zero_le _, rfl, by have := HF.out; congr 1; omega, Rw.start w _ _ _ _ ?_⟩
      rw [ds_set, HF.out]
      exact congrArg ds (HS1.out (by trivial))
    case round =>
      obtain ⟨n, hn, rfl, rfl, hx⟩ := hrel
      by_cases hlt : n < 64 - K
      · have hnx : Dv.fwd S (K + 21) (n + 1) = Dv.setAt (Dv.fwd S (K + 21) n) (K + 21 + n) (Sh.rot (Dv.fwd S (K + 21) n (K + 21 + n - 3) ^^^ Dv.fwd S (K + 21) n (K + 21 + n - 8) ^^^ Dv.fwd S (K + 21) n (K + 21 + n - 14) ^^^ Dv.fwd S (K + 21) n (K + 21 + n - 16)) 1) := rfl
        have htl : K + 21 + n < 85 := by omega
        have htg : 21 ≤ K + 21 + n := by omega
        have HQ := Lib.hid (show ((K + 21 + n : Nat) : Int) + 1 = ((K + 21 + (n + 1) : Nat) : Int) by omega)
        generalize Dv.fwd S (K + 21) n = g at *
        generalize K + 21 + n = t at *
        have h1 : ((t : Nat) : Int) < 85 := by omega
        have h0 : (0 : Int) ≤ ((t : Nat) : Int) := by omega
        have a3 : (0 : Int) ≤ ((t : Nat) : Int) - 3 := by omega
        have b3 : (3 : Int) ≤ ((t : Nat) : Int) := by omega
        have d3 : ((t : Nat) : Int) - 3 < 85 := by omega
        have n3 : (((t : Nat) : Int) - 3).toNat = t - 3 := by omega
        have w3 : IntKind.i64.wrap (((t : Nat) : Int) - 3) = ((t : Nat) : Int) - 3 := IntWalk.i64_in _ (by omega)
        have c3 := hx.at_ (t - 3) (by omega)
        have a8 : (0 : Int) ≤ ((t : Nat) : Int) - 8 := by omega
        have b8 : (8 : Int) ≤ ((t : Nat) : Int) := by omega
        have d8 : ((t : Nat) : Int) - 8 < 85 := by omega
        have n8 : (((t : Nat) : Int) - 8).toNat = t - 8 := by omega
        have w8 : IntKind.i64.wrap (((t : Nat) : Int) - 8) = ((t : Nat) : Int) - 8 := IntWalk.i64_in _ (by omega)
        have c8 := hx.at_ (t - 8) (by omega)
        have a14 : (0 : Int) ≤ ((t : Nat) : Int) - 14 := by omega
        have b14 : (14 : Int) ≤ ((t : Nat) : Int) := by omega
        have d14 : ((t : Nat) : Int) - 14 < 85 := by omega
        have n14 : (((t : Nat) : Int) - 14).toNat = t - 14 := by omega
        have w14 : IntKind.i64.wrap (((t : Nat) : Int) - 14) = ((t : Nat) : Int) - 14 := IntWalk.i64_in _ (by omega)
        have c14 := hx.at_ (t - 14) (by omega)
        have a16 : (0 : Int) ≤ ((t : Nat) : Int) - 16 := by omega
        have b16 : (16 : Int) ≤ ((t : Nat) : Int) := by omega
        have d16 : ((t : Nat) : Int) - 16 < 85 := by omega
        have n16 : (((t : Nat) : Int) - 16).toNat = t - 16 := by omega
        have w16 : IntKind.i64.wrap (((t : Nat) : Int) - 16) = ((t : Nat) : Int) - 16 := IntWalk.i64_in _ (by omega)
        have c16 := hx.at_ (t - 16) (by omega)
        have ct := hx.at_ t htl
        have cf := hx.row.frozen t
        generalize hgt : g t = xt at *
        generalize g (t - 3) = x3 at *
        generalize g (t - 8) = x8 at *
        generalize g (t - 14) = x14 at *
        generalize g (t - 16) = x16 at *
        have HX := Lib.hid hx
        have HNX := Lib.hid hnx
        clear hx hnx hgt
        go_wp2_with fail
        refine wp_region_still_tail 22 (by kernel_rfl) (by kernel_rfl) ?_
        simp only [List.take_succ_cons, List.take_zero, List.drop_succ_cons, List.drop_zero]
        change wpStill _ _ (World.drew _) (fun a' => wpList _ _ _ _ a' (World.drew _)) _ _
        iterate 20 still_step
        still_call (flip_ (rotl1 _ _))
        still_step
        refine wpStill_nil ?_
        go_wp2
        go_roundg (64 - K - (n + 1))
        case rel => exact ⟨n + 1, by omega, rfl, by rw [← HQ.out], by rw [HNX.out]; exact HX.out.drew.put _ _⟩
        case measure => omega
      · obtain rfl : n = 64 - K := by omega
        have HX := Lib.hid hx
        clear hx
        go_wp2
        go_loopg [7] (K + 5) (fun g i wr => ∃ n : Nat, n ≤ K + 5 ∧ g = K + 5 - n ∧ i = .int .i64 ((K : Int) + 4 - n) ∧ Rw w wr (Dv.bwd (Dv.fwd S (K + 21) (64 - K)) (K + 4) n))
        case atStart => exact ⟨0, Nat.zero_le _, rfl, by have := HF.out; congr 1; omega, HX.out⟩
        case round =>
          obtain ⟨n, hn, rfl, rfl, hx⟩ := hrel
          clear HX
          by_cases hlt : n < K + 5
          · have hnx : Dv.bwd (Dv.fwd S (K + 21) (64 - K)) (K + 4) (n + 1) = Dv.setAt (Dv.bwd (Dv.fwd S (K + 21) (64 - K)) (K + 4) n) (K + 4 - n) (Sh.rot (Dv.bwd (Dv.fwd S (K + 21) (64 - K)) (K + 4) n (K + 4 - n + 16)) 31 ^^^ Dv.bwd (Dv.fwd S (K + 21) (64 - K)) (K + 4) n (K + 4 - n + 13) ^^^ Dv.bwd (Dv.fwd S (K + 21) (64 - K)) (K + 4) n (K + 4 - n + 8) ^^^ Dv.bwd (Dv.fwd S (K + 21) (64 - K)) (K + 4) n (K + 4 - n + 2)) := rfl
            have htl : K + 4 - n < 69 := by have := HK.out; omega
            have hk : (K : Int) + 4 - n = ((K + 4 - n : Nat) : Int) := by omega
            have HQ := Lib.hid (show ((K + 4 - n : Nat) : Int) - 1 = (K : Int) + 4 - ((n + 1 : Nat) : Int) by omega)
            rw [hk]
            clear hk
            generalize Dv.bwd (Dv.fwd S (K + 21) (64 - K)) (K + 4) n = g at *
            generalize K + 4 - n = t at *
            have h1 : ((t : Nat) : Int) < 85 := by omega
            have h0 : (0 : Int) ≤ ((t : Nat) : Int) := by omega
            have a16 : (0 : Int) ≤ ((t : Nat) : Int) + 16 := by omega
            have d16 : ((t : Nat) : Int) + 16 < 85 := by omega
            have n16 : (((t : Nat) : Int) + 16).toNat = t + 16 := by omega
            have w16 : IntKind.i64.wrap (((t : Nat) : Int) + 16) = ((t : Nat) : Int) + 16 := IntWalk.i64_in _ (by omega)
            have c16 := hx.at_ (t + 16) (by omega)
            have a13 : (0 : Int) ≤ ((t : Nat) : Int) + 13 := by omega
            have d13 : ((t : Nat) : Int) + 13 < 85 := by omega
            have n13 : (((t : Nat) : Int) + 13).toNat = t + 13 := by omega
            have w13 : IntKind.i64.wrap (((t : Nat) : Int) + 13) = ((t : Nat) : Int) + 13 := IntWalk.i64_in _ (by omega)
            have c13 := hx.at_ (t + 13) (by omega)
            have a8 : (0 : Int) ≤ ((t : Nat) : Int) + 8 := by omega
            have d8 : ((t : Nat) : Int) + 8 < 85 := by omega
            have n8 : (((t : Nat) : Int) + 8).toNat = t + 8 := by omega
            have w8 : IntKind.i64.wrap (((t : Nat) : Int) + 8) = ((t : Nat) : Int) + 8 := IntWalk.i64_in _ (by omega)
            have c8 := hx.at_ (t + 8) (by omega)
            have a2 : (0 : Int) ≤ ((t : Nat) : Int) + 2 := by omega
            have d2 : ((t : Nat) : Int) + 2 < 85 := by omega
            have n2 : (((t : Nat) : Int) + 2).toNat = t + 2 := by omega
            have w2 : IntKind.i64.wrap (((t : Nat) : Int) + 2) = ((t : Nat) : Int) + 2 := IntWalk.i64_in _ (by omega)
            have c2 := hx.at_ (t + 2) (by omega)
            have ct := hx.at_ t (by omega)
            have cf := hx.row.frozen t
            generalize hgt : g t = xt at *
            generalize g (t + 16) = x16 at *
            generalize g (t + 13) = x13 at *
            generalize g (t + 8) = x8 at *
            generalize g (t + 2) = x2 at *
            have HX := Lib.hid hx
            have HNX := Lib.hid hnx
            clear hx hnx hgt
            go_wp2_with fail
            refine wp_region_still_tail 22 (by kernel_rfl) (by kernel_rfl) ?_
            simp only [List.take_succ_cons, List.take_zero, List.drop_succ_cons, List.drop_zero]
            change wpStill _ _ (World.drew _) (fun a' => wpList _ _ _ _ a' (World.drew _)) _ _
            iterate 5 still_step
            still_call (flip_ (rotl31 _ _))
            iterate 16 still_step
            refine wpStill_nil ?_
            go_wp2
            go_roundg (K + 5 - (n + 1))
            case rel => exact ⟨n + 1, by omega, rfl, by rw [← HQ.out], by rw [HNX.out]; exact HX.out.drew.put _ _⟩
            case measure => omega
          · obtain rfl : n = K + 5 := by omega
            have hrw := ds_row hx.row
            rw [← HR.out] at hrw
            have HW := Lib.hid hrw
            have HZ := Lib.hid hx.res
            have HB := Lib.hid hx.below
            clear hx hrw
            have hend : ¬ (0 : Int) ≤ (K : Int) + 4 - ((K + 5 : Nat) : Int) := by omega
            go_wp2_with (first
              | (with_reducible refine wpList_load_row rfl 48 (.tmp 3) rfl (w.heap.size + 1 + 1) rfl 48 (ds R) (0, 0) _ HW.out Try.underlying48 rfl (info85 _) ?_)
              | (with_reducible refine wpList_store_row rfl 48 (.tmp 2) (.tmp 89) rfl (w.heap.size + 1) (ds R) rfl rfl 48 _ HZ.out (info85 _) (ds_sizes _ _) (ds_one _) ?_))
            refine bodyPost_ret (results_cell_row Try.results21 _ _ (w.heap.size + 1) 48 (ds R) (0, 0) _ rfl (setRow_heap _ _ _ _ _ _ HZ.out) Try.underlying48 rfl (info85 _)) rfl ⟨rfl, ?_⟩
            exact below_setRow HB.out (by omega) _
  · go_enter Try.func21, Try.ntmps21
    go_wp2_with (go_at_call 22; refine (HRT.out _).mono ?_; rintro e w' ⟨rfl, rfl⟩)
    clear g1 g3 g15 n1 n3 n15 hz hsh
    go_loopg [6] (64 - K) (fun g i wr => ∃ n : Nat, n ≤ 64 - K ∧ g = 64 - K - n ∧ i = .int .i64 ((K + 21 + n : Nat) : Int) ∧ Rw w wr (Dv.fwd S (K + 21) n))
    case atStart =>
      refine ⟨0, Nat.zero_le _, rfl, by have := HF.out; congr 1; omega, Rw.start w _ _ _ _ ?_⟩
      rw [ds_set, ds_set, ds_set, HF.out]
      exact congrArg ds (HS2.out (by trivial))
    case round =>
      obtain ⟨n, hn, rfl, rfl, hx⟩ := hrel
      by_cases hlt : n < 64 - K
      · have hnx : Dv.fwd S (K + 21) (n + 1) = Dv.setAt (Dv.fwd S (K + 21) n) (K + 21 + n) (Sh.rot (Dv.fwd S (K + 21) n (K + 21 + n - 3) ^^^ Dv.fwd S (K + 21) n (K + 21 + n - 8) ^^^ Dv.fwd S (K + 21) n (K + 21 + n - 14) ^^^ Dv.fwd S (K + 21) n (K + 21 + n - 16)) 1) := rfl
        have htl : K + 21 + n < 85 := by omega
        have htg : 21 ≤ K + 21 + n := by omega
        have HQ := Lib.hid (show ((K + 21 + n : Nat) : Int) + 1 = ((K + 21 + (n + 1) : Nat) : Int) by omega)
        generalize Dv.fwd S (K + 21) n = g at *
        generalize K + 21 + n = t at *
        have h1 : ((t : Nat) : Int) < 85 := by omega
        have h0 : (0 : Int) ≤ ((t : Nat) : Int) := by omega
        have a3 : (0 : Int) ≤ ((t : Nat) : Int) - 3 := by omega
        have b3 : (3 : Int) ≤ ((t : Nat) : Int) := by omega
        have d3 : ((t : Nat) : Int) - 3 < 85 := by omega
        have n3 : (((t : Nat) : Int) - 3).toNat = t - 3 := by omega
        have w3 : IntKind.i64.wrap (((t : Nat) : Int) - 3) = ((t : Nat) : Int) - 3 := IntWalk.i64_in _ (by omega)
        have c3 := hx.at_ (t - 3) (by omega)
        have a8 : (0 : Int) ≤ ((t : Nat) : Int) - 8 := by omega
        have b8 : (8 : Int) ≤ ((t : Nat) : Int) := by omega
        have d8 : ((t : Nat) : Int) - 8 < 85 := by omega
        have n8 : (((t : Nat) : Int) - 8).toNat = t - 8 := by omega
        have w8 : IntKind.i64.wrap (((t : Nat) : Int) - 8) = ((t : Nat) : Int) - 8 := IntWalk.i64_in _ (by omega)
        have c8 := hx.at_ (t - 8) (by omega)
        have a14 : (0 : Int) ≤ ((t : Nat) : Int) - 14 := by omega
        have b14 : (14 : Int) ≤ ((t : Nat) : Int) := by omega
        have d14 : ((t : Nat) : Int) - 14 < 85 := by omega
        have n14 : (((t : Nat) : Int) - 14).toNat = t - 14 := by omega
        have w14 : IntKind.i64.wrap (((t : Nat) : Int) - 14) = ((t : Nat) : Int) - 14 := IntWalk.i64_in _ (by omega)
        have c14 := hx.at_ (t - 14) (by omega)
        have a16 : (0 : Int) ≤ ((t : Nat) : Int) - 16 := by omega
        have b16 : (16 : Int) ≤ ((t : Nat) : Int) := by omega
        have d16 : ((t : Nat) : Int) - 16 < 85 := by omega
        have n16 : (((t : Nat) : Int) - 16).toNat = t - 16 := by omega
        have w16 : IntKind.i64.wrap (((t : Nat) : Int) - 16) = ((t : Nat) : Int) - 16 := IntWalk.i64_in _ (by omega)
        have c16 := hx.at_ (t - 16) (by omega)
        have ct := hx.at_ t htl
        have cf := hx.row.frozen t
        generalize hgt : g t = xt at *
        generalize g (t - 3) = x3 at *
        generalize g (t - 8) = x8 at *
        generalize g (t - 14) = x14 at *
        generalize g (t - 16) = x16 at *
        have HX := Lib.hid hx
        have HNX := Lib.hid hnx
        clear hx hnx hgt
        go_wp2_with fail
        refine wp_region_still_tail 22 (by kernel_rfl) (by kernel_rfl) ?_
        simp only [List.take_succ_cons, List.take_zero, List.drop_succ_cons, List.drop_zero]
        change wpStill _ _ (World.drew _) (fun a' => wpList _ _ _ _ a' (World.drew _)) _ _
        iterate 20 still_step
        still_call (flip_ (rotl1 _ _))
        still_step
        refine wpStill_nil ?_
        go_wp2
        go_roundg (64 - K - (n + 1))
        case rel => exact ⟨n + 1, by omega, rfl, by rw [← HQ.out], by rw [HNX.out]; exact HX.out.drew.put _ _⟩
        case measure => omega
      · obtain rfl : n = 64 - K := by omega
        have HX := Lib.hid hx
        clear hx
        go_wp2
        go_loopg [7] (K + 5) (fun g i wr => ∃ n : Nat, n ≤ K + 5 ∧ g = K + 5 - n ∧ i = .int .i64 ((K : Int) + 4 - n) ∧ Rw w wr (Dv.bwd (Dv.fwd S (K + 21) (64 - K)) (K + 4) n))
        case atStart => exact ⟨0, Nat.zero_le _, rfl, by have := HF.out; congr 1; omega, HX.out⟩
        case round =>
          obtain ⟨n, hn, rfl, rfl, hx⟩ := hrel
          clear HX
          by_cases hlt : n < K + 5
          · have hnx : Dv.bwd (Dv.fwd S (K + 21) (64 - K)) (K + 4) (n + 1) = Dv.setAt (Dv.bwd (Dv.fwd S (K + 21) (64 - K)) (K + 4) n) (K + 4 - n) (Sh.rot (Dv.bwd (Dv.fwd S (K + 21) (64 - K)) (K + 4) n (K + 4 - n + 16)) 31 ^^^ Dv.bwd (Dv.fwd S (K + 21) (64 - K)) (K + 4) n (K + 4 - n + 13) ^^^ Dv.bwd (Dv.fwd S (K + 21) (64 - K)) (K + 4) n (K + 4 - n + 8) ^^^ Dv.bwd (Dv.fwd S (K + 21) (64 - K)) (K + 4) n (K + 4 - n + 2)) := rfl
            have htl : K + 4 - n < 69 := by have := HK.out; omega
            have hk : (K : Int) + 4 - n = ((K + 4 - n : Nat) : Int) := by omega
            have HQ := Lib.hid (show ((K + 4 - n : Nat) : Int) - 1 = (K : Int) + 4 - ((n + 1 : Nat) : Int) by omega)
            rw [hk]
            clear hk
            generalize Dv.bwd (Dv.fwd S (K + 21) (64 - K)) (K + 4) n = g at *
            generalize K + 4 - n = t at *
            have h1 : ((t : Nat) : Int) < 85 := by omega
            have h0 : (0 : Int) ≤ ((t : Nat) : Int) := by omega
            have a16 : (0 : Int) ≤ ((t : Nat) : Int) + 16 := by omega
            have d16 : ((t : Nat) : Int) + 16 < 85 := by omega
            have n16 : (((t : Nat) : Int) + 16).toNat = t + 16 := by omega
            have w16 : IntKind.i64.wrap (((t : Nat) : Int) + 16) = ((t : Nat) : Int) + 16 := IntWalk.i64_in _ (by omega)
            have c16 := hx.at_ (t + 16) (by omega)
            have a13 : (0 : Int) ≤ ((t : Nat) : Int) + 13 := by omega
            have d13 : ((t : Nat) : Int) + 13 < 85 := by omega
            have n13 : (((t : Nat) : Int) + 13).toNat = t + 13 := by omega
            have w13 : IntKind.i64.wrap (((t : Nat) : Int) + 13) = ((t : Nat) : Int) + 13 := IntWalk.i64_in _ (by omega)
            have c13 := hx.at_ (t + 13) (by omega)
            have a8 : (0 : Int) ≤ ((t : Nat) : Int) + 8 := by omega
            have d8 : ((t : Nat) : Int) + 8 < 85 := by omega
            have n8 : (((t : Nat) : Int) + 8).toNat = t + 8 := by omega
            have w8 : IntKind.i64.wrap (((t : Nat) : Int) + 8) = ((t : Nat) : Int) + 8 := IntWalk.i64_in _ (by omega)
            have c8 := hx.at_ (t + 8) (by omega)
            have a2 : (0 : Int) ≤ ((t : Nat) : Int) + 2 := by omega
            have d2 : ((t : Nat) : Int) + 2 < 85 := by omega
            have n2 : (((t : Nat) : Int) + 2).toNat = t + 2 := by omega
            have w2 : IntKind.i64.wrap (((t : Nat) : Int) + 2) = ((t : Nat) : Int) + 2 := IntWalk.i64_in _ (by omega)
            have c2 := hx.at_ (t + 2) (by omega)
            have ct := hx.at_ t (by omega)
            have cf := hx.row.frozen t
            generalize hgt : g t = xt at *
            generalize g (t + 16) = x16 at *
            generalize g (t + 13) = x13 at *
            generalize g (t + 8) = x8 at *
            generalize g (t + 2) = x2 at *
            have HX := Lib.hid hx
            have HNX := Lib.hid hnx
            clear hx hnx hgt
            go_wp2_with fail
            refine wp_region_still_tail 22 (by kernel_rfl) (by kernel_rfl) ?_
            simp only [List.take_succ_cons, List.take_zero, List.drop_succ_cons, List.drop_zero]
            change wpStill _ _ (World.drew _) (fun a' => wpList _ _ _ _ a' (World.drew _)) _ _
            iterate 5 still_step
            still_call (flip_ (rotl31 _ _))
            iterate 16 still_step
            refine wpStill_nil ?_
            go_wp2
            go_roundg (K + 5 - (n + 1))
            case rel => exact ⟨n + 1, by omega, rfl, by rw [← HQ.out], by rw [HNX.out]; exact HX.out.drew.put _ _⟩
            case measure => omega
          · obtain rfl : n = K + 5 := by omega
            have hrw := ds_row hx.row
            rw [← HR.out] at hrw
            have HW := Lib.hid hrw
            have HZ := Lib.hid hx.res
            have HB := Lib.hid hx.below
            clear hx hrw
            have hend : ¬ (0 : Int) ≤ (K : Int) + 4 - ((K + 5 : Nat) : Int) := by omega
            go_wp2_with (first
              | (with_reducible refine wpList_load_row rfl 48 (.tmp 3) rfl (w.heap.size + 1 + 1) rfl 48 (ds R) (0, 0) _ HW.out Try.underlying48 rfl (info85 _) ?_)
              | (with_reducible refine wpList_store_row rfl 48 (.tmp 2) (.tmp 89) rfl (w.heap.size + 1) (ds R) rfl rfl 48 _ HZ.out (info85 _) (ds_sizes _ _) (ds_one _) ?_))
            refine bodyPost_ret (results_cell_row Try.results21 _ _ (w.heap.size + 1) 48 (ds R) (0, 0) _ rfl (setRow_heap _ _ _ _ _ _ HZ.out) Try.underlying48 rfl (info85 _)) rfl ⟨rfl, ?_⟩
            exact below_setRow HB.out (by omega) _
end Go.Proofs.Ytpffolohkmokhaa.Hd
