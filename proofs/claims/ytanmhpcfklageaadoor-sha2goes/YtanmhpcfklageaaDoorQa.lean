/-
  Contracts of the program's turn and first (package sha2), of the library's RotateLeft32 at the numbers that turn hands it; the program's constants.
-/
import Derived.Test.YtanmhpcfklageaaDoorSl
namespace Go.Proofs.YtanmhpcfklageaaDoor.Ho
open Go.RowKit Hs
set_option linter.unusedVariables false
attribute [local go_sem] t_and t_or t_xor t_not t_add t_sub t_add_wrap t_sub_wrap

theorem turn_or (x : UInt32) (n : Nat) : (x <<< UInt32.ofNat (32 - n)) ||| (x >>> UInt32.ofNat n) = S2.turn x n := UInt32.or_comm _ _
theorem ret_w {k : IntKind} {a b : UInt32} (h : a = b) : Ending.returned (.int k (tn a)) = .returned (.int k (tn b)) := by rw [h]

theorem rotr2 (x : UInt32) (w : World) : Calls Tryd.prog 32 #[.int .u32 (tn x), .int .i64 (-2)] w fun e w' => e = .returned (.int .u32 (tn (S2.turn x 2))) ∧ w = w' := by
  have hx := tn_lt x
  have hx0 := tn_nonneg x
  have hs : tn x * 1073741824 % 4294967296 = tn (x <<< UInt32.ofNat 30) := t_shl x 30 (by omega)
  have hr : tn x / 4 = tn (x >>> UInt32.ofNat 2) := t_shr x 2 (by omega)
  have hb : bits .and .u64 18446744073709551614 31 = 30 := by decide +kernel
  have hw : IntKind.u64.wrap (-2) = 18446744073709551614 := by decide +kernel
  go_enter Tryd.func32, Tryd.ntmps32
  go_wp2
  go_ret
  exact ⟨ret_w (turn_or x 2), rfl⟩
theorem turn2 (x : UInt32) (w : World) : Calls Tryd.prog 25 #[.int .u32 (tn x), .int .i64 2] w fun e w' => e = .returned (.int .u32 (tn (S2.turn x 2))) ∧ w' = w := by
  go_enter Tryd.func25, Tryd.ntmps25
  go_wp2_with (go_at_call 32; refine (rotr2 _ _).mono ?_; rintro e w' ⟨rfl, rfl⟩)
  go_ret
  exact ⟨rfl, rfl⟩
theorem rotr6 (x : UInt32) (w : World) : Calls Tryd.prog 32 #[.int .u32 (tn x), .int .i64 (-6)] w fun e w' => e = .returned (.int .u32 (tn (S2.turn x 6))) ∧ w = w' := by
  have hx := tn_lt x
  have hx0 := tn_nonneg x
  have hs : tn x * 67108864 % 4294967296 = tn (x <<< UInt32.ofNat 26) := t_shl x 26 (by omega)
  have hr : tn x / 64 = tn (x >>> UInt32.ofNat 6) := t_shr x 6 (by omega)
  have hb : bits .and .u64 18446744073709551610 31 = 26 := by decide +kernel
  have hw : IntKind.u64.wrap (-6) = 18446744073709551610 := by decide +kernel
  go_enter Tryd.func32, Tryd.ntmps32
  go_wp2
  go_ret
  exact ⟨ret_w (turn_or x 6), rfl⟩
theorem turn6 (x : UInt32) (w : World) : Calls Tryd.prog 25 #[.int .u32 (tn x), .int .i64 6] w fun e w' => e = .returned (.int .u32 (tn (S2.turn x 6))) ∧ w' = w := by
  go_enter Tryd.func25, Tryd.ntmps25
  go_wp2_with (go_at_call 32; refine (rotr6 _ _).mono ?_; rintro e w' ⟨rfl, rfl⟩)
  go_ret
  exact ⟨rfl, rfl⟩
theorem rotr7 (x : UInt32) (w : World) : Calls Tryd.prog 32 #[.int .u32 (tn x), .int .i64 (-7)] w fun e w' => e = .returned (.int .u32 (tn (S2.turn x 7))) ∧ w = w' := by
  have hx := tn_lt x
  have hx0 := tn_nonneg x
  have hs : tn x * 33554432 % 4294967296 = tn (x <<< UInt32.ofNat 25) := t_shl x 25 (by omega)
  have hr : tn x / 128 = tn (x >>> UInt32.ofNat 7) := t_shr x 7 (by omega)
  have hb : bits .and .u64 18446744073709551609 31 = 25 := by decide +kernel
  have hw : IntKind.u64.wrap (-7) = 18446744073709551609 := by decide +kernel
  go_enter Tryd.func32, Tryd.ntmps32
  go_wp2
  go_ret
  exact ⟨ret_w (turn_or x 7), rfl⟩
theorem turn7 (x : UInt32) (w : World) : Calls Tryd.prog 25 #[.int .u32 (tn x), .int .i64 7] w fun e w' => e = .returned (.int .u32 (tn (S2.turn x 7))) ∧ w' = w := by
  go_enter Tryd.func25, Tryd.ntmps25
  go_wp2_with (go_at_call 32; refine (rotr7 _ _).mono ?_; rintro e w' ⟨rfl, rfl⟩)
  go_ret
  exact ⟨rfl, rfl⟩
theorem rotr11 (x : UInt32) (w : World) : Calls Tryd.prog 32 #[.int .u32 (tn x), .int .i64 (-11)] w fun e w' => e = .returned (.int .u32 (tn (S2.turn x 11))) ∧ w = w' := by
  have hx := tn_lt x
  have hx0 := tn_nonneg x
  have hs : tn x * 2097152 % 4294967296 = tn (x <<< UInt32.ofNat 21) := t_shl x 21 (by omega)
  have hr : tn x / 2048 = tn (x >>> UInt32.ofNat 11) := t_shr x 11 (by omega)
  have hb : bits .and .u64 18446744073709551605 31 = 21 := by decide +kernel
  have hw : IntKind.u64.wrap (-11) = 18446744073709551605 := by decide +kernel
  go_enter Tryd.func32, Tryd.ntmps32
  go_wp2
  go_ret
  exact ⟨ret_w (turn_or x 11), rfl⟩
theorem turn11 (x : UInt32) (w : World) : Calls Tryd.prog 25 #[.int .u32 (tn x), .int .i64 11] w fun e w' => e = .returned (.int .u32 (tn (S2.turn x 11))) ∧ w' = w := by
  go_enter Tryd.func25, Tryd.ntmps25
  go_wp2_with (go_at_call 32; refine (rotr11 _ _).mono ?_; rintro e w' ⟨rfl, rfl⟩)
  go_ret
  exact ⟨rfl, rfl⟩
theorem rotr13 (x : UInt32) (w : World) : Calls Tryd.prog 32 #[.int .u32 (tn x), .int .i64 (-13)] w fun e w' => e = .returned (.int .u32 (tn (S2.turn x 13))) ∧ w = w' := by
  have hx := tn_lt x
  have hx0 := tn_nonneg x
  have hs : tn x * 524288 % 4294967296 = tn (x <<< UInt32.ofNat 19) := t_shl x 19 (by omega)
  have hr : tn x / 8192 = tn (x >>> UInt32.ofNat 13) := t_shr x 13 (by omega)
  have hb : bits .and .u64 18446744073709551603 31 = 19 := by decide +kernel
  have hw : IntKind.u64.wrap (-13) = 18446744073709551603 := by decide +kernel
  go_enter Tryd.func32, Tryd.ntmps32
  go_wp2
  go_ret
  exact ⟨ret_w (turn_or x 13), rfl⟩
theorem turn13 (x : UInt32) (w : World) : Calls Tryd.prog 25 #[.int .u32 (tn x), .int .i64 13] w fun e w' => e = .returned (.int .u32 (tn (S2.turn x 13))) ∧ w' = w := by
  go_enter Tryd.func25, Tryd.ntmps25
  go_wp2_with (go_at_call 32; refine (rotr13 _ _).mono ?_; rintro e w' ⟨rfl, rfl⟩)
  go_ret
  exact ⟨rfl, rfl⟩
theorem rotr17 (x : UInt32) (w : World) : Calls Tryd.prog 32 #[.int .u32 (tn x), .int .i64 (-17)] w fun e w' => e = .returned (.int .u32 (tn (S2.turn x 17))) ∧ w = w' := by
  have hx := tn_lt x
  have hx0 := tn_nonneg x
  have hs : tn x * 32768 % 4294967296 = tn (x <<< UInt32.ofNat 15) := t_shl x 15 (by omega)
  have hr : tn x / 131072 = tn (x >>> UInt32.ofNat 17) := t_shr x 17 (by omega)
  have hb : bits .and .u64 18446744073709551599 31 = 15 := by decide +kernel
  have hw : IntKind.u64.wrap (-17) = 18446744073709551599 := by decide +kernel
  go_enter Tryd.func32, Tryd.ntmps32
  go_wp2
  go_ret
  exact ⟨ret_w (turn_or x 17), rfl⟩
theorem turn17 (x : UInt32) (w : World) : Calls Tryd.prog 25 #[.int .u32 (tn x), .int .i64 17] w fun e w' => e = .returned (.int .u32 (tn (S2.turn x 17))) ∧ w' = w := by
  go_enter Tryd.func25, Tryd.ntmps25
  go_wp2_with (go_at_call 32; refine (rotr17 _ _).mono ?_; rintro e w' ⟨rfl, rfl⟩)
  go_ret
  exact ⟨rfl, rfl⟩
theorem rotr18 (x : UInt32) (w : World) : Calls Tryd.prog 32 #[.int .u32 (tn x), .int .i64 (-18)] w fun e w' => e = .returned (.int .u32 (tn (S2.turn x 18))) ∧ w = w' := by
  have hx := tn_lt x
  have hx0 := tn_nonneg x
  have hs : tn x * 16384 % 4294967296 = tn (x <<< UInt32.ofNat 14) := t_shl x 14 (by omega)
  have hr : tn x / 262144 = tn (x >>> UInt32.ofNat 18) := t_shr x 18 (by omega)
  have hb : bits .and .u64 18446744073709551598 31 = 14 := by decide +kernel
  have hw : IntKind.u64.wrap (-18) = 18446744073709551598 := by decide +kernel
  go_enter Tryd.func32, Tryd.ntmps32
  go_wp2
  go_ret
  exact ⟨ret_w (turn_or x 18), rfl⟩
theorem turn18 (x : UInt32) (w : World) : Calls Tryd.prog 25 #[.int .u32 (tn x), .int .i64 18] w fun e w' => e = .returned (.int .u32 (tn (S2.turn x 18))) ∧ w' = w := by
  go_enter Tryd.func25, Tryd.ntmps25
  go_wp2_with (go_at_call 32; refine (rotr18 _ _).mono ?_; rintro e w' ⟨rfl, rfl⟩)
  go_ret
  exact ⟨rfl, rfl⟩
theorem rotr19 (x : UInt32) (w : World) : Calls Tryd.prog 32 #[.int .u32 (tn x), .int .i64 (-19)] w fun e w' => e = .returned (.int .u32 (tn (S2.turn x 19))) ∧ w = w' := by
  have hx := tn_lt x
  have hx0 := tn_nonneg x
  have hs : tn x * 8192 % 4294967296 = tn (x <<< UInt32.ofNat 13) := t_shl x 13 (by omega)
  have hr : tn x / 524288 = tn (x >>> UInt32.ofNat 19) := t_shr x 19 (by omega)
  have hb : bits .and .u64 18446744073709551597 31 = 13 := by decide +kernel
  have hw : IntKind.u64.wrap (-19) = 18446744073709551597 := by decide +kernel
  go_enter Tryd.func32, Tryd.ntmps32
  go_wp2
  go_ret
  exact ⟨ret_w (turn_or x 19), rfl⟩
theorem turn19 (x : UInt32) (w : World) : Calls Tryd.prog 25 #[.int .u32 (tn x), .int .i64 19] w fun e w' => e = .returned (.int .u32 (tn (S2.turn x 19))) ∧ w' = w := by
  go_enter Tryd.func25, Tryd.ntmps25
  go_wp2_with (go_at_call 32; refine (rotr19 _ _).mono ?_; rintro e w' ⟨rfl, rfl⟩)
  go_ret
  exact ⟨rfl, rfl⟩
theorem rotr22 (x : UInt32) (w : World) : Calls Tryd.prog 32 #[.int .u32 (tn x), .int .i64 (-22)] w fun e w' => e = .returned (.int .u32 (tn (S2.turn x 22))) ∧ w = w' := by
  have hx := tn_lt x
  have hx0 := tn_nonneg x
  have hs : tn x * 1024 % 4294967296 = tn (x <<< UInt32.ofNat 10) := t_shl x 10 (by omega)
  have hr : tn x / 4194304 = tn (x >>> UInt32.ofNat 22) := t_shr x 22 (by omega)
  have hb : bits .and .u64 18446744073709551594 31 = 10 := by decide +kernel
  have hw : IntKind.u64.wrap (-22) = 18446744073709551594 := by decide +kernel
  go_enter Tryd.func32, Tryd.ntmps32
  go_wp2
  go_ret
  exact ⟨ret_w (turn_or x 22), rfl⟩
theorem turn22 (x : UInt32) (w : World) : Calls Tryd.prog 25 #[.int .u32 (tn x), .int .i64 22] w fun e w' => e = .returned (.int .u32 (tn (S2.turn x 22))) ∧ w' = w := by
  go_enter Tryd.func25, Tryd.ntmps25
  go_wp2_with (go_at_call 32; refine (rotr22 _ _).mono ?_; rintro e w' ⟨rfl, rfl⟩)
  go_ret
  exact ⟨rfl, rfl⟩
theorem rotr25 (x : UInt32) (w : World) : Calls Tryd.prog 32 #[.int .u32 (tn x), .int .i64 (-25)] w fun e w' => e = .returned (.int .u32 (tn (S2.turn x 25))) ∧ w = w' := by
  have hx := tn_lt x
  have hx0 := tn_nonneg x
  have hs : tn x * 128 % 4294967296 = tn (x <<< UInt32.ofNat 7) := t_shl x 7 (by omega)
  have hr : tn x / 33554432 = tn (x >>> UInt32.ofNat 25) := t_shr x 25 (by omega)
  have hb : bits .and .u64 18446744073709551591 31 = 7 := by decide +kernel
  have hw : IntKind.u64.wrap (-25) = 18446744073709551591 := by decide +kernel
  go_enter Tryd.func32, Tryd.ntmps32
  go_wp2
  go_ret
  exact ⟨ret_w (turn_or x 25), rfl⟩
theorem turn25 (x : UInt32) (w : World) : Calls Tryd.prog 25 #[.int .u32 (tn x), .int .i64 25] w fun e w' => e = .returned (.int .u32 (tn (S2.turn x 25))) ∧ w' = w := by
  go_enter Tryd.func25, Tryd.ntmps25
  go_wp2_with (go_at_call 32; refine (rotr25 _ _).mono ?_; rintro e w' ⟨rfl, rfl⟩)
  go_ret
  exact ⟨rfl, rfl⟩

theorem info8 (x : S2.Ch) : (Tryd.prog.info? 40).map (·.size) = some (c8 x).size := by
  show _ = some 8
  kernel_rfl
theorem c8_sizes (x y : S2.Ch) : (c8 x).size = (c8 y).size := rfl
theorem zv8 (w : World) : (zeroValue 40).run Tryd.prog w = .ok (.agg (c8 ⟨0, 0, 0, 0, 0, 0, 0, 0⟩)) w := by kernel_rfl

theorem first_any (w : World) : Calls Tryd.prog 17 #[] w fun e w' => e = .returned (.agg (c8 S2.first)) ∧ Below w.heap.size w w' := by
  rw [c8_first]
  go_enter Tryd.func17, Tryd.ntmps17
  go_wp2
  refine bodyPost_ret (v := .agg #[.int .u32 1779033703, .int .u32 3144134277, .int .u32 1013904242, .int .u32 2773480762, .int .u32 1359893119, .int .u32 2600822924, .int .u32 528734635, .int .u32 1541459225]) (by simp [results, Tryd.results17, go_sem]) rfl ⟨rfl, ?_⟩
  exact (Below.refl _ w).alloc (Nat.le_refl _) _

/-- the program's constants lie in their place -/
def Ks (w : World) : Prop := ∀ i, i < 64 → w.cell? ⟨0, i, none⟩ = some (.int .u32 (tn (S2.keys.getD i 0)))
theorem Ks.lt {w : World} (h : Ks w) : 0 < w.heap.size := World.block_lt_of_cell? w ⟨0, 0, none⟩ (h 0 (by omega))
theorem Ks.below {w w' : World} {B : Nat} (h : Ks w) (hb : Below B w w') (hB : 0 < B) : Ks w' := fun i hi => by rw [hb.cell (p := ⟨0, i, none⟩) hB]; exact h i hi
theorem Ks.under {w w' : World} (h : Ks w) (hb : Below w.heap.size w w') : Ks w' := h.below hb h.lt
theorem Ks.alloc {w : World} (h : Ks w) (o : Obj) : Ks (w.alloc o) := h.under ((Below.refl _ w).alloc (Nat.le_refl _) _)
theorem Ks.drew {w : World} (h : Ks w) : Ks w.drew := h
theorem Ks.grown {w w' : World} {row : Option Nat} (h : Ks w) (hg : w.grownBy w' row) (hne : row ≠ some 0) : Ks w' := fun i hi => by rw [grown_cell2 hg (p := ⟨0, i, none⟩) h.lt hne]; exact h i hi
end Go.Proofs.YtanmhpcfklageaaDoor.Ho
