/-
  Contracts of the program's turn and first (package sha2), of the library's RotateLeft32 at the numbers that turn hands it; the program's constants.
  The contract of the program's expand (package sha2): the sixty-four words of a block.
  The contract of the program's press (package sha2): the chain behind a block of 64 bytes.
  A state of package sha2 as it lies in memory: the chain behind the whole blocks, the bytes behind them, how many bytes in all; contracts of New and Copy.
  What a part more makes of a state of package sha2: lists, and the state between two steps of take.
  The contract of the program's take (package sha2): a part more.
-/
import Derived.Test.YtmbbigmnliiadaaDoorS1
import Derived.Lib.BufferWrite
import Derived.Deep.DeepCutAuto
import Derived.Deep.CutBlock
namespace Go.Proofs.YtmbbigmnliiadaaDoor.Ho
open Go.RowKit Hs
set_option linter.unusedVariables false
attribute [local go_sem] t_and t_or t_xor t_not t_add t_sub t_add_wrap t_sub_wrap

theorem turn_or (x : UInt32) (n : Nat) : (x <<< UInt32.ofNat (32 - n)) ||| (x >>> UInt32.ofNat n) = S2.turn x n := UInt32.or_comm _ _
theorem ret_w {k : IntKind} {a b : UInt32} (h : a = b) : Ending.returned (.int k (tn a)) = .returned (.int k (tn b)) := by rw [h]

theorem rotr2 (x : UInt32) (w : World) : Calls Tryd.prog 66 #[.int .u32 (tn x), .int .i64 (-2)] w fun e w' => e = .returned (.int .u32 (tn (S2.turn x 2))) ∧ w = w' := by
  have hx := tn_lt x
  have hx0 := tn_nonneg x
  have hs : tn x * 1073741824 % 4294967296 = tn (x <<< UInt32.ofNat 30) := t_shl x 30 (by omega)
  have hr : tn x / 4 = tn (x >>> UInt32.ofNat 2) := t_shr x 2 (by omega)
  have hb : bits .and .u64 18446744073709551614 31 = 30 := by decide +kernel
  have hw : IntKind.u64.wrap (-2) = 18446744073709551614 := by decide +kernel
  go_enter Tryd.func66, Tryd.ntmps66
  go_wp2
  go_ret
  exact ⟨ret_w (turn_or x 2), rfl⟩
theorem turn2 (x : UInt32) (w : World) : Calls Tryd.prog 81 #[.int .u32 (tn x), .int .i64 2] w fun e w' => e = .returned (.int .u32 (tn (S2.turn x 2))) ∧ w' = w := by
  go_enter Tryd.func81, Tryd.ntmps81
  go_wp2_with (go_at_call 66; refine (rotr2 _ _).mono ?_; rintro e w' ⟨rfl, rfl⟩)
  go_ret
  exact ⟨rfl, rfl⟩
theorem rotr6 (x : UInt32) (w : World) : Calls Tryd.prog 66 #[.int .u32 (tn x), .int .i64 (-6)] w fun e w' => e = .returned (.int .u32 (tn (S2.turn x 6))) ∧ w = w' := by
  have hx := tn_lt x
  have hx0 := tn_nonneg x
  have hs : tn x * 67108864 % 4294967296 = tn (x <<< UInt32.ofNat 26) := t_shl x 26 (by omega)
  have hr : tn x / 64 = tn (x >>> UInt32.ofNat 6) := t_shr x 6 (by omega)
  have hb : bits .and .u64 18446744073709551610 31 = 26 := by decide +kernel
  have hw : IntKind.u64.wrap (-6) = 18446744073709551610 := by decide +kernel
  go_enter Tryd.func66, Tryd.ntmps66
  go_wp2
  go_ret
  exact ⟨ret_w (turn_or x 6), rfl⟩
theorem turn6 (x : UInt32) (w : World) : Calls Tryd.prog 81 #[.int .u32 (tn x), .int .i64 6] w fun e w' => e = .returned (.int .u32 (tn (S2.turn x 6))) ∧ w' = w := by
  go_enter Tryd.func81, Tryd.ntmps81
  go_wp2_with (go_at_call 66; refine (rotr6 _ _).mono ?_; rintro e w' ⟨rfl, rfl⟩)
  go_ret
  exact ⟨rfl, rfl⟩
theorem rotr7 (x : UInt32) (w : World) : Calls Tryd.prog 66 #[.int .u32 (tn x), .int .i64 (-7)] w fun e w' => e = .returned (.int .u32 (tn (S2.turn x 7))) ∧ w = w' := by
  have hx := tn_lt x
  have hx0 := tn_nonneg x
  have hs : tn x * 33554432 % 4294967296 = tn (x <<< UInt32.ofNat 25) := t_shl x 25 (by omega)
  have hr : tn x / 128 = tn (x >>> UInt32.ofNat 7) := t_shr x 7 (by omega)
  have hb : bits .and .u64 18446744073709551609 31 = 25 := by decide +kernel
  have hw : IntKind.u64.wrap (-7) = 18446744073709551609 := by decide +kernel
  go_enter Tryd.func66, Tryd.ntmps66
  go_wp2
  go_ret
  exact ⟨ret_w (turn_or x 7), rfl⟩
theorem turn7 (x : UInt32) (w : World) : Calls Tryd.prog 81 #[.int .u32 (tn x), .int .i64 7] w fun e w' => e = .returned (.int .u32 (tn (S2.turn x 7))) ∧ w' = w := by
  go_enter Tryd.func81, Tryd.ntmps81
  go_wp2_with (go_at_call 66; refine (rotr7 _ _).mono ?_; rintro e w' ⟨rfl, rfl⟩)
  go_ret
  exact ⟨rfl, rfl⟩
theorem rotr11 (x : UInt32) (w : World) : Calls Tryd.prog 66 #[.int .u32 (tn x), .int .i64 (-11)] w fun e w' => e = .returned (.int .u32 (tn (S2.turn x 11))) ∧ w = w' := by
  have hx := tn_lt x
  have hx0 := tn_nonneg x
  have hs : tn x * 2097152 % 4294967296 = tn (x <<< UInt32.ofNat 21) := t_shl x 21 (by omega)
  have hr : tn x / 2048 = tn (x >>> UInt32.ofNat 11) := t_shr x 11 (by omega)
  have hb : bits .and .u64 18446744073709551605 31 = 21 := by decide +kernel
  have hw : IntKind.u64.wrap (-11) = 18446744073709551605 := by decide +kernel
  go_enter Tryd.func66, Tryd.ntmps66
  go_wp2
  go_ret
  exact ⟨ret_w (turn_or x 11), rfl⟩
theorem turn11 (x : UInt32) (w : World) : Calls Tryd.prog 81 #[.int .u32 (tn x), .int .i64 11] w fun e w' => e = .returned (.int .u32 (tn (S2.turn x 11))) ∧ w' = w := by
  go_enter Tryd.func81, Tryd.ntmps81
  go_wp2_with (go_at_call 66; refine (rotr11 _ _).mono ?_; rintro e w' ⟨rfl, rfl⟩)
  go_ret
  exact ⟨rfl, rfl⟩
theorem rotr13 (x : UInt32) (w : World) : Calls Tryd.prog 66 #[.int .u32 (tn x), .int .i64 (-13)] w fun e w' => e = .returned (.int .u32 (tn (S2.turn x 13))) ∧ w = w' := by
  have hx := tn_lt x
  have hx0 := tn_nonneg x
  have hs : tn x * 524288 % 4294967296 = tn (x <<< UInt32.ofNat 19) := t_shl x 19 (by omega)
  have hr : tn x / 8192 = tn (x >>> UInt32.ofNat 13) := t_shr x 13 (by omega)
  have hb : bits .and .u64 18446744073709551603 31 = 19 := by decide +kernel
  have hw : IntKind.u64.wrap (-13) = 18446744073709551603 := by decide +kernel
  go_enter Tryd.func66, Tryd.ntmps66
  go_wp2
  go_ret
  exact ⟨ret_w (turn_or x 13), rfl⟩
theorem turn13 (x : UInt32) (w : World) : Calls Tryd.prog 81 #[.int .u32 (tn x), .int .i64 13] w fun e w' => e = .returned (.int .u32 (tn (S2.turn x 13))) ∧ w' = w := by
  go_enter Tryd.func81, Tryd.ntmps81
  go_wp2_with (go_at_call 66; refine (rotr13 _ _).mono ?_; rintro e w' ⟨rfl, rfl⟩)
  go_ret
  exact ⟨rfl, rfl⟩
theorem rotr17 (x : UInt32) (w : World) : Calls Tryd.prog 66 #[.int .u32 (tn x), .int .i64 (-17)] w fun e w' => e = .returned (.int .u32 (tn (S2.turn x 17))) ∧ w = w' := by
  have hx := tn_lt x
  have hx0 := tn_nonneg x
  have hs : tn x * 32768 % 4294967296 = tn (x <<< UInt32.ofNat 15) := t_shl x 15 (by omega)
  have hr : tn x / 131072 = tn (x >>> UInt32.ofNat 17) := t_shr x 17 (by omega)
  have hb : bits .and .u64 18446744073709551599 31 = 15 := by decide +kernel
  have hw : IntKind.u64.wrap (-17) = 18446744073709551599 := by decide +kernel
  go_enter Tryd.func66, Tryd.ntmps66
  go_wp2
  go_ret
  exact ⟨ret_w (turn_or x 17), rfl⟩
theorem turn17 (x : UInt32) (w : World) : Calls Tryd.prog 81 #[.int .u32 (tn x), .int .i64 17] w fun e w' => e = .returned (.int .u32 (tn (S2.turn x 17))) ∧ w' = w := by
  go_enter Tryd.func81, Tryd.ntmps81
  go_wp2_with (go_at_call 66; refine (rotr17 _ _).mono ?_; rintro e w' ⟨rfl, rfl⟩)
  go_ret
  exact ⟨rfl, rfl⟩
theorem rotr18 (x : UInt32) (w : World) : Calls Tryd.prog 66 #[.int .u32 (tn x), .int .i64 (-18)] w fun e w' => e = .returned (.int .u32 (tn (S2.turn x 18))) ∧ w = w' := by
  have hx := tn_lt x
  have hx0 := tn_nonneg x
  have hs : tn x * 16384 % 4294967296 = tn (x <<< UInt32.ofNat 14) := t_shl x 14 (by omega)
  have hr : tn x / 262144 = tn (x >>> UInt32.ofNat 18) := t_shr x 18 (by omega)
  have hb : bits .and .u64 18446744073709551598 31 = 14 := by decide +kernel
  have hw : IntKind.u64.wrap (-18) = 18446744073709551598 := by decide +kernel
  go_enter Tryd.func66, Tryd.ntmps66
  go_wp2
  go_ret
  exact ⟨ret_w (turn_or x 18), rfl⟩
theorem turn18 (x : UInt32) (w : World) : Calls Tryd.prog 81 #[.int .u32 (tn x), .int .i64 18] w fun e w' => e = .returned (.int .u32 (tn (S2.turn x 18))) ∧ w' = w := by
  go_enter Tryd.func81, Tryd.ntmps81
  go_wp2_with (go_at_call 66; refine (rotr18 _ _).mono ?_; rintro e w' ⟨rfl, rfl⟩)
  go_ret
  exact ⟨rfl, rfl⟩
theorem rotr19 (x : UInt32) (w : World) : Calls Tryd.prog 66 #[.int .u32 (tn x), .int .i64 (-19)] w fun e w' => e = .returned (.int .u32 (tn (S2.turn x 19))) ∧ w = w' := by
  have hx := tn_lt x
  have hx0 := tn_nonneg x
  have hs : tn x * 8192 % 4294967296 = tn (x <<< UInt32.ofNat 13) := t_shl x 13 (by omega)
  have hr : tn x / 524288 = tn (x >>> UInt32.ofNat 19) := t_shr x 19 (by omega)
  have hb : bits .and .u64 18446744073709551597 31 = 13 := by decide +kernel
  have hw : IntKind.u64.wrap (-19) = 18446744073709551597 := by decide +kernel
  go_enter Tryd.func66, Tryd.ntmps66
  go_wp2
  go_ret
  exact ⟨ret_w (turn_or x 19), rfl⟩
theorem turn19 (x : UInt32) (w : World) : Calls Tryd.prog 81 #[.int .u32 (tn x), .int .i64 19] w fun e w' => e = .returned (.int .u32 (tn (S2.turn x 19))) ∧ w' = w := by
  go_enter Tryd.func81, Tryd.ntmps81
  go_wp2_with (go_at_call 66; refine (rotr19 _ _).mono ?_; rintro e w' ⟨rfl, rfl⟩)
  go_ret
  exact ⟨rfl, rfl⟩
theorem rotr22 (x : UInt32) (w : World) : Calls Tryd.prog 66 #[.int .u32 (tn x), .int .i64 (-22)] w fun e w' => e = .returned (.int .u32 (tn (S2.turn x 22))) ∧ w = w' := by
  have hx := tn_lt x
  have hx0 := tn_nonneg x
  have hs : tn x * 1024 % 4294967296 = tn (x <<< UInt32.ofNat 10) := t_shl x 10 (by omega)
  have hr : tn x / 4194304 = tn (x >>> UInt32.ofNat 22) := t_shr x 22 (by omega)
  have hb : bits .and .u64 18446744073709551594 31 = 10 := by decide +kernel
  have hw : IntKind.u64.wrap (-22) = 18446744073709551594 := by decide +kernel
  go_enter Tryd.func66, Tryd.ntmps66
  go_wp2
  go_ret
  exact ⟨ret_w (turn_or x 22), rfl⟩
theorem turn22 (x : UInt32) (w : World) : Calls Tryd.prog 81 #[.int .u32 (tn x), .int .i64 22] w fun e w' => e = .returned (.int .u32 (tn (S2.turn x 22))) ∧ w' = w := by
  go_enter Tryd.func81, Tryd.ntmps81
  go_wp2_with (go_at_call 66; refine (rotr22 _ _).mono ?_; rintro e w' ⟨rfl, rfl⟩)
  go_ret
  exact ⟨rfl, rfl⟩
theorem rotr25 (x : UInt32) (w : World) : Calls Tryd.prog 66 #[.int .u32 (tn x), .int .i64 (-25)] w fun e w' => e = .returned (.int .u32 (tn (S2.turn x 25))) ∧ w = w' := by
  have hx := tn_lt x
  have hx0 := tn_nonneg x
  have hs : tn x * 128 % 4294967296 = tn (x <<< UInt32.ofNat 7) := t_shl x 7 (by omega)
  have hr : tn x / 33554432 = tn (x >>> UInt32.ofNat 25) := t_shr x 25 (by omega)
  have hb : bits .and .u64 18446744073709551591 31 = 7 := by decide +kernel
  have hw : IntKind.u64.wrap (-25) = 18446744073709551591 := by decide +kernel
  go_enter Tryd.func66, Tryd.ntmps66
  go_wp2
  go_ret
  exact ⟨ret_w (turn_or x 25), rfl⟩
theorem turn25 (x : UInt32) (w : World) : Calls Tryd.prog 81 #[.int .u32 (tn x), .int .i64 25] w fun e w' => e = .returned (.int .u32 (tn (S2.turn x 25))) ∧ w' = w := by
  go_enter Tryd.func81, Tryd.ntmps81
  go_wp2_with (go_at_call 66; refine (rotr25 _ _).mono ?_; rintro e w' ⟨rfl, rfl⟩)
  go_ret
  exact ⟨rfl, rfl⟩

theorem info8 (x : S2.Ch) : (Tryd.prog.info? 87).map (·.size) = some (c8 x).size := by
  show _ = some 8
  kernel_rfl
theorem c8_sizes (x y : S2.Ch) : (c8 x).size = (c8 y).size := rfl
theorem zv8 (w : World) : (zeroValue 87).run Tryd.prog w = .ok (.agg (c8 ⟨0, 0, 0, 0, 0, 0, 0, 0⟩)) w := by kernel_rfl

theorem first_any (w : World) : Calls Tryd.prog 50 #[] w fun e w' => e = .returned (.agg (c8 S2.first)) ∧ Below w.heap.size w w' := by
  rw [c8_first]
  go_enter Tryd.func50, Tryd.ntmps50
  go_wp2
  refine bodyPost_ret (v := .agg #[.int .u32 1779033703, .int .u32 3144134277, .int .u32 1013904242, .int .u32 2773480762, .int .u32 1359893119, .int .u32 2600822924, .int .u32 528734635, .int .u32 1541459225]) (by simp [results, Tryd.results50, go_sem]) rfl ⟨rfl, ?_⟩
  exact (Below.refl _ w).alloc (Nat.le_refl _) _

/-- the program's constants lie in their place -/
def Ks (w : World) : Prop := ∀ i, i < 64 → w.cell? ⟨1, i, none⟩ = some (.int .u32 (tn (S2.keys.getD i 0)))
theorem Ks.lt {w : World} (h : Ks w) : 1 < w.heap.size := World.block_lt_of_cell? w ⟨1, 0, none⟩ (h 0 (by omega))
theorem Ks.below {w w' : World} {B : Nat} (h : Ks w) (hb : Below B w w') (hB : 1 < B) : Ks w' := fun i hi => by rw [hb.cell (p := ⟨1, i, none⟩) hB]; exact h i hi
theorem Ks.under {w w' : World} (h : Ks w) (hb : Below w.heap.size w w') : Ks w' := h.below hb h.lt
theorem Ks.alloc {w : World} (h : Ks w) (o : Obj) : Ks (w.alloc o) := h.under ((Below.refl _ w).alloc (Nat.le_refl _) _)
theorem Ks.drew {w : World} (h : Ks w) : Ks w.drew := h
theorem Ks.grown {w w' : World} {row : Option Nat} (h : Ks w) (hg : w.grownBy w' row) (hne : row ≠ some 1) : Ks w' := fun i hi => by rw [grown_cell2 hg (p := ⟨1, i, none⟩) h.lt hne]; exact h i hi
end Go.Proofs.YtmbbigmnliiadaaDoor.Ho
namespace Go.Proofs.YtmbbigmnliiadaaDoor.Ho
open Go.RowKit Hs
set_option linter.unusedVariables false
attribute [local go_sem] t_and t_or t_xor t_not t_add t_sub t_add_wrap t_sub_wrap

/-- the state of expand: the result's row is empty yet, the words' row holds l -/
structure Ex (w wr : World) (l : List UInt32) : Prop where
  below : Below w.heap.size w wr
  res : wr.heap[w.heap.size]? = some (.cells (w64 []) 119 (0, 0))
  row : wr.rowIs (w.heap.size + 1) 119 64 (fun j => .int .u32 (tn (l.getD j 0)))
section
variable {w wr : World} {l : List UInt32} {t : Nat} {x y : UInt32}
theorem row_w64 (w : World) (l : List UInt32) : (w.alloc (.cells (w64 l) 119)).rowIs w.heap.size 119 64 (fun j => .int .u32 (tn (l.getD j 0))) := by
  have h := World.rowIs_alloc w (w64 l) 119 (fun j => .int .u32 (tn (l.getD j 0))) (fun i hi => by rw [w64_size] at hi; exact w64_get l i hi)
  rwa [w64_size] at h
theorem w64_row {g : Nat} (h : w.rowIs g 119 64 (fun j => .int .u32 (tn (l.getD j 0)))) : w.heap[g]? = some (.cells (w64 l) 119 (0, 0)) := by
  obtain ⟨c, hb, hn, hc⟩ := h
  rw [hb]
  congr 2
  apply Array.ext_getElem?
  intro i
  by_cases hi : i < 64
  · rw [hc i hi, w64_get l i hi]
  · rw [Array.getElem?_eq_none (by omega), Array.getElem?_eq_none (by rw [w64_size]; omega)]
theorem Ex.start (w : World) : Ex w ((w.alloc (.cells (w64 []) 119)).alloc (.cells (w64 []) 119)) [] := by
  refine ⟨((Below.refl _ w).alloc (Nat.le_refl _) _).alloc (by simp) _, heap_alloc2_old _ _ _, ?_⟩
  have := row_w64 (w.alloc (.cells (w64 []) 119)) []
  simpa using this
theorem Ex.put (h : Ex w wr l) (hl : l.length = t) (v : UInt32) : Ex w (wr.setCell ⟨w.heap.size + 1, t, none⟩ (.int .u32 (tn v))) (l ++ [v]) := by
  refine ⟨h.below.setCell (Nat.le_succ _) _, (heap_setCell_other _ _ _ _ (by simp)).trans h.res, ?_⟩
  refine (h.row.set t _).congr fun j _ => ?_
  rw [getD_end l v t hl]
  split <;> rfl
theorem Ex.drew (h : Ex w wr l) : Ex w wr.drew l := ⟨h.below.drew, h.res, h.row⟩
theorem Ex.at_ (h : Ex w wr l) {j : Nat} (hj : j < 64) : wr.cell? ⟨w.heap.size + 1, j, none⟩ = some (.int .u32 (tn (l.getD j 0))) := h.row.cell hj
end

theorem sum_e1 (a b : Nat) : a * 16777216 + b * 65536 = (a * 256 + b) * 65536 := by rw [Nat.add_mul, Nat.mul_assoc]
theorem sum_e2 (a c : Nat) : a * 65536 + c * 256 = (a * 256 + c) * 256 := by rw [Nat.add_mul, Nat.mul_assoc]
theorem or_sum (a b c d : Nat) (hb : b < 256) (hc : c < 256) (hd : d < 256) : (a * 16777216 ||| b * 65536 ||| c * 256 ||| d) = a * 16777216 + b * 65536 + c * 256 + d := by
  have h1 := Nat.shiftLeft_add_eq_or_of_lt (i := 24) (b := b * 65536) (by omega) a
  have h2 := Nat.shiftLeft_add_eq_or_of_lt (i := 16) (b := c * 256) (by omega) (a * 256 + b)
  have h3 := Nat.shiftLeft_add_eq_or_of_lt (i := 8) (b := d) (by omega) ((a * 256 + b) * 256 + c)
  simp only [Nat.shiftLeft_eq, Nat.reducePow] at h1 h2 h3
  rw [← h1, sum_e1, ← h2, sum_e2, ← h3]
theorem byteOr_lt (l : List UInt8) (i : Nat) : (Sh.byteOr l i).toNat < 256 := by
  have : (l.getD i 0).toNat < 256 := UInt8.toNat_lt _
  rw [Sh.byteOr, UInt32.toNat_ofNat', Nat.mod_eq_of_lt (by omega)]
  exact this
theorem or_word (l : List UInt8) (t : Nat) : (Sh.byteOr l (4 * t) * 16777216 ||| Sh.byteOr l (4 * t + 1) * 65536 ||| Sh.byteOr l (4 * t + 2) * 256 ||| Sh.byteOr l (4 * t + 3)) = S2.word l t := by
  unfold S2.word
  have h0 := byteOr_lt l (4 * t)
  have h1 := byteOr_lt l (4 * t + 1)
  have h2 := byteOr_lt l (4 * t + 2)
  have h3 := byteOr_lt l (4 * t + 3)
  generalize Sh.byteOr l (4 * t) = a at *
  generalize Sh.byteOr l (4 * t + 1) = b at *
  generalize Sh.byteOr l (4 * t + 2) = c at *
  generalize Sh.byteOr l (4 * t + 3) = d at *
  apply UInt32.toNat_inj.1
  have m0 : (a * 16777216).toNat = a.toNat * 16777216 := by rw [UInt32.toNat_mul]; show a.toNat * 16777216 % 2 ^ 32 = _; omega
  have m1 : (b * 65536).toNat = b.toNat * 65536 := by rw [UInt32.toNat_mul]; show b.toNat * 65536 % 2 ^ 32 = _; omega
  have m2 : (c * 256).toNat = c.toNat * 256 := by rw [UInt32.toNat_mul]; show c.toNat * 256 % 2 ^ 32 = _; omega
  rw [UInt32.toNat_or, UInt32.toNat_or, UInt32.toNat_or, UInt32.toNat_add, UInt32.toNat_add, UInt32.toNat_add, m0, m1, m2, or_sum _ _ _ _ h1 h2 h3]
  omega
theorem four_byte (s : ByteArray) (q k : Nat) (h : q + 4 ≤ s.size) (hk : k < (s.extract q (q + 4)).size) : (((s.extract q (q + 4))[k].toNat : Int)) = tn (Sh.byteOr s.data.toList (q + k)) := by
  have hk4 : k < 4 := by rw [ByteArray.size_extract] at hk; omega
  rw [← byte_word s (q + k) (by omega), ByteArray.getElem_extract]

set_option maxHeartbeats 2000000 in
set_option maxRecDepth 100000 in
theorem expand_any (s : ByteArray) (w : World) (hs : s.size = 64) :
    Calls Tryd.prog 80 #[.string s] w fun e w' => e = .returned (.agg (w64 (S2.wordsTo s.data.toList 64))) ∧ Below w.heap.size w w' := by
  have hz := zv64
  have HST := Lib.hid (Ex.start w)
  go_enter Tryd.func80, Tryd.ntmps80
  go_wp2
  clear hz
  go_loopg [4, 5, 9] 16 (fun g s4 s5 i wr => ∃ t : Nat, t ≤ 16 ∧ g = 16 - t ∧ i = .int .i64 t ∧ Ex w wr (S2.wordsTo s.data.toList t))
  case atStart => exact ⟨0, Nat.zero_le _, rfl, rfl, HST.out⟩
  case round =>
    obtain ⟨t, ht, rfl, rfl, hex⟩ := hrel
    clear HST
    by_cases htl : t < 16
    · have h2 : (t : Int) < 16 := by omega
      have hlen := S2.wordsTo_length s.data.toList t
      have hnw : S2.wordsTo s.data.toList (t + 1) = S2.wordsTo s.data.toList t ++ [S2.word s.data.toList t] := by rw [S2.wordsTo, if_pos htl]
      obtain ⟨q, hq⟩ : ∃ q, 4 * t = q := ⟨_, rfl⟩
      have hqF : q + 4 ≤ s.size := by omega
      have hfs : (s.extract q (q + 4)).size = 4 := by rw [ByteArray.size_extract]; omega
      have hwd := or_word s.data.toList t
      rw [hq] at hwd
      have k0 : 0 < (s.extract q (q + 4)).size := by omega
      have k1 : 1 < (s.extract q (q + 4)).size := by omega
      have k2 : 2 < (s.extract q (q + 4)).size := by omega
      have k3 : 3 < (s.extract q (q + 4)).size := by omega
      have d0 : (((s.extract q (q + 4))[0].toNat : Int)) = tn (Sh.byteOr s.data.toList q) := four_byte s q 0 hqF k0
      have d1 := four_byte s q 1 hqF k1
      have d2 := four_byte s q 2 hqF k2
      have d3 := four_byte s q 3 hqF k3
      generalize Sh.byteOr s.data.toList q = c0 at *
      generalize Sh.byteOr s.data.toList (q + 1) = c1 at *
      generalize Sh.byteOr s.data.toList (q + 2) = c2 at *
      generalize Sh.byteOr s.data.toList (q + 3) = c3 at *
      have hqi : 4 * (t : Int) = (q : Int) := by omega
      have hqj : 4 * ((t : Int) + 1) = ((q + 4 : Nat) : Int) := by omega
      have wt : IntKind.i64.wrap ((t : Int) + 1) = (t : Int) + 1 := IntWalk.i64_in _ (by omega)
      have wq : IntKind.i64.wrap (q : Int) = (q : Int) := IntWalk.i64_in _ (by omega)
      have wq4 : IntKind.i64.wrap ((q + 4 : Nat) : Int) = ((q + 4 : Nat) : Int) := IntWalk.i64_in _ (by omega)
      have v0 : IntKind.u32.wrap (tn c0) = tn c0 := by have := tn_lt c0; have := tn_nonneg c0; rw [IntKind.wrap_u32']; omega
      have v1 : IntKind.u32.wrap (tn c1) = tn c1 := by have := tn_lt c1; have := tn_nonneg c1; rw [IntKind.wrap_u32']; omega
      have v2 : IntKind.u32.wrap (tn c2) = tn c2 := by have := tn_lt c2; have := tn_nonneg c2; rw [IntKind.wrap_u32']; omega
      have v3 : IntKind.u32.wrap (tn c3) = tn c3 := by have := tn_lt c3; have := tn_nonneg c3; rw [IntKind.wrap_u32']; omega
      have y0 : tn c0 * 16777216 % 4294967296 = tn (c0 * 16777216) := t_mul3 c0 16777216
      have y1 : tn c1 * 65536 % 4294967296 = tn (c1 * 65536) := t_mul3 c1 65536
      have y2 : tn c2 * 256 % 4294967296 = tn (c2 * 256) := t_mul3 c2 256
      have hsl : ∀ W, (Instr.slice 9 (.string s) (some (.int .i64 (q : Int))) (some (.int .i64 ((q : Int) + 4))) none).run Tryd.prog W = .ok (.string (s.extract q (q + 4))) W := fun W => by
        have h := run_slice_string (P := Tryd.prog) W 9 s .i64 .i64 (q : Int) ((q : Int) + 4) Tryd.underlying9 (by omega) (by omega) (by omega)
        rw [h, show ((q : Int) + 4).toNat = q + 4 by omega, Int.toNat_natCast]
      have htb : (0 : Int) ≤ t := by omega
      have ht64 : (t : Int) < 64 := by omega
      have hct := hex.at_ (j := t) (by omega)
      have hcf := hex.row.frozen t
      have HPUT := Lib.hid (hex.put hlen (S2.word s.data.toList t))
      have HNW := Lib.hid hnw
      have HWD := Lib.hid hwd
      have HQ := Lib.hid hq
      generalize S2.wordsTo s.data.toList t = L at *
      clear hex hlen hnw hwd hq
      generalize hfour : s.extract q (q + 4) = four at *
      have HFR := Lib.hid hfour
      clear hfour
      go_wp2_with fail
      refine wp_region_still_tail 19 (by kernel_rfl) (by kernel_rfl) ?_
      simp only [List.take_succ_cons, List.take_zero, List.drop_succ_cons, List.drop_zero]
      change wpStill _ _ (World.drew _) (fun a' => wpList _ _ _ _ a' (World.drew _)) _ _
      iterate 19 still_step
      refine wpStill_nil ?_
      go_wp2
      go_roundg (16 - (t + 1))
      case rel => exact ⟨t + 1, by omega, rfl, by go_num, by rw [HNW.out]; have h := HPUT.out.drew; rw [← HWD.out] at h ⊢; exact h⟩
      case measure => omega
    · obtain rfl : t = 16 := by omega
      have HST := Lib.hid hex
      clear hex
      go_wp2
      go_loopg [6, 7, 8] 48 (fun g i s7 s8 wx => ∃ t : Nat, 16 ≤ t ∧ t ≤ 64 ∧ g = 64 - t ∧ i = .int .i64 t ∧ Ex w wx (S2.wordsTo s.data.toList t))
      case atStart => exact ⟨16, Nat.le_refl _, by omega, rfl, rfl, HST.out⟩
      case round =>
        obtain ⟨t, ht16, ht64, rfl, rfl, hex⟩ := hrel
        clear HST
        by_cases htl : t < 64
        · have h2 : (t : Int) < 64 := by omega
          have hlen := S2.wordsTo_length s.data.toList t
          have hnw : S2.wordsTo s.data.toList (t + 1) = S2.wordsTo s.data.toList t ++ [(S2.wordsTo s.data.toList t).getD (t - 16) 0 + S2.s0 ((S2.wordsTo s.data.toList t).getD (t - 15) 0) + (S2.wordsTo s.data.toList t).getD (t - 7) 0 + S2.s1 ((S2.wordsTo s.data.toList t).getD (t - 2) 0)] := by rw [S2.wordsTo, if_neg (by omega)]
          generalize S2.wordsTo s.data.toList t = L at *
          have a16 : (0 : Int) ≤ (t : Int) - 16 := by omega
          have b16 : (16 : Int) ≤ (t : Int) := by omega
          have e16 : (t : Int) - 16 < 64 := by omega
          have n16 : ((t : Int) - 16).toNat = t - 16 := by omega
          have w16 : IntKind.i64.wrap ((t : Int) - 16) = (t : Int) - 16 := IntWalk.i64_in _ (by omega)
          have c16 := hex.at_ (j := t - 16) (by omega)
          have a15 : (0 : Int) ≤ (t : Int) - 15 := by omega
          have b15 : (15 : Int) ≤ (t : Int) := by omega
          have e15 : (t : Int) - 15 < 64 := by omega
          have n15 : ((t : Int) - 15).toNat = t - 15 := by omega
          have w15 : IntKind.i64.wrap ((t : Int) - 15) = (t : Int) - 15 := IntWalk.i64_in _ (by omega)
          have c15 := hex.at_ (j := t - 15) (by omega)
          have a7 : (0 : Int) ≤ (t : Int) - 7 := by omega
          have b7 : (7 : Int) ≤ (t : Int) := by omega
          have e7 : (t : Int) - 7 < 64 := by omega
          have n7 : ((t : Int) - 7).toNat = t - 7 := by omega
          have w7 : IntKind.i64.wrap ((t : Int) - 7) = (t : Int) - 7 := IntWalk.i64_in _ (by omega)
          have c7 := hex.at_ (j := t - 7) (by omega)
          have a2 : (0 : Int) ≤ (t : Int) - 2 := by omega
          have b2 : (2 : Int) ≤ (t : Int) := by omega
          have e2 : (t : Int) - 2 < 64 := by omega
          have n2 : ((t : Int) - 2).toNat = t - 2 := by omega
          have w2 : IntKind.i64.wrap ((t : Int) - 2) = (t : Int) - 2 := IntWalk.i64_in _ (by omega)
          have c2 := hex.at_ (j := t - 2) (by omega)
          have ct := hex.at_ (j := t) htl
          have cf := hex.row.frozen t
          have h0 : (0 : Int) ≤ t := by omega
          have HPUT := Lib.hid (hex.put hlen (L.getD (t - 16) 0 + S2.s0 (L.getD (t - 15) 0) + L.getD (t - 7) 0 + S2.s1 (L.getD (t - 2) 0)))
          have HNW := Lib.hid hnw
          clear hex hlen hnw
          generalize L.getD (t - 16) 0 = x16 at *
          generalize L.getD (t - 15) 0 = x15 at *
          generalize L.getD (t - 7) 0 = x7 at *
          generalize L.getD (t - 2) 0 = x2 at *
          have z3 := tn_nonneg x15
          have z2 := tn_nonneg x2
          have z3' := tn_lt x15
          have z2' := tn_lt x2
          go_wp2_with fail
          refine wp_region_still_lit (by kernel_rfl) (by kernel_rfl) ?_
          change wpStill _ _ (World.drew _) (fun a' => Exit.then _ _ _ a' (World.drew _)) _ _
          iterate 10 still_step
          refine wpStill_nil ?_
          go_wp2_with fail
          refine wp_region_still_tail 28 (by kernel_rfl) (by kernel_rfl) ?_
          simp only [List.take_succ_cons, List.take_zero, List.drop_succ_cons, List.drop_zero]
          change wpStill _ _ (World.drew _) (fun a' => wpList _ _ _ _ a' (World.drew _)) _ _
          iterate 6 still_step
          still_call (turn7 _ _)
          iterate 1 still_step
          still_call (turn18 _ _)
          iterate 11 still_step
          still_call (turn17 _ _)
          iterate 1 still_step
          still_call (turn19 _ _)
          iterate 5 still_step
          refine wpStill_nil ?_
          go_wp2
          go_roundg (64 - (t + 1))
          case rel => exact ⟨t + 1, by omega, by omega, rfl, by go_num, by rw [HNW.out, word_form]; exact HPUT.out.drew.drew⟩
          case measure => omega
        · obtain rfl : t = 64 := by omega
          have hw := w64_row hex.row
          have hr := hex.res
          have hbl := hex.below
          clear hex
          generalize hL : S2.wordsTo s.data.toList 64 = L at *
          have HL := Lib.hid hL
          clear hL
          have HR := Lib.hid hr
          have HH := Lib.hid hw
          clear hr hw
          go_wp2_with (first
            | (with_reducible refine wpList_load_row rfl 119 (.tmp 3) rfl (w.heap.size + 1) rfl 119 (w64 L) (0, 0) _ HH.out Tryd.underlying119 rfl (info64 _) ?_)
            | (with_reducible refine wpList_store_row rfl 119 (.tmp 2) (.tmp 81) rfl w.heap.size (w64 L) rfl rfl 119 (w64 []) HR.out (info64 _) (by rw [w64_size, w64_size]) (w64_one _) ?_))
          refine bodyPost_ret (results_cell_row Tryd.results80 _ _ w.heap.size 119 (w64 L) (0, 0) _ rfl (setRow_heap _ _ _ _ _ _ HR.out) Tryd.underlying119 rfl (info64 _)) rfl ⟨by rw [HL.out], ?_⟩
          exact below_row hbl (Nat.le_refl _) _
end Go.Proofs.YtmbbigmnliiadaaDoor.Ho
namespace Go.Proofs.YtmbbigmnliiadaaDoor.Ho
open Go.RowKit Hs
set_option linter.unusedVariables false
attribute [local go_sem] t_and t_or t_xor t_not t_add t_sub t_add_wrap t_sub_wrap

theorem run_index_row {P : Program} {ty elem : TypeId} {n : Nat} (hu : P.underlying ty = some (.array n elem)) (ha : ∀ w, (isAgg elem).run P w = .ok false w) (hz : ∀ w, (Go.sizeOf elem).run P w = .ok 1 w)
    {W : Array Value} {t : Nat} (h : t < n) {v : Value} (hv : W[t]? = some v) (w : World) : (Instr.index ty (.agg W) (.int .i64 t)).run P w = .ok v w := by
  have h0 : (0 : Int) ≤ t := by omega
  have h1 : (t : Int) < n := by omega
  simp [Instr.index, asIntOf, run_underlying hu, Sem.run_bind, h, hz, part, ha, hv]

/-- the state of press: the chain that came in, the result's row, the constants -/
structure Pv (w wr : World) (x : S2.Ch) : Prop where
  below : Below w.heap.size w wr
  bf : wr.heap[w.heap.size]? = some (.cells (c8 x) 87 (0, 0))
  rs : wr.heap[w.heap.size + 1]? = some (.cells (c8 ⟨0, 0, 0, 0, 0, 0, 0, 0⟩) 87 (0, 0))
  ks : Ks wr
  kl : 1 < w.heap.size
section
variable {w wr : World} {x y : S2.Ch} {g i : Nat}
theorem Ks.setRow (h : Ks w) (hg : 1 ≠ g) (c : Array Value) : Ks (w.setRow g c) := fun i hi => by
  rw [World.cell?_of_block (a := ⟨1, i, none⟩) (setRow_other _ _ _ _ (fun e => hg e))]
  exact h i hi
theorem Pv.drew (h : Pv w wr x) : Pv w wr.drew x := ⟨h.below.drew, h.bf, h.rs, h.ks, h.kl⟩
theorem Pv.lt (h : Pv w wr x) : w.heap.size + 1 < wr.heap.size := (Array.getElem?_eq_some_iff.1 h.rs).1
theorem Pv.laid (h : Pv w wr x) (c d : Array Value) (ty : TypeId) : Pv w ((wr.alloc (.cells c ty)).setRow wr.heap.size d) x := by
  have hlt := h.lt
  have hkl := h.kl
  exact ⟨below_row (h.below.alloc h.below.size _) h.below.size _, (setRow_other _ _ _ _ (by omega)).trans ((Below.heap_alloc _ _ _ (by omega)).trans h.bf), (setRow_other _ _ _ _ (by omega)).trans ((Below.heap_alloc _ _ _ (by omega)).trans h.rs), (h.ks.alloc _).setRow (by omega) _, h.kl⟩
theorem Pv.fld (h : Pv w wr x) {j : Nat} (hj : j < 8) : wr.cell? ⟨w.heap.size, j, none⟩ = some (.int .u32 (tn (S2.fld x j))) := by rw [cell_of_row _ _ j _ _ _ h.bf]; exact c8_get x j hj

/-- .. while the letters are added: i of them are -/
structure Pw (w wr : World) (g : Nat) (x y : S2.Ch) (i : Nat) : Prop where
  below : Below w.heap.size w wr
  bf : wr.heap[w.heap.size]? = some (.cells (c8 x) 87 (0, 0))
  rs : wr.heap[w.heap.size + 1]? = some (.cells (c8 ⟨0, 0, 0, 0, 0, 0, 0, 0⟩) 87 (0, 0))
  lo : w.heap.size + 1 < g
  row : wr.rowIs g 87 8 (fun j => .int .u32 (tn (if j < i then S2.fld (S2.add x y) j else S2.fld y j)))
theorem Pw.start (h : Pv w wr x) (y : S2.Ch) (g : Nat) (hg : wr.heap.size = g) : Pw w (wr.alloc (.cells (c8 y) 87)) g x y 0 := by
  subst hg
  have hlt := h.lt
  refine ⟨h.below.alloc h.below.size _, (Below.heap_alloc _ _ _ (by omega)).trans h.bf, (Below.heap_alloc _ _ _ (by omega)).trans h.rs, hlt, ⟨c8 y, heap_alloc_new _ _, rfl, fun j hj => ?_⟩⟩
  rw [c8_get y j hj]; show _ = some (Value.int .u32 (tn (if j < 0 then _ else _))); rw [if_neg (Nat.not_lt_zero _)]
theorem Pw.put (h : Pw w wr g x y i) (hi : i < 8) {v : UInt32} (hv : v = S2.fld y i + S2.fld x i) : Pw w (wr.setCell ⟨g, i, none⟩ (.int .u32 (tn v))) g x y (i + 1) := by
  have hlo := h.lo
  refine ⟨h.below.setCell (show w.heap.size ≤ g by omega) _, (heap_setCell_other _ _ _ _ (by simp; omega)).trans h.bf, (heap_setCell_other _ _ _ _ (by simp; omega)).trans h.rs, h.lo, ?_⟩
  refine (h.row.set i _).congr fun j _ => ?_
  by_cases e : j = i
  · subst e
    rw [if_pos rfl, if_pos (Nat.lt_succ_self _), S2.fld_add, hv, UInt32.add_comm]
  · rw [if_neg e]
    by_cases h1 : j < i
    · rw [if_pos h1, if_pos (by omega)]
    · rw [if_neg h1, if_neg (by omega)]
theorem Pw.drew (h : Pw w wr g x y i) : Pw w wr.drew g x y i := ⟨h.below.drew, h.bf, h.rs, h.lo, h.row⟩
theorem Pw.fld (h : Pw w wr g x y i) {j : Nat} (hj : j < 8) : wr.cell? ⟨w.heap.size, j, none⟩ = some (.int .u32 (tn (S2.fld x j))) := by rw [cell_of_row _ _ j _ _ _ h.bf]; exact c8_get x j hj
theorem Pw.at_ (h : Pw w wr g x y i) (hi : i < 8) : wr.cell? ⟨g, i, none⟩ = some (.int .u32 (tn (S2.fld y i))) := by
  have := h.row.cell hi
  rw [if_neg (Nat.lt_irrefl _)] at this
  exact this
theorem Pw.done (h : Pw w wr g x y 8) : wr.heap[g]? = some (.cells (c8 (S2.add x y)) 87 (0, 0)) := by
  obtain ⟨c, hb, hn, hc⟩ := h.row
  rw [hb]
  congr 2
  apply Array.ext_getElem?
  intro j
  by_cases hj : j < 8
  · rw [hc j hj, c8_get _ j hj]; show some (Value.int .u32 (tn (if j < 8 then _ else _))) = _; rw [if_pos hj]
  · rw [Array.getElem?_eq_none (by omega), Array.getElem?_eq_none (by show 8 ≤ j; omega)]
end

set_option maxHeartbeats 1000000 in
set_option maxRecDepth 100000 in
theorem press_any (x : S2.Ch) (s : ByteArray) (w : World) (hs : s.size = 64) (hK : Ks w) :
    Calls Tryd.prog 71 #[.agg (c8 x), .string s] w fun e w' => e = .returned (.agg (c8 (S2.press x s.data.toList))) ∧ Below w.heap.size w w' := by
  have hz := zv64
  have hz8 := zv8
  have hpx : S2.press x s.data.toList = S2.add x (S2.stepsTo (S2.wordsTo s.data.toList 64) x 64) := rfl
  have hss : ∀ t, S2.stepsTo (S2.wordsTo s.data.toList 64) x (t + 1) = S2.step (S2.stepsTo (S2.wordsTo s.data.toList 64) x t) (S2.keys.getD t 0) ((S2.wordsTo s.data.toList 64).getD t 0) := fun t => rfl
  have hs0 : S2.stepsTo (S2.wordsTo s.data.toList 64) x 0 = x := rfl
  have HPX := Lib.hid hpx
  have HSS := Lib.hid hss
  have HS0 := Lib.hid hs0
  have HK := Lib.hid hK
  clear hpx hss hs0 hK
  go_enter Tryd.func71, Tryd.ntmps71
  go_wp2_with fail
  refine (expand_any _ _ hs).mono ?_
  rintro e0 w1 ⟨rfl, hb1⟩
  have hsz := hb1.size
  simp at hsz
  have hpv : Pv w w1 x := ⟨(((Below.refl _ w).alloc (Nat.le_refl _) _).alloc (by simp) _).trans (hb1.mono (by simp; omega)), by rw [hb1.block _ (by simp; omega)]; exact heap_alloc2_old _ _ _,
    by rw [hb1.block _ (by simp)]; exact heap_alloc2_new _ _ _, ((HK.out.alloc _).alloc _).under hb1, HK.out.lt⟩
  clear hb1 hsz
  generalize hL : S2.wordsTo s.data.toList 64 = L at *
  have hnew := heap_alloc_new w1 (.cells (w64 []) 119)
  have hpv2 := hpv.laid (w64 []) (w64 L) 119
  have hw2 := setRow_heap _ _ _ (w64 L) _ _ hnew
  have HL := Lib.hid hL
  have HNEW := Lib.hid hnew
  have HW := Lib.hid hw2
  have HPV := Lib.hid hpv2
  clear hL hnew hw2 hpv hpv2 HK
  go_wp2_with (with_reducible refine wpList_store_row rfl 119 (.tmp 5) (.tmp 21) rfl w1.heap.size (w64 L) rfl rfl 119 (w64 []) HNEW.out (info64 _) (by rw [w64_size, w64_size]) (w64_one _) ?_)
  clear hz HNEW
  generalize (w1.alloc (.cells (w64 []) 119)).setRow w1.heap.size (w64 L) = w2 at *
  obtain ⟨xa, xb, xc, xd, xe, xf, xg, xh⟩ := x
  have f0 := HPV.out.fld (j := 0) (by omega)
  have f1 := HPV.out.fld (j := 1) (by omega)
  have f2 := HPV.out.fld (j := 2) (by omega)
  have f3 := HPV.out.fld (j := 3) (by omega)
  have f4 := HPV.out.fld (j := 4) (by omega)
  have f5 := HPV.out.fld (j := 5) (by omega)
  have f6 := HPV.out.fld (j := 6) (by omega)
  have f7 := HPV.out.fld (j := 7) (by omega)
  simp only [S2.fld] at f0 f1 f2 f3 f4 f5 f6 f7
  generalize hX : (⟨xa, xb, xc, xd, xe, xf, xg, xh⟩ : S2.Ch) = X at *
  have HX := Lib.hid hX
  clear hX
  have HWD := Lib.hid (show w2.drew.drew.heap[w1.heap.size]? = some (.cells (w64 L) 119 (0, 0)) from HW.out)
  refine wp_region_still_lit (by kernel_rfl) (by kernel_rfl) ?_
  change wpStill _ _ (World.drew _) (fun a' => Exit.then _ _ _ a' (World.drew _)) _ _
  iterate 12 still_step
  refine wpStill_nil ?_
  go_wp2_with fail
  refine wp_region_still_lit (by kernel_rfl) (by kernel_rfl) ?_
  change wpStill _ _ (World.drew _) (fun a' => Exit.then _ _ _ a' (World.drew _)) _ _
  iterate 12 still_step
  refine wpStill_nil ?_
  go_wp2_with (with_reducible refine wpList_load_row rfl 119 (.tmp 5) rfl w1.heap.size rfl 119 (w64 L) (0, 0) _ HWD.out Tryd.underlying119 rfl (info64 _) ?_)
  have HPD := Lib.hid HPV.out.drew.drew
  clear HWD HW HPV f0 f1 f2 f3 f4 f5 f6 f7
  go_loopg [6, 7, 8, 9, 10, 11, 12, 13, 39] 64 (fun g va vb vc vd ve vf vg vh i wx => ∃ (t : Nat) (y : S2.Ch), t ≤ 64 ∧ g = 64 - t ∧ i = .int .i64 t ∧ Pv w wx X ∧ y = S2.stepsTo L X t ∧ va = .int .u32 (tn y.a) ∧ vb = .int .u32 (tn y.b) ∧ vc = .int .u32 (tn y.c) ∧ vd = .int .u32 (tn y.d) ∧ ve = .int .u32 (tn y.e) ∧ vf = .int .u32 (tn y.f) ∧ vg = .int .u32 (tn y.g) ∧ vh = .int .u32 (tn y.h))
  case atStart => exact ⟨0, ⟨xa, xb, xc, xd, xe, xf, xg, xh⟩, Nat.zero_le _, rfl, rfl, HPD.out, HX.out.trans HS0.out.symm, rfl, rfl, rfl, rfl, rfl, rfl, rfl, rfl⟩
  case round =>
    obtain ⟨t, ⟨ya, yb, yc, yd, ye, yf, yg, yh⟩, ht, rfl, rfl, hpv, hy, rfl, rfl, rfl, rfl, rfl, rfl, rfl, rfl⟩ := hrel
    clear HPD
    have HY := Lib.hid hy
    clear hy
    by_cases htl : t < 64
    · as_aux_lemma =>
        have h2 : (t : Int) < 64 := by omega
        have h0 : (0 : Int) ≤ t := by omega
        have hkn : ((t : Int)).toNat = t := by omega
        have ck := hpv.ks t htl
        have hg := run_index_row (P := Tryd.prog) Tryd.underlying119 Tryd.isAgg68 Tryd.sizeOf68 htl (w64_get L t htl)
        have hnx := HSS.out t
        generalize S2.keys.getD t 0 = kk at *
        generalize L.getD t 0 = v at *
        rw [← HY.out] at hnx
        have HNX := Lib.hid hnx
        have HPV := Lib.hid hpv.drew
        clear hnx hpv
        go_wp2_with fail
        refine wp_region_still_lit (by kernel_rfl) (by kernel_rfl) ?_
        change wpStill _ _ (World.drew _) (fun a' => Exit.then _ _ _ a' (World.drew _)) _ _
        iterate 2 still_step
        still_call (turn6 _ _)
        iterate 1 still_step
        still_call (turn11 _ _)
        iterate 2 still_step
        still_call (turn25 _ _)
        iterate 18 still_step
        refine wpStill_nil ?_
        have hnot : ∀ z : UInt32, bits .xor .u32 (if IntKind.u32.signed = true then -1 else IntKind.u32.max) (tn z) = tn (~~~z) := fun z => t_not z
        simp only [hnot, t_and, t_xor, t_add_wrap]
        clear hnot
        generalize hone : yh + (S2.turn ye 6 ^^^ S2.turn ye 11 ^^^ S2.turn ye 25) + (ye &&& yf ^^^ ~~~ye &&& yg) + kk + v = one
        have HONE := Lib.hid hone
        clear hone
        go_wp2_with fail
        refine (turn2 _ _).mono ?_
        rintro e w' ⟨rfl, rfl⟩
        go_wp2_with fail
        refine (turn13 _ _).mono ?_
        rintro e w' ⟨rfl, rfl⟩
        go_wp2_with fail
        refine (turn22 _ _).mono ?_
        rintro e w' ⟨rfl, rfl⟩
        go_wp2_with fail
        go_roundg (64 - (t + 1))
        case rel =>
          have ho : S2.one ⟨ya, yb, yc, yd, ye, yf, yg, yh⟩ kk v = one := HONE.out
          refine ⟨t + 1, ⟨one + S2.two ⟨ya, yb, yc, yd, ye, yf, yg, yh⟩, ya, yb, yc, yd + one, ye, yf, yg⟩, by omega, rfl, by go_num, HPV.out, ?_, rfl, rfl, rfl, rfl, rfl, rfl, rfl, rfl⟩
          rw [HNX.out, S2.step, ho]
        case measure => omega
    · obtain rfl : t = 64 := by omega
      have hfin := HPX.out
      rw [← HY.out] at hfin
      have HF := Lib.hid hfin
      obtain ⟨gg, hgg⟩ : ∃ gg, wr.heap.size = gg := ⟨_, rfl⟩
      have hst : Pw w (wr.alloc (.cells #[.int .u32 (tn ya), .int .u32 (tn yb), .int .u32 (tn yc), .int .u32 (tn yd), .int .u32 (tn ye), .int .u32 (tn yf), .int .u32 (tn yg), .int .u32 (tn yh)] 87)) gg X ⟨ya, yb, yc, yd, ye, yf, yg, yh⟩ 0 := Pw.start hpv ⟨ya, yb, yc, yd, ye, yf, yg, yh⟩ gg hgg
      have HST := Lib.hid hst
      have HGG := Lib.hid hgg
      clear hfin hst hpv hgg hz8
      go_wp2_with fail
      generalize wr.alloc (.cells #[.int .u32 (tn ya), .int .u32 (tn yb), .int .u32 (tn yc), .int .u32 (tn yd), .int .u32 (tn ye), .int .u32 (tn yf), .int .u32 (tn yg), .int .u32 (tn yh)] 87) = w3 at *
      rw [HGG.out]
      clear HGG
      go_loopg [110] 8 (fun g i wx => ∃ k : Nat, k ≤ 8 ∧ g = 8 - k ∧ i = .int .i64 k ∧ Pw w wx gg X ⟨ya, yb, yc, yd, ye, yf, yg, yh⟩ k)
      case atStart => exact ⟨0, Nat.zero_le _, rfl, rfl, HST.out⟩
      case round =>
        obtain ⟨k, hk, rfl, rfl, hpw⟩ := hrel
        clear HST
        by_cases hkl : k < 8
        · have h2 : (k : Int) < 8 := by omega
          have h0 : (0 : Int) ≤ k := by omega
          have hkn : ((k : Int)).toNat = k := by omega
          have c1 := hpw.at_ hkl
          have c2 := hpw.fld hkl
          have cf := hpw.row.frozen k
          have HPUT := Lib.hid (hpw.put hkl rfl)
          clear hpw
          generalize S2.fld ⟨ya, yb, yc, yd, ye, yf, yg, yh⟩ k = p1 at *
          generalize S2.fld X k = p2 at *
          go_wp2_with fail
          refine wp_region_still_tail 7 (by kernel_rfl) (by kernel_rfl) ?_
          simp only [List.take_succ_cons, List.take_zero, List.drop_succ_cons, List.drop_zero]
          change wpStill _ _ (World.drew _) (fun a' => wpList _ _ _ _ a' (World.drew _)) _ _
          iterate 7 still_step
          refine wpStill_nil ?_
          go_wp2
          go_roundg (8 - (k + 1))
          case rel => exact ⟨k + 1, by omega, rfl, by go_num, HPUT.out.drew⟩
          case measure => omega
        · obtain rfl : k = 8 := by omega
          have hd := hpw.done
          have hr := hpw.rs
          have hbl := hpw.below
          clear hpw
          rw [← HF.out] at hd
          generalize hPR : S2.press X s.data.toList = PR at *
          have HPR := Lib.hid hPR
          have HD := Lib.hid hd
          have HR := Lib.hid hr
          clear hPR hd hr
          go_wp2_with (first
            | (with_reducible refine wpList_load_row rfl 87 (.tmp 18) rfl gg rfl 87 (c8 PR) (0, 0) _ HD.out Tryd.underlying87 rfl (info8 _) ?_)
            | (with_reducible refine wpList_store_row rfl 87 (.tmp 4) (.tmp 122) rfl (w.heap.size + 1) (c8 PR) rfl rfl 87 (c8 ⟨0, 0, 0, 0, 0, 0, 0, 0⟩) HR.out (info8 _) (c8_sizes _ _) (c8_one _) ?_))
          refine bodyPost_ret (results_cell_row Tryd.results71 _ _ (w.heap.size + 1) 87 (c8 PR) (0, 0) _ rfl (setRow_heap _ _ _ _ _ _ HR.out) Tryd.underlying87 rfl (info8 _)) rfl ⟨by rw [HX.out, HPR.out], ?_⟩
          exact below_row hbl (Nat.le_succ _) _
end Go.Proofs.YtmbbigmnliiadaaDoor.Ho
namespace Go.Proofs.YtmbbigmnliiadaaDoor.Ho
open Go.RowKit Hs
set_option linter.unusedVariables false

/-- the seventy-three cells of a state -/
def sts (x : S2.Ch) (r : List UInt8) (n : Nat) : Array Value := ((c8 x).toList ++ Lib.byteCells r ++ [Value.int .u64 n]).toArray
theorem c8_len (x : S2.Ch) : (c8 x).toList.length = 8 := rfl
theorem sts_size (x : S2.Ch) (r : List UInt8) (n : Nat) (hr : r.length = 64) : (sts x r n).size = 73 := by simp [sts, c8, Lib.byteCells_length, hr]
theorem sts_told (x : S2.Ch) (r : List UInt8) (n : Nat) (hr : r.length = 64) : (sts x r n)[72]? = some (.int .u64 n) := by
  unfold sts
  rw [List.getElem?_toArray, List.getElem?_append_right (by simp [c8, Lib.byteCells_length, hr])]
  simp [c8, Lib.byteCells_length, hr]
theorem sts_rest (x : S2.Ch) (r : List UInt8) (n i : Nat) (hi : i < r.length) : (sts x r n)[8 + i]? = some (.int .u8 (r.getD i 0).toNat) := by
  unfold sts
  rw [List.getElem?_toArray, List.getElem?_append_left (by simp [c8, Lib.byteCells_length]; omega), List.getElem?_append_right (by simp [c8])]
  simp [c8, Lib.byteCells, List.getD, List.getElem?_eq_getElem hi]
theorem sts_set (x : S2.Ch) (r : List UInt8) (n m : Nat) (hr : r.length = 64) : (sts x r n).setIfInBounds 72 (.int .u64 m) = sts x r m := by
  apply Array.ext_getElem?
  intro i
  rw [Array.getElem?_setIfInBounds, sts_size _ _ _ hr]
  by_cases h : 72 = i
  · subst h
    rw [if_pos rfl, if_pos (by omega), sts_told _ _ _ hr]
  · rw [if_neg h]
    unfold sts
    rw [List.getElem?_toArray, List.getElem?_toArray]
    by_cases h2 : i < 72
    · rw [List.getElem?_append_left (l₂ := [Value.int .u64 (n : Int)]) (by simp [c8, Lib.byteCells_length, hr]; omega), List.getElem?_append_left (l₂ := [Value.int .u64 (m : Int)]) (by simp [c8, Lib.byteCells_length, hr]; omega)]
    · rw [List.getElem?_eq_none (by simp [c8, Lib.byteCells_length, hr]; omega), List.getElem?_eq_none (by simp [c8, Lib.byteCells_length, hr]; omega)]
theorem sts_one (x : S2.Ch) (r : List UInt8) (n : Nat) : (sts x r n).all (·.oneCell') = true := by
  simp [sts, c8, Lib.byteCells, Value.oneCell']
theorem info55 (x : S2.Ch) (r : List UInt8) (n : Nat) (hr : r.length = 64) : (Tryd.prog.info? 92).map (·.size) = some (sts x r n).size := by
  rw [sts_size _ _ _ hr]
  kernel_rfl

/-- the chain of a state, read -/
theorem run_load_chain (w : World) (b : Nat) (x : S2.Ch) (r : List UInt8) (n : Nat) (fr : Nat × Nat) (hg : w.heap[b]? = some (.cells (sts x r n) 92 fr)) :
    (loadVar 87 ⟨b, 0, none⟩).run Tryd.prog w = .ok (.agg (c8 x)) w := by
  have hl : (loadCells ⟨b, 0, none⟩ (c8 x).toList.length).run Tryd.prog w = .ok (c8 x).toList.toArray w :=
    run_loadCells_list (P := Tryd.prog) w ⟨b, 0, none⟩ (c8 x).toList (fun j v hv => by
      rw [add_zero_of, cell_of_row w b j _ _ fr hg]
      unfold sts
      have hj : j < 8 := by
        rcases Nat.lt_or_ge j 8 with h | h
        · exact h
        · rw [List.getElem?_eq_none (by simpa [c8] using h)] at hv; cases hv
      rw [List.getElem?_toArray, List.getElem?_append_left (by simp [c8]; omega), List.getElem?_append_left (by simpa [c8] using hj)]
      exact hv)
  have hq := info8 x
  cases hi : Tryd.prog.info? 87 with
  | none => rw [hi] at hq; cases hq
  | some i =>
    have hs : i.size = 8 := by simpa [hi, c8] using hq
    simp only [Array.toArray_toList, c8_len] at hl
    simp [loadVar, Sem.run_bind, Tryd.isAgg87, sizeOf, typeInfo, hi, hs, hl]
/-- the chain of a state, put in -/
theorem run_store_chain (w : World) (b : Nat) (x y : S2.Ch) (r : List UInt8) (n : Nat) (hg : w.heap[b]? = some (.cells (sts x r n) 92 (0, 0))) :
    (storeVar 87 ⟨b, 0, none⟩ (.agg (c8 y))).run Tryd.prog w = .ok () (w.setRow b (sts y r n)) := by
  have hst := run_storeCells_at Tryd.prog b 0 92 (c8 y).toList 0 (sts x r n) w hg (by simp [sts, c8]) (fun v hv => by
    have := c8_one y
    rw [Array.all_eq_true_iff_forall_mem] at this
    exact this v (by simpa using hv))
  have hq := info8 y
  cases hi : Tryd.prog.info? 87 with
  | none => rw [hi] at hq; cases hq
  | some i =>
    have hs : i.size = 8 := by simpa [hi, c8] using hq
    have hc : (Value.agg (c8 y)).cells = c8 y := rfl
    simp only [Nat.add_zero, Nat.zero_add, List.take_zero, List.nil_append, c8_len] at hst
    have hrow : ((c8 y).toList ++ (sts x r n).toList.drop 8).toArray = sts y r n := by simp [sts, c8]
    rw [hrow] at hst
    simp [storeVar, Sem.run_bind, sizeOf, typeInfo, hi, hs, hc, hst, show (c8 y).size = 8 from rfl]

/-- a state that was told l; the constants are there -/
def St (w : World) (b : Nat) (l : List UInt8) : Prop :=
  Ks w ∧ 1 < b ∧ ∃ r : List UInt8, r.length = 64 ∧ r.take (l.length % 64) = l.drop (64 * (l.length / 64)) ∧ w.heap[b]? = some (.cells (sts (S2.chain l (l.length / 64)) r l.length) 92 (0, 0))
theorem St.ks {w : World} {b : Nat} {l : List UInt8} (h : St w b l) : Ks w := h.1
theorem St.lt {w : World} {b : Nat} {l : List UInt8} (h : St w b l) : b < w.heap.size := by
  obtain ⟨_, _, r, _, _, hg⟩ := h
  exact (Array.getElem?_eq_some_iff.1 hg).1
theorem St.kept {w w' : World} {b : Nat} {l : List UInt8} (h : St w b l) (hk : Ks w') (hb : w'.heap[b]? = w.heap[b]?) : St w' b l := by
  obtain ⟨_, hG, r, h1, h2, hg⟩ := h
  exact ⟨hk, hG, r, h1, h2, hb.trans hg⟩
theorem St.below {w w' : World} {B b : Nat} {l : List UInt8} (h : St w b l) (hb : Below B w w') (hB : b < B) : St w' b l := h.kept (h.1.below hb (Nat.lt_trans h.2.1 hB)) (hb.block _ hB)
theorem St.grown {w w' : World} {c b : Nat} {l : List UInt8} (h : St w b l) (hb : w.grownBy w' (some c)) (hne : b ≠ c) (hc : 1 < c) : St w' b l :=
  h.kept (h.1.grown hb (fun e => by injection e with e; omega)) (hb.block _ h.lt (fun e => hne (by injection e)))

theorem wpList_built {P : Program} {ops : Array Oper} {rest : List Oper} {o : Oper} {a : Act} {w : World} {Q : Exit → Act → World → Prop} (hg : o.guard = none) (t : TypeId) (parts : Array (Nat × Operand)) (ho : o.op = .build t parts) (cells : Array Value)
    (hc : P.built t (parts.map fun (i, x) => (i, a.eval x)).toList = some cells) (h : wpList P ops Q rest (a.put o.dst (.agg cells)) w) : wpList P ops Q (o :: rest) a w :=
  wpList_build hg t parts ho (by rw [hc]; rfl) (by rw [hc]; exact h)
theorem built45 : Tryd.prog.built 92 [(0, .agg (c8 S2.first))] = some (sts S2.first (List.replicate 64 0) 0) := by kernel_rfl
theorem st_new (w : World) (hK : Ks w) : St (w.alloc (.cells (sts S2.first (List.replicate 64 0) 0) 92)) w.heap.size [] := ⟨hK.alloc _, hK.lt, List.replicate 64 0, by simp, by simp, heap_alloc_new _ _⟩
set_option maxRecDepth 100000 in
theorem new_any (w : World) (hK : Ks w) : Calls Tryd.prog 36 #[] w fun e w' => ∃ b, e = .returned (.pointer (some ⟨b, 0, none⟩)) ∧ w.heap.size ≤ b ∧ St w' b [] ∧ Below w.heap.size w w' := by
  have HK := Lib.hid hK
  clear hK
  go_enter Tryd.func36, Tryd.ntmps36
  go_wp2_with fail
  refine (first_any _).mono ?_
  rintro e w1 ⟨rfl, hb1⟩
  rename_i K hK
  refine hK _ _ ?_
  clear hK
  refine wpList_built rfl 92 #[(0, .tmp 1)] rfl (sts S2.first (List.replicate 64 0) 0) (by kernel_rfl) ?_
  go_wp2
  go_ret
  exact ⟨w1.heap.size, rfl, hb1.size, st_new w1 (HK.out.under hb1), hb1.alloc hb1.size _⟩

set_option maxHeartbeats 1000000 in
set_option maxRecDepth 100000 in
theorem copy_any (w : World) (b : Nat) (l : List UInt8) (h : St w b l) : Calls Tryd.prog 52 #[.pointer (some ⟨b, 0, none⟩)] w fun e w' => e = .returned (.pointer (some ⟨w.heap.size, 0, none⟩)) ∧ St w' w.heap.size l ∧ Below w.heap.size w w' := by
  have hlt := h.lt
  obtain ⟨hK, hG, r, h1, h2, hg⟩ := h
  have hi := info55 (S2.chain l (l.length / 64)) r l.length h1
  have ho := sts_one (S2.chain l (l.length / 64)) r l.length
  have hsz := sts_size (S2.chain l (l.length / 64)) r l.length h1
  have hst : ∀ w' : World, Below w.heap.size w w' → w'.heap[w.heap.size]? = some (.cells (sts (S2.chain l (l.length / 64)) r l.length) 92 (0, 0)) → St w' w.heap.size l := fun w' hb' h' => ⟨hK.under hb', hK.lt, r, h1, h2, h'⟩
  generalize sts (S2.chain l (l.length / 64)) r l.length = C at *
  have HG := Lib.hid hg
  have HI := Lib.hid hi
  have HO := Lib.hid ho
  have HST := Lib.hid hst
  have HSZ := Lib.hid hsz
  clear hg hi ho hst h1 h2 hsz hK hG
  have hz : ∀ w : World, (zeroValue 92).run Tryd.prog w = .ok (.agg (sts ⟨0, 0, 0, 0, 0, 0, 0, 0⟩ (List.replicate 64 0) 0)) w := fun w => by kernel_rfl
  have hzs := sts_size ⟨0, 0, 0, 0, 0, 0, 0, 0⟩ (List.replicate 64 0) 0 (by simp)
  generalize sts ⟨0, 0, 0, 0, 0, 0, 0, 0⟩ (List.replicate 64 0) 0 = Z at *
  have HN := Lib.hid (heap_alloc_new w (.cells Z 92))
  have HZ := Lib.hid (show Z.size = C.size by rw [hzs, HSZ.out])
  clear hzs
  go_enter Tryd.func52, Tryd.ntmps52
  go_wp2_with (first
    | (with_reducible refine wpList_load_row rfl 92 (.tmp 5) rfl b rfl 92 C (0, 0) _ HG.out Tryd.underlying92 rfl HI.out ?_)
    | (with_reducible refine wpList_store_row rfl 92 (.tmp 3) (.tmp 6) rfl w.heap.size C rfl rfl 92 Z HN.out HI.out HZ.out HO.out ?_))
  go_ret
  have hbb := below_row ((Below.refl _ w).alloc (Nat.le_refl _) (.cells Z 92)) (Nat.le_refl _) C
  exact ⟨rfl, HST.out _ hbb (setRow_heap _ _ _ _ _ _ HN.out), hbb⟩
end Go.Proofs.YtmbbigmnliiadaaDoor.Ho
namespace Go.Proofs.YtmbbigmnliiadaaDoor.Ho
open Go.RowKit Hs
set_option linter.unusedVariables false

theorem drop_take_append (l p : List UInt8) (i n : Nat) (h : i + n ≤ l.length) : ((l ++ p).drop i).take n = (l.drop i).take n := by
  rw [List.drop_append_of_le_length (by omega), List.take_append_of_le_length (by simp; omega)]
theorem chain_append (l p : List UInt8) : ∀ k, 64 * k ≤ l.length → S2.chain (l ++ p) k = S2.chain l k
  | 0, _ => rfl
  | k + 1, h => by
    rw [S2.chain, S2.chain, chain_append l p k (by omega), drop_take_append l p (64 * k) 64 (by omega)]
theorem chain_snoc (l p : List UInt8) (k : Nat) (h : 64 * k ≤ l.length) : S2.chain (l ++ p) (k + 1) = S2.press (S2.chain l k) (((l ++ p).drop (64 * k)).take 64) := by
  rw [S2.chain, chain_append l p k h]

/-- copying bytes into a row: as many as there is room for -/
theorem run_copy_bytes {P : Program} (w : World) (dT sT ty elem : TypeId) (g o dLen dCap : Nat) (s : ByteArray) (cur : Array Value) (t : TypeId)
    (hu : P.underlying dT = some (.slice elem)) (hs : (P.info? elem).map (·.size) = some 1) (hg : w.heap[g]? = some (.cells cur t (0, 0))) (n : Nat) (hn : n = min s.size dLen) (hfit : o + n ≤ cur.size) :
    (Builtin.copy_ #[dT, sT] ty #[.slice (some ⟨g, o, none⟩) dLen dCap, .string s]).run P w =
      .ok (.int .i64 n) (w.setRow g (cur.toList.take o ++ Lib.byteCells (s.data.toList.take n) ++ cur.toList.drop (o + n)).toArray) := by
  have hlen : (Lib.byteCells (s.data.toList.take n)).length = n := by rw [Lib.byteCells_length, List.length_take, ← Lib.size_eq]; omega
  have hst := run_storeCells_at P g o t (Lib.byteCells (s.data.toList.take n)) 0 cur w hg (by rw [hlen]; simpa using hfit) (Lib.byteCells_one _)
  have hmin : Nat.min s.size dLen = n := hn.symm
  have htk : List.take n (List.map (fun b : UInt8 => Value.int IntKind.u8 (b.toNat : Int)) s.data.toList) = Lib.byteCells (s.data.toList.take n) := by
    rw [← List.map_take]; rfl
  rw [hlen] at hst
  simp only [Nat.add_zero] at hst
  cases hq : P.info? elem with
  | none => simp [hq] at hs
  | some i =>
    simp [Builtin.copy_, run_underlying hu, Builtin.lenOf, Builtin.firstCells, sizeOf, typeInfo, hq, hmin]
    rw [htk, hst]
    simp [Result.andThen, goInt]
theorem byteCells_take (l : List UInt8) (n : Nat) : (Lib.byteCells l).take n = Lib.byteCells (l.take n) := by simp [Lib.byteCells, List.map_take]
theorem byteCells_drop (l : List UInt8) (n : Nat) : (Lib.byteCells l).drop n = Lib.byteCells (l.drop n) := by simp [Lib.byteCells, List.map_drop]
/-- .. into a state -/
theorem sts_copy (x : S2.Ch) (r : List UInt8) (n h m : Nat) (p : List UInt8) (hr : r.length = 64) (hp : p.length = m) (hm : h + m ≤ 64) :
    ((sts x r n).toList.take (8 + h) ++ Lib.byteCells p ++ (sts x r n).toList.drop (8 + h + m)).toArray = sts x (r.take h ++ p ++ r.drop (h + m)) n := by
  have h5 := c8_len x
  have hb : (Lib.byteCells r).length = 64 := by rw [Lib.byteCells_length, hr]
  unfold sts
  congr 1
  simp only [List.append_assoc]
  rw [List.take_append, List.drop_append, h5, List.take_of_length_le (by omega), List.drop_eq_nil_of_le (by omega), show 8 + h - 8 = h by omega, show 8 + h + m - 8 = h + m by omega,
    List.take_append_of_le_length (by omega), List.drop_append_of_le_length (by omega), byteCells_take, byteCells_drop]
  simp [Lib.byteCells]

theorem wp_load_chain {o : Oper} {a : Act} {w : World} {K : Act → World → Prop} {Q : Exit → Act → World → Prop} (x : Operand) (ho : o.op = .load 87 x) (b : Nat) (hx : a.eval x = .pointer (some ⟨b, 0, none⟩))
    (X : S2.Ch) (r : List UInt8) (n : Nat) (hg : w.heap[b]? = some (.cells (sts X r n) 92 (0, 0))) (h : K (a.put o.dst (.agg (c8 X))) w) : o.wp Tryd.prog a w K Q := by
  unfold Oper.wp execOp
  simp only [ho, hx, Instr.loadAt, Instr.sureAddr, Sem.run_bind, Sem.run_pure, Result.andThen_ok, run_load_chain w b X r n (0, 0) hg]
  exact h
theorem wp_store_chain {o : Oper} {a : Act} {w : World} {K : Act → World → Prop} {Q : Exit → Act → World → Prop} (x y : Operand) (ho : o.op = .store 87 x y) (b : Nat) (Y : S2.Ch) (hx : a.eval x = .pointer (some ⟨b, 0, none⟩)) (hy : a.eval y = .agg (c8 Y))
    (X : S2.Ch) (r : List UInt8) (n : Nat) (hg : w.heap[b]? = some (.cells (sts X r n) 92 (0, 0))) (h : K (a.put o.dst undef) (w.setRow b (sts Y r n))) : o.wp Tryd.prog a w K Q := by
  unfold Oper.wp execOp
  simp only [ho, hx, hy, Instr.storeAt, Instr.sureAddr, Sem.run_bind, Sem.run_pure, Result.andThen_ok, run_store_chain w b X Y r n hg]
  exact h
theorem sts_text (w : World) (b : Nat) (X : S2.Ch) (r : List UInt8) (n : Nat) (hr : r.length = 64) (hg : w.heap[b]? = some (.cells (sts X r n) 92 (0, 0))) :
    (convert 41 9 (.slice (some ⟨b, 8, none⟩) 64 64)).run Tryd.prog w = .ok (.string ⟨r.toArray⟩) w := by
  have h := run_convert_bytes_arg w 41 5 Tryd.underlying41 Tryd.underlying5 b 8 64 64 (r.map fun c => (c.toNat : Int)) (by simp [hr]) (fun i hi => by
    rw [cell_of_row w b (8 + i) _ _ _ hg, sts_rest _ _ _ _ (by omega)]
    simp [List.getD, List.getElem?_eq_getElem (show i < r.length by omega)]) 9 Tryd.underlying9
  rw [h]
  simp [strOfNums, Function.comp_def]

theorem grown_setRow {w wr : World} {b : Nat} (h : w.grownBy wr (some b)) (c : Array Value) : w.grownBy (wr.setRow b c) (some b) :=
  ⟨h.os, h.tape, h.output, by simpa using h.size, fun k hk hne => (setRow_other _ _ _ _ (fun e => hne (by rw [e]))).trans (h.block k hk hne)⟩
theorem grown_below {w wr w1 : World} {b : Nat} (h : w.grownBy wr (some b)) (hb : Below wr.heap.size wr w1) : w.grownBy w1 (some b) :=
  ⟨hb.os.trans h.os, hb.tape.trans h.tape, hb.output.trans h.output, Nat.le_trans h.size hb.size, fun k hk hne => (hb.block k (Nat.lt_of_lt_of_le hk h.size)).trans (h.block k hk hne)⟩

/-- a state between: k blocks of L are in the chain, h bytes of the next lie in rest, P is what is still to be told -/
structure Mid (w wr : World) (b : Nat) (L : List UInt8) (k h : Nat) (P : ByteArray) : Prop where
  grown : w.grownBy wr (some b)
  row : ∃ r : List UInt8, r.length = 64 ∧ r.take h = (L.drop (64 * k)).take h ∧ wr.heap[b]? = some (.cells (sts (S2.chain L k) r L.length) 92 (0, 0))
  pos : 64 * k + h + P.size = L.length
  text : P.data.toList = L.drop (64 * k + h)
  small : h = 0 ∨ h + P.size < 64
section
variable {w wr w1 : World} {b k h : Nat} {L : List UInt8} {P : ByteArray}
theorem extract_list (P : ByteArray) (i j : Nat) : (P.extract i j).data.toList = (P.data.toList.drop i).take (j - i) := by simp [List.extract_eq_take_drop]
/-- a block more -/
theorem Mid.block (hm : Mid w wr b L k h P) (h64 : 64 ≤ P.size) (hb : Below wr.heap.size wr w1) :
    ∃ r, r.length = 64 ∧ w1.heap[b]? = some (.cells (sts (S2.chain L k) r L.length) 92 (0, 0)) ∧ Mid w (w1.setRow b (sts (S2.press (S2.chain L k) (P.extract 0 64).data.toList) r L.length)) b L (k + 1) 0 (P.extract 64 P.size) := by
  obtain ⟨hg, ⟨r, hr, hrt, hrow⟩, hpos, htext, hsmall⟩ := hm
  have h0 : h = 0 := by omega
  subst h0
  have hlt := (Array.getElem?_eq_some_iff.1 hrow).1
  have hrow1 : w1.heap[b]? = some (.cells (sts (S2.chain L k) r L.length) 92 (0, 0)) := by rw [hb.block _ hlt]; exact hrow
  refine ⟨r, hr, hrow1, grown_setRow (grown_below hg hb) _, ⟨r, hr, by simp, ?_⟩, by rw [ByteArray.size_extract]; omega, ?_, .inl rfl⟩
  · rw [setRow_heap _ _ _ _ _ _ hrow1, extract_list, htext]
    rfl
  · rw [extract_list, htext, List.drop_drop, List.take_of_length_le (by simp; omega)]
    congr 1
/-- the last bytes are laid down -/
theorem Mid.ks (hm : Mid w wr b L k h P) (hK : Ks w) (hG : 1 < b) : Ks wr := hK.grown hm.grown (fun e => by injection e with e; omega)
theorem Mid.done (hm : Mid w wr b L k h P) (hK : Ks w) (hG : 1 < b) (h64 : P.size < 64) :
    ∃ cur : Array Value, wr.heap[b]? = some (.cells cur 92 (0, 0)) ∧ 8 + h + P.size ≤ cur.size ∧ St (wr.setRow b (cur.toList.take (8 + h) ++ Lib.byteCells (P.data.toList.take P.size) ++ cur.toList.drop (8 + h + P.size)).toArray) b L ∧
      ∀ c, w.grownBy (wr.setRow b c) (some b) := by
  obtain ⟨hg, ⟨r, hr, hrt, hrow⟩, hpos, htext, hsmall⟩ := hm
  have hk : L.length / 64 = k := by omega
  have hk2 : L.length % 64 = h + P.size := by omega
  have hPl : P.data.toList.length = P.size := by simp
  refine ⟨_, hrow, by rw [sts_size _ _ _ hr]; omega, ⟨hK.grown (grown_setRow hg _) (fun e => by injection e with e; omega), hG, r.take h ++ P.data.toList ++ r.drop (h + P.size), by simp [hr]; omega, ?_, ?_⟩, fun c => grown_setRow hg c⟩
  · have hl : (r.take h ++ P.data.toList).length = h + P.size := by simp [hr]; omega
    rw [hk, hk2, List.take_append_of_le_length (by omega), List.take_of_length_le (by omega), hrt, htext, ← List.drop_drop, List.take_append_drop]
  · rw [setRow_heap _ _ _ _ _ _ hrow, hk, List.take_of_length_le (l := P.data.toList) (by omega), sts_copy _ _ _ _ _ _ hr hPl (by omega)]
end
end Go.Proofs.YtmbbigmnliiadaaDoor.Ho
namespace Go.Proofs.YtmbbigmnliiadaaDoor.Ho
open Go.RowKit Hs
set_option linter.unusedVariables false

theorem fill_block (l p r : List UInt8) (q hd : Nat) (hl : l.length = 64 * q + hd) (h64 : hd ≤ 64) (hp : 64 ≤ hd + p.length) (hr : r.length = 64) (hrt : r.take hd = l.drop (64 * q)) :
    r.take hd ++ p.take (64 - hd) ++ r.drop (hd + (64 - hd)) = ((l ++ p).drop (64 * q)).take 64 := by
  rw [show r.drop (hd + (64 - hd)) = [] from List.drop_eq_nil_of_le (by omega), List.append_nil, hrt, List.drop_append_of_le_length (by omega), List.take_append, List.take_of_length_le (l := l.drop (64 * q)) (by rw [List.length_drop]; omega), List.length_drop]
  congr 2
  omega
theorem told_more {w : World} {b : Nat} {X : S2.Ch} {r : List UInt8} {n : Nat} (m : Nat) (hr : r.length = 64) (hg : w.heap[b]? = some (.cells (sts X r n) 92 (0, 0))) :
    (w.setCell ⟨b, 72, none⟩ (.int .u64 m)).heap[b]? = some (.cells (sts X r m) 92 (0, 0)) := by
  rw [heap_setCell_same w b 72 _ _ _ hg, sts_set _ _ _ _ hr]
theorem grown_told (w : World) (b : Nat) (v : Value) : w.grownBy (w.setCell ⟨b, 72, none⟩ v) (some b) := Lib.grownBy_setCell w b 72 v

theorem tail_list (l p : List UInt8) (q hd m : Nat) (hl : l.length = 64 * q + hd) (hm : 64 - hd = m) (h64 : hd ≤ 64) : p.drop m = (l ++ p).drop (64 * (q + 1) + 0) := by
  rw [List.drop_append, show l.drop (64 * (q + 1) + 0) = [] from List.drop_eq_nil_of_le (by omega), List.nil_append]
  congr 1
  omega
theorem grown_drew {w wr w1 : World} {b : Nat} (h : w.grownBy wr (some b)) (hb : Below wr.heap.size wr.drew w1) : w.grownBy w1 (some b) :=
  grown_below h ⟨hb.os, hb.tape, hb.output, hb.size, hb.block⟩
theorem slice_from (w : World) (b h : Nat) (hh : h < 64) : (Instr.sliceAt 89 (.pointer (some ⟨b, 8, none⟩)) (some (.int .i64 h)) none none).run Tryd.prog w = .ok (.slice (some ⟨b, 8 + h, none⟩) (64 - h) (64 - h)) w := by
  have hl : Tryd.prog.arrayLen 89 = 64 := by kernel_rfl
  have he : Tryd.prog.elem 89 = 5 := by kernel_rfl
  rw [run_sliceAt_array_l (P := Tryd.prog) w 89 ⟨b, 8, none⟩ (by rw [hl, he]; exact Tryd.underlying89) .i64 h (by omega) (by rw [hl]; omega), hl, he, Tryd.sizeOf5]
  show Result.ok (slicedAt _ _ _ _ _) w = _
  rw [slicedAt, if_neg (by omega)]
  simp [Addr.add]
theorem slice_all (w : World) (b : Nat) : (Instr.sliceAt 89 (.pointer (some ⟨b, 8, none⟩)) none none none).run Tryd.prog w = .ok (.slice (some ⟨b, 8, none⟩) 64 64) w := by
  have hl : Tryd.prog.arrayLen 89 = 64 := by kernel_rfl
  have he : Tryd.prog.elem 89 = 5 := by kernel_rfl
  rw [run_sliceAt_array_all (P := Tryd.prog) w 89 ⟨b, 8, none⟩ (by rw [hl, he]; exact Tryd.underlying89), hl, he, Tryd.sizeOf5]
  simp [slicedAt, Addr.add]
theorem info5s : (Tryd.prog.info? 5).map (·.size) = some 1 := by kernel_rfl

set_option maxHeartbeats 2000000 in
set_option maxRecDepth 100000 in
theorem take_any (w : World) (b : Nat) (l : List UInt8) (p : ByteArray) (h : St w b l) (hs : l.length + p.size ≤ 10000000) :
    Calls Tryd.prog 51 #[.pointer (some ⟨b, 0, none⟩), .string p] w fun e w' => e = .returned (.tuple #[]) ∧ St w' b (l ++ p.data.toList) ∧ w.grownBy w' (some b) := by
  obtain ⟨hK, hG, r, hr, hrt, hg⟩ := h
  have HK := Lib.hid hK
  have HKG := Lib.hid hG
  clear hK hG
  obtain ⟨q, hq⟩ : ∃ q, l.length / 64 = q := ⟨_, rfl⟩
  obtain ⟨hd, hhd⟩ : ∃ hd, l.length % 64 = hd := ⟨_, rfl⟩
  have hd64 : hd < 64 := by omega
  have hll : l.length = 64 * q + hd := by omega
  rw [hq] at hrt hg
  rw [hhd] at hrt
  have hpl : p.data.toList.length = p.size := by simp
  have hLl : (l ++ p.data.toList).length = l.length + p.size := by rw [List.length_append, hpl]
  have ct := cell_of_row w b 72 _ _ _ hg
  rw [sts_told _ _ _ hr] at ct
  have cf := frozen_of_row w b 72 _ _ hg
  have hrow := told_more (l.length + p.size) hr hg
  have hgr := grown_told w b (.int .u64 (l.length + p.size : Nat))
  rw [← chain_append l p.data.toList q (by omega)] at hrow
  have hmid : Mid w (w.setCell ⟨b, 72, none⟩ (.int .u64 (l.length + p.size : Nat))) b (l ++ p.data.toList) q hd p ∨ 64 ≤ hd + p.size ∧ 0 < hd := by
    by_cases h1 : 64 ≤ hd + p.size ∧ 0 < hd
    · exact .inr h1
    · refine .inl ⟨hgr, ⟨r, hr, ?_, ?_⟩, by rw [hLl]; omega, ?_, by omega⟩
      · rw [hrt, List.drop_append_of_le_length (by omega), List.take_append_of_le_length (by simp; omega), List.take_of_length_le (by simp; omega)]
      · rw [hLl]; exact hrow
      · rw [← hll, List.drop_left]
  generalize hn : l.length = n at *
  have HR := Lib.hid hrow
  have HGR := Lib.hid hgr
  have HMID := Lib.hid hmid
  have HLL := Lib.hid hLl
  have HRT := Lib.hid hrt
  have HHD := Lib.hid hhd
  have HQ := Lib.hid hq
  have HN := Lib.hid hn
  have hm0 : (n : Int) % 64 = hd := by omega
  have HL := Lib.hid hll
  clear hrow hgr hmid hLl hrt hhd hq hn hpl hg hll
  go_enter Tryd.func51, Tryd.ntmps51
  go_upto_region 2 with fail
  go_cut [30] (fun s30 wx => s30 = .bool (decide (64 ≤ hd + p.size ∧ 0 < hd)) ∧ wx = w.setCell ⟨b, 72, none⟩ (.int .u64 (n + p.size : Nat)))
  case first =>
    by_cases h0 : 0 < hd
    · have h0' : (0 : Int) < hd := by omega
      by_cases h1 : 64 ≤ hd + p.size
      · have h1' : (64 : Int) ≤ hd + p.size := by omega
        go_wp2
        go_meet
        exact ⟨by simp [h0, h1], rfl⟩
      · have h1' : ¬ (64 : Int) ≤ hd + p.size := by omega
        go_wp2
        go_meet
        exact ⟨by simp [h0, h1], rfl⟩
    · have h0' : ¬ (0 : Int) < hd := by omega
      go_wp2
      go_meet
      exact ⟨by simp [h0], rfl⟩
  case rest =>
    obtain ⟨rfl, rfl⟩ := hcut
    generalize hW1 : w.setCell ⟨b, 72, none⟩ (.int .u64 (n + p.size : Nat)) = w1 at *
    clear ct cf hW1
    go_upto_if 30 with fail
    go_cut [1, 4] (fun s1 s4 wx => ∃ (k h : Nat) (P : ByteArray), s1 = .string P ∧ s4 = .int .i64 h ∧ Mid w wx b (l ++ p.data.toList) k h P)
    case first =>
      by_cases hc : 64 ≤ hd + p.size ∧ 0 < hd
      · have hcb : decide (64 ≤ hd + p.size ∧ 0 < hd) = true := by simp [hc]
        obtain ⟨m, hm⟩ : ∃ m, 64 - hd = m := ⟨_, rfl⟩
        obtain ⟨o, ho⟩ : ∃ o, 8 + hd = o := ⟨_, rfl⟩
        have hsl := fun W => slice_from W b hd hd64
        rw [hm, ho] at hsl
        have hcp := fun ty => run_copy_bytes (P := Tryd.prog) w1 41 9 ty 5 b o m m p _ 92 Tryd.underlying41 info5s HR.out m (by omega) (by rw [sts_size _ _ _ hr]; omega)
        have hfb := fill_block l p.data.toList r q hd (by rw [HN.out, HL.out]) (by omega) (by simpa using hc.1) hr HRT.out
        rw [hm] at hfb
        rw [← ho, sts_copy _ _ _ _ _ _ hr (by simp; omega) (by omega), hfb] at hcp
        rw [ho] at hcp
        have hbl : (((l ++ p.data.toList).drop (64 * q)).take 64).length = 64 := by rw [← hfb]; simp [hr]; omega
        have hch : S2.chain (l ++ p.data.toList) (q + 1) = S2.press (S2.chain (l ++ p.data.toList) q) (((l ++ p.data.toList).drop (64 * q)).take 64) := rfl
        generalize hBB : ((l ++ p.data.toList).drop (64 * q)).take 64 = B at *
        have hrow2 := setRow_heap _ _ _ (sts (S2.chain (l ++ p.data.toList) q) B (n + p.size)) _ _ HR.out
        have hg2 : w.grownBy (w1.setRow b (sts (S2.chain (l ++ p.data.toList) q) B (n + p.size))) (some b) := grown_setRow HGR.out _
        have HM := Lib.hid hm
        have HO := Lib.hid ho
        have HC := Lib.hid hch
        have HB := Lib.hid hbl
        have HR2 := Lib.hid hrow2
        have HG2 := Lib.hid hg2
        clear hm ho hfb hch hbl hrow2 hg2 hBB
        go_upto_region 4 with fail
        generalize w1.setRow b (sts (S2.chain (l ++ p.data.toList) q) B (n + p.size)) = w2 at *
        have hcv := sts_text w2.drew b _ B _ HB.out HR2.out
        have hsa := fun W => slice_all W b
        have hblt := (Array.getElem?_eq_some_iff.1 HR2.out).1
        have hBs : (⟨B.toArray⟩ : ByteArray).size = 64 := by rw [Lib.size_eq]; simpa using HB.out
        have HBS := Lib.hid hBs
        have KW2 := Lib.hid (Ks.drew (HK.out.grown HG2.out (fun e => by have := HKG.out; injection e with e; omega)))
        have hmp : m ≤ p.size := by have := HM.out; omega
        clear hBs hcp hsl
        generalize S2.chain (l ++ p.data.toList) q = X at *
        refine wp_region_any (by kernel_rfl) ?_
        change wpAny _ _ _ _ _ _ _ (World.drew _)
        refine wpAny_take (i := 0) (v := .pointer (some ⟨b, 0, none⟩)) rfl (by kernel_rfl) (by kernel_rfl) (by kernel_rfl) (fun _ _ _ h => h) (Or.inl ⟨by rfl, fun w => by go_simp⟩) ?_
        go_simp
        refine wpAny_take (i := 1) (v := .pointer (some ⟨b, 0, none⟩)) rfl (by kernel_rfl) (by kernel_rfl) (by kernel_rfl) (fun _ _ _ h => h) (Or.inl ⟨by rfl, fun w => by go_simp⟩) ?_
        go_simp
        refine wpAny_take (i := 2) (v := .pointer (some ⟨b, 0, none⟩)) rfl (by kernel_rfl) (by kernel_rfl) (by kernel_rfl) (fun _ _ _ h => h) (Or.inl ⟨by rfl, fun w => by go_simp⟩) ?_
        go_simp
        refine wpAny_take (i := 3) (v := .pointer (some ⟨b, 0, none⟩)) rfl (by kernel_rfl) (by kernel_rfl) (by kernel_rfl) (fun _ _ _ h => h) (Or.inl ⟨by rfl, fun w => by go_simp⟩) ?_
        go_simp
        refine wpAny_take (i := 5) (v := .pointer (some ⟨b, 0, none⟩)) rfl (by kernel_rfl) (by kernel_rfl) (by kernel_rfl) (fun _ _ _ h => h) (Or.inl ⟨by rfl, fun w => by go_simp⟩) ?_
        go_simp
        refine wpAny_take (i := 6) (v := .pointer (some ⟨b, 0, none⟩)) rfl (by kernel_rfl) (by kernel_rfl) (by kernel_rfl) (fun _ _ _ h => h) (Or.inl ⟨by rfl, fun w => by go_simp⟩) ?_
        go_simp
        refine wpAny_take (i := 7) (v := .pointer (some ⟨b, 8, none⟩)) rfl (by kernel_rfl) (by kernel_rfl) (by kernel_rfl) (fun _ _ _ h => h) (Or.inl ⟨by rfl, fun w => by go_simp⟩) ?_
        go_simp
        refine wpAny_take (i := 8) (v := .slice (some ⟨b, 8, none⟩) 64 64) rfl (by kernel_rfl) (by kernel_rfl) (by kernel_rfl) (fun _ _ _ h => h) (Or.inl ⟨by rfl, fun w => by go_simp⟩) ?_
        go_simp
        refine wpAny_ready (rs := [4, 9]) (by kernel_rfl) (by simp) ?_
        refine AllReady.cons rfl (fun K hK => ?_) (AllReady.cons rfl (fun K hK => ?_) AllReady.nil)
        · rw [if_pos (by rfl)]
          refine wp_load_chain (.tmp 41) rfl b rfl X B (n + p.size) HR2.out ?_
          refine hK _ _ ?_
          clear hK K
          go_simp
          refine wpAny_ready (rs := [9]) (by kernel_rfl) (by simp) ?_
          refine AllReady.cons rfl (fun K hK => ?_) AllReady.nil
          go_simp
          refine hK _ _ ?_
          clear hK K
          refine wpAny_ready (rs := [10]) (by kernel_rfl) (by simp) ?_
          refine AllReady.cons rfl (fun K hK => ?_) AllReady.nil
          go_simp
          refine (press_any X ⟨B.toArray⟩ _ HBS.out KW2.out).mono ?_
          rintro e w3 ⟨rfl, hb3⟩
          refine hK _ _ ?_
          clear hK K
          refine wpAny_take (i := 11) (v := .pointer (some ⟨b, 0, none⟩)) rfl (by kernel_rfl) (by kernel_rfl) (by kernel_rfl) (fun _ _ _ h => h) (Or.inl ⟨by rfl, fun w => by go_simp⟩) ?_
          go_simp
          refine wpAny_take (i := 12) (v := .pointer (some ⟨b, 0, none⟩)) rfl (by kernel_rfl) (by kernel_rfl) (by kernel_rfl) (fun _ _ _ h => h) (Or.inl ⟨by rfl, fun w => by go_simp⟩) ?_
          go_simp
          refine wpAny_ready (rs := [13]) (by kernel_rfl) (by simp) ?_
          refine AllReady.cons rfl (fun K hK => ?_) AllReady.nil
          rw [if_pos (by rfl)]
          have hrow3 : w3.heap[b]? = some (.cells (sts X B (n + p.size)) 92 (0, 0)) := by rw [hb3.block _ hblt]; exact HR2.out
          refine wp_store_chain (.tmp 50) (.tmp 48) rfl b _ rfl rfl X B (n + p.size) hrow3 ?_
          refine hK _ _ ?_
          clear hK K
          go_simp
          refine wpAny_done (by kernel_rfl) ?_ _
          have hm3 : Mid w (w3.setRow b (sts (S2.press X B) B (n + p.size))) b (l ++ p.data.toList) (q + 1) 0 (p.extract m p.size) := by
            refine ⟨grown_setRow (grown_drew HG2.out hb3) _, ⟨B, HB.out, by simp, ?_⟩, ?_, ?_, .inl rfl⟩
            · rw [setRow_heap _ _ _ _ _ _ hrow3, HC.out, HLL.out]
            · rw [ByteArray.size_extract, HLL.out, HL.out]; have := HM.out; omega
            · rw [extract_list, List.take_of_length_le (by simp)]
              exact tail_list l _ q hd m (HN.out.trans HL.out) HM.out (by omega)
          have HM3 := Lib.hid hm3
          clear hm3 hrow3 hb3
          go_wp2
          go_meet
          exact ⟨q + 1, 0, p.extract m p.size, rfl, rfl, HM3.out⟩
        · go_simp
          refine hK _ _ ?_
          clear hK K
          refine wpAny_ready (rs := [4]) (by kernel_rfl) (by simp) ?_
          refine AllReady.cons rfl (fun K hK => ?_) AllReady.nil
          rw [if_pos (by rfl)]
          refine wp_load_chain (.tmp 41) rfl b rfl X B (n + p.size) HR2.out ?_
          refine hK _ _ ?_
          clear hK K
          go_simp
          refine wpAny_ready (rs := [10]) (by kernel_rfl) (by simp) ?_
          refine AllReady.cons rfl (fun K hK => ?_) AllReady.nil
          go_simp
          refine (press_any X ⟨B.toArray⟩ _ HBS.out KW2.out).mono ?_
          rintro e w3 ⟨rfl, hb3⟩
          refine hK _ _ ?_
          clear hK K
          refine wpAny_take (i := 11) (v := .pointer (some ⟨b, 0, none⟩)) rfl (by kernel_rfl) (by kernel_rfl) (by kernel_rfl) (fun _ _ _ h => h) (Or.inl ⟨by rfl, fun w => by go_simp⟩) ?_
          go_simp
          refine wpAny_take (i := 12) (v := .pointer (some ⟨b, 0, none⟩)) rfl (by kernel_rfl) (by kernel_rfl) (by kernel_rfl) (fun _ _ _ h => h) (Or.inl ⟨by rfl, fun w => by go_simp⟩) ?_
          go_simp
          refine wpAny_ready (rs := [13]) (by kernel_rfl) (by simp) ?_
          refine AllReady.cons rfl (fun K hK => ?_) AllReady.nil
          rw [if_pos (by rfl)]
          have hrow3 : w3.heap[b]? = some (.cells (sts X B (n + p.size)) 92 (0, 0)) := by rw [hb3.block _ hblt]; exact HR2.out
          refine wp_store_chain (.tmp 50) (.tmp 48) rfl b _ rfl rfl X B (n + p.size) hrow3 ?_
          refine hK _ _ ?_
          clear hK K
          go_simp
          refine wpAny_done (by kernel_rfl) ?_ _
          have hm3 : Mid w (w3.setRow b (sts (S2.press X B) B (n + p.size))) b (l ++ p.data.toList) (q + 1) 0 (p.extract m p.size) := by
            refine ⟨grown_setRow (grown_drew HG2.out hb3) _, ⟨B, HB.out, by simp, ?_⟩, ?_, ?_, .inl rfl⟩
            · rw [setRow_heap _ _ _ _ _ _ hrow3, HC.out, HLL.out]
            · rw [ByteArray.size_extract, HLL.out, HL.out]; have := HM.out; omega
            · rw [extract_list, List.take_of_length_le (by simp)]
              exact tail_list l _ q hd m (HN.out.trans HL.out) HM.out (by omega)
          have HM3 := Lib.hid hm3
          clear hm3 hrow3 hb3
          go_wp2
          go_meet
          exact ⟨q + 1, 0, p.extract m p.size, rfl, rfl, HM3.out⟩
      · have hcb : decide (64 ≤ hd + p.size ∧ 0 < hd) = false := by simpa using hc
        go_wp2_with fail
        go_meet
        exact ⟨q, hd, p, rfl, rfl, HMID.out.resolve_right hc⟩
    case rest =>
      obtain ⟨k, h, P, rfl, rfl, hmid⟩ := hcut
      clear HR HGR HMID HRT HHD HQ HN HL hm0
      generalize hLL : l ++ p.data.toList = L at *
      have HLE := Lib.hid hLL
      have HM := Lib.hid hmid
      clear hmid hLL
      go_upto_block 0 with fail
      go_wp2_with fail
      go_loopg [1] P.size (fun g s1 wr => ∃ (k : Nat) (P : ByteArray), g = P.size ∧ s1 = .string P ∧ Mid w wr b L k h P)
      case atStart => exact ⟨k, P, rfl, rfl, HM.out⟩
      case round =>
        obtain ⟨k, P, rfl, rfl, hmid⟩ := hrel
        clear HM
        have hPs : P.size ≤ 10000000 := by have := hmid.pos; rw [HLL.out] at this; omega
        by_cases h64 : 64 ≤ P.size
        · have h64' : (64 : Int) ≤ P.size := by omega
          have hblk := fun w1 => hmid.block (w1 := w1) h64
          have KWR := Lib.hid (show Ks wr.drew from hmid.ks HK.out HKG.out)
          have HH0 := Lib.hid (show h = 0 by rcases hmid.small with h1 | h1 <;> omega)
          obtain ⟨r', hr', hrt', hrow'⟩ := hmid.row
          have hblt := (Array.getElem?_eq_some_iff.1 hrow').1
          generalize hX : S2.chain L k = X at *
          have HROW := Lib.hid hrow'
          have HBK := Lib.hid hblk
          have HX := Lib.hid hX
          clear hrow' hblk hX hrt' hmid
          go_wp2_with fail
          refine wp_region_any (by kernel_rfl) ?_
          change wpAny _ _ _ _ _ _ _ (World.drew _)
          refine wpAny_take (i := 0) (v := .pointer (some ⟨b, 0, none⟩)) rfl (by kernel_rfl) (by kernel_rfl) (by kernel_rfl) (fun _ _ _ h => h) (Or.inl ⟨by rfl, fun w => by go_simp⟩) ?_
          go_simp
          refine wpAny_take (i := 1) (v := .pointer (some ⟨b, 0, none⟩)) rfl (by kernel_rfl) (by kernel_rfl) (by kernel_rfl) (fun _ _ _ h => h) (Or.inl ⟨by rfl, fun w => by go_simp⟩) ?_
          go_simp
          refine wpAny_take (i := 2) (v := .pointer (some ⟨b, 0, none⟩)) rfl (by kernel_rfl) (by kernel_rfl) (by kernel_rfl) (fun _ _ _ h => h) (Or.inl ⟨by rfl, fun w => by go_simp⟩) ?_
          go_simp
          refine wpAny_take (i := 3) (v := .pointer (some ⟨b, 0, none⟩)) rfl (by kernel_rfl) (by kernel_rfl) (by kernel_rfl) (fun _ _ _ h => h) (Or.inl ⟨by rfl, fun w => by go_simp⟩) ?_
          go_simp
          refine wpAny_take (i := 5) (v := .string P) rfl (by kernel_rfl) (by kernel_rfl) (by kernel_rfl) (fun _ _ _ h => h) (Or.inl ⟨by rfl, fun w => by go_simp⟩) ?_
          go_simp
          refine wpAny_take (i := 6) (v := .string (P.extract 0 64)) rfl (by kernel_rfl) (by kernel_rfl) (by kernel_rfl) (fun _ _ _ h => h) (Or.inl ⟨by rfl, fun w => by go_simp⟩) ?_
          go_simp
          refine wpAny_ready (rs := [4]) (by kernel_rfl) (by simp) ?_
          refine AllReady.cons rfl (fun K hK => ?_) AllReady.nil
          rw [if_pos (by rfl)]
          refine wp_load_chain (.tmp 60) rfl b rfl X r' L.length HROW.out ?_
          refine hK _ _ ?_
          clear hK K
          go_simp
          refine wpAny_ready (rs := [7]) (by kernel_rfl) (by simp) ?_
          refine AllReady.cons rfl (fun K hK => ?_) AllReady.nil
          go_simp
          refine (press_any X (P.extract 0 64) _ (by rw [ByteArray.size_extract]; omega) KWR.out).mono ?_
          rintro e w3 ⟨rfl, hb3⟩
          refine hK _ _ ?_
          clear hK K
          refine wpAny_take (i := 8) (v := .pointer (some ⟨b, 0, none⟩)) rfl (by kernel_rfl) (by kernel_rfl) (by kernel_rfl) (fun _ _ _ h => h) (Or.inl ⟨by rfl, fun w => by go_simp⟩) ?_
          go_simp
          refine wpAny_take (i := 9) (v := .pointer (some ⟨b, 0, none⟩)) rfl (by kernel_rfl) (by kernel_rfl) (by kernel_rfl) (fun _ _ _ h => h) (Or.inl ⟨by rfl, fun w => by go_simp⟩) ?_
          go_simp
          refine wpAny_ready (rs := [10]) (by kernel_rfl) (by simp) ?_
          refine AllReady.cons rfl (fun K hK => ?_) AllReady.nil
          rw [if_pos (by rfl)]
          obtain ⟨r2, hr2, hrow2, hmid2⟩ := HBK.out w3 ⟨hb3.os, hb3.tape, hb3.output, hb3.size, hb3.block⟩
          refine wp_store_chain (.tmp 66) (.tmp 64) rfl b _ rfl rfl X r2 L.length hrow2 ?_
          refine hK _ _ ?_
          clear hK K
          go_simp
          refine wpAny_done (by kernel_rfl) ?_ _
          have HM2 := Lib.hid hmid2
          clear hmid2 hrow2 hb3
          go_wp2
          go_roundg (P.extract 64 P.size).size
          case rel =>
            refine ⟨k + 1, P.extract 64 P.size, rfl, rfl, ?_⟩
            have h3 := HM2.out
            rw [show (P.extract 0 64).data.toList = P.data.toList.take 64 by rw [extract_list]; rfl] at h3
            rw [HH0.out]
            exact h3
          case measure => rw [ByteArray.size_extract]; omega
        · have h64' : ¬ (64 : Int) ≤ P.size := by omega
          have hh64 : h < 64 := by rcases hmid.small with h1 | h1 <;> omega
          have hfit := hmid.small
          obtain ⟨cur, hrow, hsz, hst, hgr⟩ := hmid.done HK.out HKG.out (by omega)
          obtain ⟨m, hm⟩ : ∃ m, 64 - h = m := ⟨_, rfl⟩
          obtain ⟨o, ho⟩ : ∃ o, 8 + h = o := ⟨_, rfl⟩
          have hsl := fun W => slice_from W b h hh64
          rw [hm, ho] at hsl
          have hcp := fun ty => run_copy_bytes (P := Tryd.prog) wr 41 9 ty 5 b o m m P _ 92 Tryd.underlying41 info5s hrow P.size (by omega) (by rw [← ho]; exact hsz)
          rw [ho] at hst
          have HST := Lib.hid hst
          have HGR := Lib.hid hgr
          clear hm ho hst hgr hrow hsz hfit hmid
          go_wp2
          rw [← List.append_assoc]
          refine bodyPost_end (v := .tuple #[]) (by simp [results, Tryd.results51]) rfl ⟨rfl, ?_, HGR.out _⟩
          rw [HLE.out]
          exact HST.out
end Go.Proofs.YtmbbigmnliiadaaDoor.Ho
