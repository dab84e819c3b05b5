/-
  Contracts of the program's First, mixed, Step and Back (package sha1), and of the library's RotateLeft32 at the numbers that they hand it.
-/
import Derived.Test.YtpffolohkmokhaaShg
import Derived.StillTailTactics
namespace Go.Proofs.Ytpffolohkmokhaa.Hp
open Go.RowKit Hs
set_option linter.unusedVariables false
attribute [local go_sem] t_and t_or t_xor t_not t_add t_sub t_add_wrap t_sub_wrap

theorem flip_ {P : Program} {f : FuncId} {args : Array Value} {w : World} {v : Value} (h : Calls P f args w fun e w' => e = .returned v ∧ w = w') : Calls P f args w fun e w' => e = .returned v ∧ w' = w :=
  h.mono fun _ _ ⟨he, hw⟩ => ⟨he, hw.symm⟩

theorem rotl1 (x : UInt32) (w : World) : Calls Try.prog 22 #[.int .u32 (tn x), .int .i64 1] w fun e w' => e = .returned (.int .u32 (tn (Sh.rot x 1))) ∧ w = w' := by
  have hx := tn_lt x
  have hx0 := tn_nonneg x
  have hs : tn x * 2 % 4294967296 = tn (x <<< UInt32.ofNat 1) := t_shl x 1 (by omega)
  have hr : tn x / 2147483648 = tn (x >>> UInt32.ofNat 31) := t_shr x 31 (by omega)
  have hb : bits .and .u64 1 31 = 1 := by decide +kernel
  go_enter Try.func22, Try.ntmps22
  go_wp2
  go_ret
  exact ⟨rfl, rfl⟩
theorem rotl5 (x : UInt32) (w : World) : Calls Try.prog 22 #[.int .u32 (tn x), .int .i64 5] w fun e w' => e = .returned (.int .u32 (tn (Sh.rot x 5))) ∧ w = w' := by
  have hx := tn_lt x
  have hx0 := tn_nonneg x
  have hs : tn x * 32 % 4294967296 = tn (x <<< UInt32.ofNat 5) := t_shl x 5 (by omega)
  have hr : tn x / 134217728 = tn (x >>> UInt32.ofNat 27) := t_shr x 27 (by omega)
  have hb : bits .and .u64 5 31 = 5 := by decide +kernel
  go_enter Try.func22, Try.ntmps22
  go_wp2
  go_ret
  exact ⟨rfl, rfl⟩
theorem rotl30 (x : UInt32) (w : World) : Calls Try.prog 22 #[.int .u32 (tn x), .int .i64 30] w fun e w' => e = .returned (.int .u32 (tn (Sh.rot x 30))) ∧ w = w' := by
  have hx := tn_lt x
  have hx0 := tn_nonneg x
  have hs : tn x * 1073741824 % 4294967296 = tn (x <<< UInt32.ofNat 30) := t_shl x 30 (by omega)
  have hr : tn x / 4 = tn (x >>> UInt32.ofNat 2) := t_shr x 2 (by omega)
  have hb : bits .and .u64 30 31 = 30 := by decide +kernel
  go_enter Try.func22, Try.ntmps22
  go_wp2
  go_ret
  exact ⟨rfl, rfl⟩
theorem rotlm (x : UInt32) (w : World) : Calls Try.prog 22 #[.int .u32 (tn x), .int .i64 (-30)] w fun e w' => e = .returned (.int .u32 (tn (Sh.rot x 2))) ∧ w = w' := by
  have hx := tn_lt x
  have hx0 := tn_nonneg x
  have hs : tn x * 4 % 4294967296 = tn (x <<< UInt32.ofNat 2) := t_shl x 2 (by omega)
  have hr : tn x / 1073741824 = tn (x >>> UInt32.ofNat 30) := t_shr x 30 (by omega)
  have hb : bits .and .u64 18446744073709551586 31 = 2 := by decide +kernel
  have hw : IntKind.u64.wrap (-30) = 18446744073709551586 := by decide +kernel
  go_enter Try.func22, Try.ntmps22
  go_wp2
  go_ret
  exact ⟨rfl, rfl⟩

theorem mixed_any (t : Int) (b c d : UInt32) (w : World) : Calls Try.prog 35 #[.int .u32 (tn b), .int .u32 (tn c), .int .u32 (tn d), .int .i64 t] w fun e w' => e = .returned (.int .u32 (tn (Sh.mix t.toNat b c d))) ∧ w = w' := by
  by_cases h1 : t < 20
  · have hv : Sh.mix t.toNat b c d = ((b &&& c) ||| (~~~b &&& d)) + 0x5a827999 := by rw [Sh.mix, if_pos (by omega)]
    have HV := Lib.hid hv
    clear hv
    go_enter Try.func35, Try.ntmps35
    go_wp2
    go_ret
    exact ⟨ret_int ((k1 _).trans (congrArg tn HV.out.symm)), rfl⟩
  · by_cases h2 : t < 40
    · have hv : Sh.mix t.toNat b c d = (b ^^^ c ^^^ d) + 0x6ed9eba1 := by rw [Sh.mix, if_neg (by omega), if_pos (by omega)]
      have HV := Lib.hid hv
      clear hv
      go_enter Try.func35, Try.ntmps35
      go_wp2
      go_ret
      exact ⟨ret_int ((k2 _).trans (congrArg tn HV.out.symm)), rfl⟩
    · by_cases h3 : t < 60
      · have hv : Sh.mix t.toNat b c d = ((b &&& c) ||| (b &&& d) ||| (c &&& d)) + 0x8f1bbcdc := by rw [Sh.mix, if_neg (by omega), if_neg (by omega), if_pos (by omega)]
        have HV := Lib.hid hv
        clear hv
        go_enter Try.func35, Try.ntmps35
        go_wp2
        go_ret
        exact ⟨ret_int ((k3 _).trans (congrArg tn HV.out.symm)), rfl⟩
      · have hv : Sh.mix t.toNat b c d = (b ^^^ c ^^^ d) + 0xca62c1d6 := by rw [Sh.mix, if_neg (by omega), if_neg (by omega), if_neg (by omega)]
        have HV := Lib.hid hv
        clear hv
        go_enter Try.func35, Try.ntmps35
        go_wp2
        go_ret
        exact ⟨ret_int ((k4 _).trans (congrArg tn HV.out.symm)), rfl⟩

theorem first_any (w : World) : Calls Try.prog 39 #[] w fun e w' => e = .returned (.agg (cs Sh.first)) ∧ Below w.heap.size w w' := by
  rw [cs_first]
  go_enter Try.func39, Try.ntmps39
  go_wp2
  refine bodyPost_ret (v := .agg #[.int .u32 1732584193, .int .u32 4023233417, .int .u32 2562383102, .int .u32 271733878, .int .u32 3285377520]) (by simp [results, Try.results39, go_sem]) rfl ⟨rfl, ?_⟩
  exact (Below.refl _ w).alloc (Nat.le_refl _) _

set_option maxHeartbeats 1000000 in
set_option maxRecDepth 100000 in
theorem step_any (x : Sh.Ch) (t : Int) (v : UInt32) (w : World) :
    Calls Try.prog 16 #[.agg (cs x), .int .i64 t, .int .u32 (tn v)] w fun e w' => e = .returned (.agg (cs (Sh.step x t.toNat v))) ∧ Below w.heap.size w w' := by
  obtain ⟨a, b, c, d, e⟩ := x
  unfold cs
  go_enter Try.func16, Try.ntmps16
  go_wp2_with fail
  refine wp_region_still_tail 27 (by kernel_rfl) (by kernel_rfl) ?_
  simp only [List.take_succ_cons, List.take_zero, List.drop_succ_cons, List.drop_zero]
  change wpStill _ _ (World.drew _) (fun a' => wpList _ _ _ _ a' (World.drew _)) _ _
  iterate 2 still_step
  still_call (flip_ (rotl5 _ _))
  iterate 7 still_step
  still_call (flip_ (mixed_any _ _ _ _ _))
  iterate 10 still_step
  still_call (flip_ (rotl30 _ _))
  iterate 5 still_step
  refine wpStill_nil ?_
  go_wp2
  refine bodyPost_ret (v := .agg (cs (Sh.step ⟨a, b, c, d, e⟩ t.toNat v))) (by simp [results, Try.results16, go_sem, cs, Sh.step]) rfl ⟨rfl, ?_⟩
  refine Below.drew ((Below.alloc ((Below.refl _ w).alloc (Nat.le_refl _) _) (by simp) _))

theorem sub3 (a b c d : UInt32) : a - b - c - d = a - (b + c + d) := by
  apply UInt32.toBitVec_inj.1
  simp only [UInt32.toBitVec_sub, UInt32.toBitVec_add]
  rw [BitVec.sub_sub, BitVec.sub_sub, BitVec.add_assoc]

set_option maxHeartbeats 1000000 in
set_option maxRecDepth 100000 in
theorem back_any (x : Sh.Ch) (t : Int) (v : UInt32) (w : World) :
    Calls Try.prog 17 #[.agg (cs x), .int .i64 t, .int .u32 (tn v)] w fun e w' => e = .returned (.agg (cs (Sh.back x t.toNat v))) ∧ Below w.heap.size w w' := by
  obtain ⟨a, b, c, d, e⟩ := x
  unfold cs
  go_enter Try.func17, Try.ntmps17
  go_wp2_with (go_at_call 22; refine (rotlm _ _).mono ?_; rintro e w' ⟨rfl, rfl⟩)
  refine wp_region_still_tail 24 (by kernel_rfl) (by kernel_rfl) ?_
  simp only [List.take_succ_cons, List.take_zero, List.drop_succ_cons, List.drop_zero]
  change wpStill _ _ (World.drew _) (fun a' => wpList _ _ _ _ a' (World.drew _)) _ _
  iterate 11 still_step
  still_call (flip_ (rotl5 _ _))
  iterate 7 still_step
  still_call (flip_ (mixed_any _ _ _ _ _))
  iterate 4 still_step
  refine wpStill_nil ?_
  go_wp2
  refine bodyPost_ret (v := .agg (cs (Sh.back ⟨a, b, c, d, e⟩ t.toNat v))) (by simp [results, Try.results17, go_sem, cs, Sh.back, sub3]) rfl ⟨rfl, ?_⟩
  refine Below.drew ((Below.alloc ((Below.refl _ w).alloc (Nat.le_refl _) _) (by simp) _))
end Go.Proofs.Ytpffolohkmokhaa.Hp
