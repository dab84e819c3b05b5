/-
  Contracts of the document's Rot, Mix and Step (layer 2): what a call returns, and that nothing that was there has changed.
-/
import Derived.Test.YtpffolohkmokhaaRows
import Derived.Test.YtpffolohkmokhaaShw
import Derived.WalkKit
import Derived.ProofKit
import Derived.Below
import Derived.Lib.Hide
import Derived.Deep.OwnRows
import Derived.Deep.LoopGhost
import Derived.Deep.QuietTactic
import Derived.BigQuiet
import Derived.Deep.RegionHeld3
import Derived.Laws.Rows
namespace Go.Proofs.Ytpffolohkmokhaa.Hs
open Go.RowKit
set_option linter.unusedVariables false
attribute [local go_sem] t_and t_or t_xor t_not t_add t_sub t_add_wrap t_sub_wrap

theorem k1 (x : UInt32) : (tn x + 1518500249) % 4294967296 = tn (x + 0x5a827999) := t_add x 0x5a827999
theorem k2 (x : UInt32) : (tn x + 1859775393) % 4294967296 = tn (x + 0x6ed9eba1) := t_add x 0x6ed9eba1
theorem k3 (x : UInt32) : (tn x + 2400959708) % 4294967296 = tn (x + 0x8f1bbcdc) := t_add x 0x8f1bbcdc
theorem k4 (x : UInt32) : (tn x + 3395469782) % 4294967296 = tn (x + 0xca62c1d6) := t_add x 0xca62c1d6

theorem ret_int {k : IntKind} {a b : Int} (h : a = b) : Ending.returned (.int k a) = .returned (.int k b) := by rw [h]

theorem rot_any (x : UInt32) (n : Nat) (w : World) (h0 : 0 < n) (h : n < 32) : Calls Try.prog 23 #[.int .u32 (tn x), .int .u64 n] w fun e w' => e = .returned (.int .u32 (tn (Sh.rot x n))) ∧ w = w' := by
  have hx := tn_lt x
  have hx0 := tn_nonneg x
  have hs := t_shl x n h
  have hr := t_shr x (32 - n) (by omega)
  go_enter Try.func23, Try.ntmps23
  go_wp2
  go_ret
  exact ⟨rfl, rfl⟩

theorem mix_any (t : Nat) (b c d : UInt32) (w : World) : Calls Try.prog 44 #[.int .i64 t, .int .u32 (tn b), .int .u32 (tn c), .int .u32 (tn d)] w fun e w' => e = .returned (.int .u32 (tn (Sh.mix t b c d))) ∧ w = w' := by
  by_cases h1 : t < 20
  · have hv : Sh.mix t b c d = ((b &&& c) ||| (~~~b &&& d)) + 0x5a827999 := by rw [Sh.mix, if_pos h1]
    have HV := Lib.hid hv
    clear hv
    go_enter Try.func44, Try.ntmps44
    go_wp2
    go_ret
    exact ⟨ret_int ((k1 _).trans (congrArg tn HV.out.symm)), rfl⟩
  · by_cases h2 : t < 40
    · have hv : Sh.mix t b c d = (b ^^^ c ^^^ d) + 0x6ed9eba1 := by rw [Sh.mix, if_neg h1, if_pos h2]
      have HV := Lib.hid hv
      clear hv
      go_enter Try.func44, Try.ntmps44
      go_wp2
      go_ret
      exact ⟨ret_int ((k2 _).trans (congrArg tn HV.out.symm)), rfl⟩
    · by_cases h3 : t < 60
      · have hv : Sh.mix t b c d = ((b &&& c) ||| (b &&& d) ||| (c &&& d)) + 0x8f1bbcdc := by rw [Sh.mix, if_neg h1, if_neg h2, if_pos h3]
        have HV := Lib.hid hv
        clear hv
        go_enter Try.func44, Try.ntmps44
        go_wp2
        go_ret
        exact ⟨ret_int ((k3 _).trans (congrArg tn HV.out.symm)), rfl⟩
      · have hv : Sh.mix t b c d = (b ^^^ c ^^^ d) + 0xca62c1d6 := by rw [Sh.mix, if_neg h1, if_neg h2, if_neg h3]
        have HV := Lib.hid hv
        clear hv
        go_enter Try.func44, Try.ntmps44
        go_wp2
        go_ret
        exact ⟨ret_int ((k4 _).trans (congrArg tn HV.out.symm)), rfl⟩

theorem quiet_left {P : Program} {f : FuncId} {args : Array Value} {w : World} {n : Nat} {v : Value}
    (h : Calls P f args (w.drewN n) fun e w' => e = .returned v ∧ w.drewN n = w') : Calls P f args (w.drewN n) fun e w'' => e = .returned v ∧ ∃ m, w'' = w.drewN m :=
  h.mono fun _ _ ⟨he, hm⟩ => ⟨he, n, hm.symm⟩

theorem below_drewN {B : Nat} {a w : World} (h : Below B a w) (n : Nat) : Below B a (w.drewN n) := ⟨h.os, h.tape, h.output, h.size, h.block⟩

/-- a word, a chain as cells -/
def U (x : UInt32) : Value := .int .u32 (tn x)
def cs (x : Sh.Ch) : Array Value := #[.int .u32 (tn x.a), .int .u32 (tn x.b), .int .u32 (tn x.c), .int .u32 (tn x.d), .int .u32 (tn x.e)]

set_option maxHeartbeats 1000000 in
theorem rstep_any (x : Sh.Ch) (t : Nat) (v : UInt32) (w : World) :
    Calls Try.prog 33 #[.agg (cs x), .int .i64 t, .int .u32 (tn v)] w fun e w' => e = .returned (.agg (cs (Sh.step x t v))) ∧ Below w.heap.size w w' := by
  obtain ⟨a, b, c, d, e⟩ := x
  unfold cs
  go_enter Try.func33, Try.ntmps33
  go_wp2_with fail
  go_quiet ((first | (go_at_call 23; exact quiet_left (rot_any _ 5 _ (by omega) (by omega))) | (go_at_call 44; exact quiet_left (mix_any _ _ _ _ _))))
  go_wp2_with fail
  go_region_held3 (fun w' => w'.cell? ⟨w.heap.size, 0, none⟩ = some (.int .u32 (tn a)) ∧ w'.cell? ⟨w.heap.size, 1, none⟩ = some (.int .u32 (tn b)) ∧ w'.cell? ⟨w.heap.size, 2, none⟩ = some (.int .u32 (tn c)) ∧ w'.cell? ⟨w.heap.size, 3, none⟩ = some (.int .u32 (tn d))) (go_keep)
    (first | (go_at_call 23; refine (rot_any _ 30 _ (by omega) (by omega)).mono ?_; rintro e w' ⟨rfl, rfl⟩))
  go_wp2
  refine bodyPost_ret (v := .agg (cs (Sh.step ⟨a, b, c, d, e⟩ t v))) (by simp [results, Try.results33, go_sem, cs, Sh.step]) rfl ⟨rfl, ?_⟩
  refine Below.setCell (Below.setCell (Below.setCell (Below.setCell (Below.setCell ?_ ?_ _) ?_ _) ?_ _) ?_ _) ?_ _
  · exact below_drewN ((Below.alloc ((Below.refl _ w).alloc (Nat.le_refl _) _) (by simp) _)) _
  all_goals simp
end Go.Proofs.Ytpffolohkmokhaa.Hs
