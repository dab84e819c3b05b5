/-
  The contract of the program's Press (package sha1): the chain behind a block.
-/
import Derived.Test.YtpffolohkmokhaaPb
namespace Go.Proofs.Ytpffolohkmokhaa.Hp
open Go.RowKit Hs
set_option linter.unusedVariables false
attribute [local go_sem] t_and t_or t_xor t_not t_add t_sub t_add_wrap t_sub_wrap

theorem info30' (l : List UInt32) : (Try.prog.info? 32).map (·.size) = some (ws l).size := by rw [ws_size]; exact info30
theorem info28 : (Try.prog.info? 40).map (·.size) = some 5 := by kernel_rfl
theorem info28' (p q r s t : Value) : (Try.prog.info? 40).map (·.size) = some (#[p, q, r, s, t] : Array Value).size := info28
theorem size5 (p q r s t p' q' r' s' t' : Value) : (#[p, q, r, s, t] : Array Value).size = (#[p', q', r', s', t'] : Array Value).size := rfl
theorem one5 (p q r s t : UInt32) : (#[.int .u32 (tn p), .int .u32 (tn q), .int .u32 (tn r), .int .u32 (tn s), .int .u32 (tn t)] : Array Value).all (·.oneCell') = true := by simp [Value.oneCell']
theorem ws_one (l : List UInt32) : (ws l).all (·.oneCell') = true := by simp [ws, Value.oneCell']
theorem ws_get (l : List UInt32) (t : Nat) (h : t < 80) : (ws l)[t]? = some (.int .u32 (tn (l.getD t 0))) := by simp [ws, h]
theorem ws_sizes (l m : List UInt32) : (ws l).size = (ws m).size := by rw [ws_size, ws_size]

theorem run_index_row {P : Program} {ty elem : TypeId} {n : Nat} (hu : P.underlying ty = some (.array n elem)) (ha : ∀ w, (isAgg elem).run P w = .ok false w) (hz : ∀ w, (Go.sizeOf elem).run P w = .ok 1 w)
    {W : Array Value} {t : Nat} (h : t < n) {v : Value} (hv : W[t]? = some v) (w : World) : (Instr.index ty (.agg W) (.int .i64 t)).run P w = .ok v w := by
  have h0 : (0 : Int) ≤ t := by omega
  have h1 : (t : Int) < n := by omega
  simp [Instr.index, asIntOf, run_underlying hu, Sem.run_bind, h, hz, part, ha, hv]

set_option maxHeartbeats 2000000 in
set_option maxRecDepth 100000 in
theorem press_any (x : Sh.Ch) (s : ByteArray) (w : World) (hs : s.size ≤ 100000) :
    Calls Try.prog 18 #[.agg (cs x), .string s] w fun e w' => e = .returned (.agg (cs (Sh.press x s.data.toList))) ∧ Below w.heap.size w w' := by
  obtain ⟨a, b, c, d, e⟩ := x
  have hz := zv30
  have hL : Sh.press ⟨a, b, c, d, e⟩ s.data.toList = Sh.add ⟨a, b, c, d, e⟩ (Sh.stepsTo s.data.toList ⟨a, b, c, d, e⟩ 80) := rfl
  have hS : ∀ t, Sh.stepsTo s.data.toList ⟨a, b, c, d, e⟩ (t + 1) = Sh.step (Sh.stepsTo s.data.toList ⟨a, b, c, d, e⟩ t) t ((Sh.words s.data.toList).getD t 0) := fun t => rfl
  have hS0 : Sh.stepsTo s.data.toList ⟨a, b, c, d, e⟩ 0 = ⟨a, b, c, d, e⟩ := rfl
  unfold cs
  go_enter Try.func18, Try.ntmps18
  go_wp2_with fail
  refine (expand_any _ _ hs).mono ?_
  rintro e0 w1 ⟨rfl, hb1⟩
  have hsz := hb1.size
  simp at hsz
  have hp : w1.heap[w.heap.size]? = some (.cells #[.int .u32 (tn a), .int .u32 (tn b), .int .u32 (tn c), .int .u32 (tn d), .int .u32 (tn e)] 40 (0, 0)) := by
    rw [hb1.block _ (by simp; omega)]
    exact heap_alloc2_old _ _ _
  have hr : w1.heap[w.heap.size + 1]? = some (.cells #[.int .u32 0, .int .u32 0, .int .u32 0, .int .u32 0, .int .u32 0] 40 (0, 0)) := by
    rw [hb1.block _ (by simp)]
    exact heap_alloc2_new _ _ _
  have hbw : Below w.heap.size w w1 := (((Below.refl _ w).alloc (Nat.le_refl _) _).alloc (by simp) _).trans (hb1.mono (by simp; omega))
  clear hb1
  generalize Sh.words s.data.toList = L at *
  have hnew := heap_alloc_new w1 (.cells (ws []) 32)
  have hp2 : ((w1.alloc (.cells (ws []) 32)).setRow w1.heap.size (ws L)).heap[w.heap.size]? = _ := (setRow_other _ _ _ _ (by omega)).trans ((Below.heap_alloc _ _ _ (by omega)).trans hp)
  have hr2 : ((w1.alloc (.cells (ws []) 32)).setRow w1.heap.size (ws L)).heap[w.heap.size + 1]? = _ := (setRow_other _ _ _ _ (by omega)).trans ((Below.heap_alloc _ _ _ (by omega)).trans hr)
  have hw2 := setRow_heap _ _ _ (ws L) _ _ hnew
  have hb2 : Below w.heap.size w ((w1.alloc (.cells (ws []) 32)).setRow w1.heap.size (ws L)) := below_setRow (hbw.alloc hbw.size _) hbw.size _
  have HN := Lib.hid hnew
  have HP := Lib.hid hp2
  have HR := Lib.hid hr2
  have HW := Lib.hid hw2
  have HB := Lib.hid hb2
  have HL := Lib.hid hL
  have HS := Lib.hid hS
  have HS0 := Lib.hid hS0
  clear hp hr hbw hnew hp2 hr2 hw2 hb2 hL hS hS0
  go_wp2_with (with_reducible refine wpList_store_row rfl 32 (.tmp 5) (.tmp 14) rfl w1.heap.size (ws L) rfl rfl 32 (ws []) HN.out (info30' _) (ws_sizes _ _) (ws_one _) ?_)
  clear hz HN
  generalize (w1.alloc (.cells (ws []) 32)).setRow w1.heap.size (ws L) = w2 at *
  have c0 := cell_of_row w2 w.heap.size 0 _ _ _ HP.out
  have c1 := cell_of_row w2 w.heap.size 1 _ _ _ HP.out
  have c2 := cell_of_row w2 w.heap.size 2 _ _ _ HP.out
  have c3 := cell_of_row w2 w.heap.size 3 _ _ _ HP.out
  have c4 := cell_of_row w2 w.heap.size 4 _ _ _ HP.out
  simp at c0 c1 c2 c3 c4
  have HWD := Lib.hid (show w2.drew.heap[w1.heap.size]? = some (.cells (ws L) 32 (0, 0)) from HW.out)
  refine wp_region_still_lit (by kernel_rfl) (by kernel_rfl) ?_
  change wpStill _ _ (World.drew _) (fun a' => Exit.then _ _ _ a' (World.drew _)) _ _
  iterate 15 still_step
  refine wpStill_nil ?_
  go_wp2_with (with_reducible refine wpList_load_row rfl 32 (.tmp 5) rfl w1.heap.size rfl 32 (ws L) (0, 0) _ HWD.out Try.underlying32 rfl (info30' _) ?_)
  go_loopg [6, 7, 8, 9, 10, 26] 80 (fun g va vb vc vd ve i wr => ∃ (t : Nat) (y : Sh.Ch), t ≤ 80 ∧ g = 80 - t ∧ i = .int .i64 t ∧ wr = w2.drew ∧ y = Sh.stepsTo s.data.toList ⟨a, b, c, d, e⟩ t ∧ va = .int .u32 (tn y.a) ∧ vb = .int .u32 (tn y.b) ∧ vc = .int .u32 (tn y.c) ∧ vd = .int .u32 (tn y.d) ∧ ve = .int .u32 (tn y.e))
  case atStart => exact ⟨0, ⟨a, b, c, d, e⟩, Nat.zero_le _, rfl, rfl, rfl, HS0.out.symm, rfl, rfl, rfl, rfl, rfl⟩
  case round =>
    obtain ⟨t, ⟨ya, yb, yc, yd, ye⟩, ht, rfl, rfl, rfl, hy, rfl, rfl, rfl, rfl, rfl⟩ := hrel
    have HY := Lib.hid hy
    clear hy
    by_cases hlt : t < 80
    · have h1 : (t : Int) < 80 := by omega
      have h0 : (0 : Int) ≤ t := by omega
      have hn : ((t : Int)).toNat = t := by omega
      have hg := run_index_row (P := Try.prog) Try.underlying32 Try.isAgg30 Try.sizeOf30 hlt (ws_get L t hlt)
      have hnx := HS.out t
      generalize L.getD t 0 = v at *
      rw [← HY.out] at hnx
      have HNX := Lib.hid hnx
      clear hnx
      go_wp2_with (first | (go_at_call 22; with_reducible refine (rotl30 _ _).mono ?_; rintro e w' ⟨rfl, rfl⟩) | (go_at_call 22; with_reducible refine (rotl5 _ _).mono ?_; rintro e w' ⟨rfl, rfl⟩) | (go_at_call 35; with_reducible refine (mixed_any _ _ _ _ _).mono ?_; rintro e w' ⟨rfl, rfl⟩))
      go_roundg (80 - (t + 1))
      case rel => exact ⟨t + 1, Sh.step ⟨ya, yb, yc, yd, ye⟩ t v, by omega, rfl, by go_num, rfl, HNX.out.symm, rfl, rfl, rfl, rfl, rfl⟩
      case measure => omega
    · obtain rfl : t = 80 := by omega
      have hfin := HL.out
      rw [← HY.out] at hfin
      have HF := Lib.hid hfin
      have HRD := Lib.hid (show w2.drew.heap[w.heap.size + 1]? = some (.cells #[.int .u32 0, .int .u32 0, .int .u32 0, .int .u32 0, .int .u32 0] 40 (0, 0)) from HR.out)
      clear hfin
      go_wp2_with (with_reducible refine wpList_store_row rfl 40 (.tmp 4) (.tmp 68) rfl (w.heap.size + 1) #[.int .u32 (tn (a + ya)), .int .u32 (tn (b + yb)), .int .u32 (tn (c + yc)), .int .u32 (tn (d + yd)), .int .u32 (tn (e + ye))] rfl rfl 40 _ HRD.out (info28' _ _ _ _ _) (size5 _ _ _ _ _ _ _ _ _ _) (one5 _ _ _ _ _) ?_)
      refine bodyPost_ret (results_cell_row Try.results18 _ _ (w.heap.size + 1) 40 #[.int .u32 (tn (a + ya)), .int .u32 (tn (b + yb)), .int .u32 (tn (c + yc)), .int .u32 (tn (d + yd)), .int .u32 (tn (e + ye))] (0, 0) _ rfl (setRow_heap _ _ _ _ _ _ HRD.out) Try.underlying40 rfl (info28' _ _ _ _ _)) rfl ⟨by rw [HF.out]; rfl, ?_⟩
      exact below_setRow HB.out.drew (by omega) _
end Go.Proofs.Ytpffolohkmokhaa.Hp
