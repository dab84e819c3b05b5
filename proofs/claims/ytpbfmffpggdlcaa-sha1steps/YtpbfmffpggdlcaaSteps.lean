/-
  Proved: Sha1Steps returns true for every chain, block, step and word, and changes nothing that was there.
  Conditions: none beside the row's own.
-/
import Derived.Test.YtpbfmffpggdlcaaSx
import Derived.Test.YtpbfmffpggdlcaaHeld
import Derived.Test.YtpbfmffpggdlcaaP
namespace Go.Proofs.Ytpbfmffpggdlcaa.sha1Steps
open Go.ChangeShapes Go.WideShapes Go.ChangeAt Go.RowKit
open Go.ChangeMaps (open_string)
set_option linter.unusedVariables false

open Hs Hp
/-- what is held while the statement's last line runs -/
structure Hl (w : World) (g : Nat) (C : Array Value) (W : World) : Prop where
  held : W.heap[w.heap.size]? = some (.cells C 27 (0, 0)) ∧ W.heap[g]? = some (.cells C 28 (0, 0)) ∧ Below w.heap.size w W
theorem Hl.step {w W W' : World} {g : Nat} {C : Array Value} (h : Hl w g C W) (hb : Below W.heap.size W W') : Hl w g C W' := by
  obtain ⟨h1, h2, h3⟩ := h.held
  exact ⟨by rw [hb.block _ (Array.getElem?_eq_some_iff.1 h1).1]; exact h1, by rw [hb.block _ (Array.getElem?_eq_some_iff.1 h2).1]; exact h2, h3.trans (hb.mono h3.size)⟩
theorem Hl.drew {w W : World} {g : Nat} {C : Array Value} (h : Hl w g C W) : Hl w g C W.drew := ⟨h.held.1, h.held.2.1, h.held.2.2.drew⟩

set_option maxHeartbeats 4000000 in
set_option maxRecDepth 100000 in
theorem walk (x : Sh.Ch) (s : ByteArray) (t : Int) (v : UInt32) (ws_ : s.size ≤ maxLen) (w : World) : Calls Try.prog 4 #[.agg (cs x), .string s, .int .i64 t, .int .u32 (tn v)] w fun e w' => e = .returned (.bool true) ∧ Below w.heap.size w w' := by
  obtain ⟨n, hn⟩ : ∃ n : Nat, n = min t.toNat 79 := ⟨_, rfl⟩
  have hmm : ∀ (ts : Array TypeId) (ty : TypeId) (W : World), ∃ u, (Builtin.min_ ts ty #[.int .i64 t, .int .i64 79]).run Try.prog W = .ok (.int .i64 u) W ∧ u = min t 79 := fun ts ty W => ⟨_, run_min_int2 .., by split <;> omega⟩
  obtain ⟨u, hu⟩ : ∃ u : Int, u = min t 79 := ⟨_, rfl⟩
  have hmin : ∀ (ts : Array TypeId) (ty : TypeId) (W : World), (Builtin.min_ ts ty #[.int .i64 t, .int .i64 79]).run Try.prog W = .ok (.int .i64 u) W := fun ts ty W => by
    obtain ⟨u', h1, h2⟩ := hmm ts ty W
    rw [h1, h2, hu]
  have hmax : ∀ (ts : Array TypeId) (ty : TypeId) (W : World), (Builtin.max_ ts ty #[.int .i64 0, .int .i64 u]).run Try.prog W = .ok (.int .i64 (n : Int)) W := fun ts ty W => by
    rw [run_max_int2]
    congr 2
    split <;> omega
  clear hmm
  have HN := Lib.hid hn
  clear hn hu
  have hC1 := cs_one x
  have hC5 : (cs x).size = 5 := rfl
  have hi27 := info27 x
  have hi28 := (show (Try.prog.info? 28).map (·.size) = some (cs x).size from info28)
  have hx0 := Lib.hid (fun W => step_any x t v W)
  have X1 := Lib.hid (fun W (h : s.size ≤ 200) => expand_any s W (by omega))
  have X2 := Lib.hid (fun W (h : s.size ≤ 200) => rexpand_any s W (by omega))
  have E29 := Lib.hid (eql_ws29 (Sh.words s.data.toList))
  have S1 := Lib.hid (fun W => step_any x t v W)
  have S2 := Lib.hid (fun W => show Calls _ _ _ _ fun e' w' => e' = .returned (.agg (cs (Sh.step x t.toNat v))) ∧ _ from by have h := rstep_any x n v W; rw [step_clamp _ _ _ HN.out] at h; exact h)
  have B1 := Lib.hid (fun W => back_any x t v W)
  have B2 := Lib.hid (fun W => show Calls _ _ _ _ fun e' w' => e' = .returned (.agg (cs (Sh.back x t.toNat v))) ∧ _ from by have h := rback_any x n v W; rw [back_clamp _ _ _ HN.out] at h; exact h)
  have BS := Lib.hid (fun W => show Calls _ _ _ _ fun e' w' => e' = .returned (.agg (cs x)) ∧ _ from by have h := back_any (Sh.step x t.toNat v) t v W; rw [back_step] at h; exact h)
  have SB := Lib.hid (fun W => show Calls _ _ _ _ fun e' w' => e' = .returned (.agg (cs x)) ∧ _ from by have h := step_any (Sh.back x t.toNat v) t v W; rw [step_back] at h; exact h)
  have P1 := Lib.hid (fun W (h : s.size ≤ 200) => press_any x s W (by omega))
  have P2 := Lib.hid (fun W (h : s.size ≤ 200) => rpress_any x s W (by omega))
  have EY := Lib.hid (eql_cs27 (Sh.step x t.toNat v))
  have EZ := Lib.hid (eql_cs27 (Sh.back x t.toNat v))
  have EP := Lib.hid (eql_cs27 (Sh.press x s.data.toList))
  have EX := Lib.hid (eql_cs28 x)
  generalize ws (Sh.words s.data.toList) = WS at *
  generalize cs (Sh.step x t.toNat v) = CY at *
  generalize cs (Sh.back x t.toNat v) = CZ at *
  generalize cs (Sh.press x s.data.toList) = CP at *
  generalize cs x = C at *
  have HC1 := Lib.hid hC1
  have I27 := Lib.hid hi27
  have I28 := Lib.hid hi28
  have HC5 := Lib.hid hC5
  clear hC1 hi27 hi28 hC5 hx0
  go_enter Try.func4, Try.ntmps4
  go_wp2_with fail
  refine (Hp.awake_any _).mono ?_
  rintro e1 w1 ⟨rfl, hb1⟩
  by_cases hs : s.size ≤ 200
  · have h1 : ¬ (200 : Int) < s.size := by omega
    replace X1 := Lib.hid (fun W => X1.out W hs)
    replace X2 := Lib.hid (fun W => X2.out W hs)
    replace P1 := Lib.hid (fun W => P1.out W hs)
    replace P2 := Lib.hid (fun W => P2.out W hs)
    have hr0 : w1.heap[w.heap.size]? = some (.cells C 27 (0, 0)) := by rw [hb1.block _ (by simp)]; exact heap_alloc_new _ _
    have hbw : Below w.heap.size w w1 := ((Below.refl _ w).alloc (Nat.le_refl _) _).trans (hb1.mono (by simp))
    have hlt := (Array.getElem?_eq_some_iff.1 hr0).1
    have HR0 := Lib.hid hr0
    have hnew := heap_alloc_new w1 (.cells #[.int .u32 0, .int .u32 0, .int .u32 0, .int .u32 0, .int .u32 0] 28)
    have hS0 : Hl w w1.heap.size C ((w1.alloc (.cells #[.int .u32 0, .int .u32 0, .int .u32 0, .int .u32 0, .int .u32 0] 28)).setRow w1.heap.size C) :=
      ⟨(setRow_other _ _ _ _ (by omega)).trans ((Below.heap_alloc _ _ _ hlt).trans hr0), setRow_heap _ _ _ _ _ _ hnew, below_setRow (hbw.alloc hbw.size _) hbw.size _⟩
    have HNEW := Lib.hid hnew
    have hS := hS0.drew
    have HZ := Lib.hid (show (#[.int .u32 0, .int .u32 0, .int .u32 0, .int .u32 0, .int .u32 0] : Array Value).size = C.size from HC5.out.symm)
    clear hr0 hnew hS0 hbw hb1
    go_wp2_with (first
      | (with_reducible refine wpList_load_row rfl 27 (.tmp 4) rfl w.heap.size rfl 27 C (0, 0) _ HR0.out Try.underlying27 rfl I27.out ?_)
      | (with_reducible refine wpList_store_row rfl 28 (.tmp 10) (.tmp 19) rfl w1.heap.size C rfl rfl 28 _ HNEW.out I28.out HZ.out HC1.out ?_))
    clear HNEW HR0 hmin hmax
    generalize (w1.alloc (.cells #[.int .u32 0, .int .u32 0, .int .u32 0, .int .u32 0, .int .u32 0] 28)).setRow w1.heap.size C = w2 at *
    generalize w1.heap.size = g at *
    refine wp_region_seq (fun W => W.heap[w.heap.size]? = some (.cells C 27 (0, 0)) ∧ W.heap[g]? = some (.cells C 28 (0, 0)) ∧ Below w.heap.size w W) [(0, false, 0), (2, false, 1), (1, true, 5), (3, true, 7), (4, false, 15), (5, false, 31), (6, false, 63), (7, false, 127), (8, false, 255), (10, false, 511), (11, false, 1535), (12, false, 3583), (9, true, 7679), (13, true, 8191), (14, false, 16383), (15, false, 32767), (16, false, 65535), (17, false, 131071), (18, false, 262143), (19, false, 524287), (21, false, 1048575), (22, false, 3145727), (23, false, 7340031), (20, true, 15728639), (24, true, 16777215), (25, false, 33554431), (26, false, 67108863), (27, false, 134217727), (28, false, 268435455), (29, false, 536870911), (30, false, 1073741823), (32, false, 2147483647), (33, false, 6442450943), (35, false, 15032385535), (31, true, 49392123903), (34, true, 51539607551), (36, false, 68719476735), (37, false, 137438953471), (38, false, 274877906943), (39, false, 549755813887), (40, false, 1099511627775), (41, false, 2199023255551), (43, false, 4398046511103), (44, false, 13194139533311), (46, false, 30786325577727), (42, true, 101155069755391), (45, true, 105553116266495), (47, false, 140737488355327), (48, false, 281474976710655), (49, false, 562949953421311), (50, false, 1125899906842623), (51, false, 2251799813685247), (53, false, 4503599627370495), (54, false, 13510798882111487), (52, true, 31525197391593471), (55, true, 36028797018963967), (56, false, 72057594037927935), (57, false, 144115188075855871), (58, false, 288230376151711743)]
      59 (by kernel_rfl) (by kernel_rfl) (by kernel_rfl) (fun d _ _ _ _ h => by cases d <;> exact h) (by kernel_rfl) (by kernel_rfl) hS.held ?_
    refine seqH_take (.string s) rfl (Or.inl ⟨by rfl, fun W _ => by go_simp⟩) ?_
    go_simp
    refine seqH_take (.string s) rfl (Or.inl ⟨by rfl, fun W _ => by go_simp⟩) ?_
    go_simp
    refine seqH_call rfl (by rfl) (fun K hK => ?_)
    have HK := Lib.hid hK
    clear hK
    go_simp
    refine (X1.out _).mono ?_
    rintro e' W1 ⟨rfl, hb⟩
    have hS' := hS.step hb
    clear hS hb
    have hS := hS'
    clear hS'
    refine HK.out _ _ hS.held ?_
    clear HK K
    go_simp
    refine seqH_call rfl (by rfl) (fun K hK => ?_)
    have HK := Lib.hid hK
    clear hK
    go_simp
    refine (X2.out _).mono ?_
    rintro e' W2 ⟨rfl, hb⟩
    have hS' := hS.step hb
    clear hS hb
    have hS := hS'
    clear hS'
    refine HK.out _ _ hS.held ?_
    clear HK K
    go_simp
    refine seqH_take (.bool true) rfl (yields_eql 29 29 (.tmp 21) (.tmp 23) rfl (by rfl) _ _ rfl rfl guard29 E29.out) ?_
    go_simp
    refine seqH_take (.bool true) rfl (Or.inl ⟨by rfl, fun W _ => by go_simp⟩) ?_
    go_simp
    refine seqH_take (.agg C) rfl (yields_load 28 (.tmp 10) rfl (by rfl) g rfl 28 C (0, 0) _ (fun W hW => hW.2.1) Try.underlying28 rfl I28.out) ?_
    go_simp
    refine seqH_take (.int .i64 t) rfl (Or.inl ⟨by rfl, fun W _ => by go_simp⟩) ?_
    go_simp
    refine seqH_take (.int .u32 (tn v)) rfl (Or.inl ⟨by rfl, fun W _ => by go_simp⟩) ?_
    go_simp
    refine seqH_take (.agg C) rfl (yields_load 27 (.tmp 4) rfl (by rfl) w.heap.size rfl 27 C (0, 0) _ (fun W hW => hW.1) Try.underlying27 rfl I27.out) ?_
    go_simp
    refine seqH_take (.int .i64 n) rfl (Or.inl ⟨by rfl, fun W _ => by go_simp⟩) ?_
    go_simp
    refine seqH_take (.int .u32 (tn v)) rfl (Or.inl ⟨by rfl, fun W _ => by go_simp⟩) ?_
    go_simp
    refine seqH_call rfl (by rfl) (fun K hK => ?_)
    have HK := Lib.hid hK
    clear hK
    go_simp
    refine (S1.out _).mono ?_
    rintro e' W3 ⟨rfl, hb⟩
    have hS' := hS.step hb
    clear hS hb
    have hS := hS'
    clear hS'
    refine HK.out _ _ hS.held ?_
    clear HK K
    go_simp
    refine seqH_call rfl (by rfl) (fun K hK => ?_)
    have HK := Lib.hid hK
    clear hK
    go_simp
    refine (S2.out _).mono ?_
    rintro e' W4 ⟨rfl, hb⟩
    have hS' := hS.step hb
    clear hS hb
    have hS := hS'
    clear hS'
    refine HK.out _ _ hS.held ?_
    clear HK K
    go_simp
    refine seqH_take (.bool true) rfl (yields_eql 27 27 (.tmp 29) (.tmp 33) rfl (by rfl) _ _ rfl rfl guard27 EY.out) ?_
    go_simp
    refine seqH_take (.bool true) rfl (Or.inl ⟨by rfl, fun W _ => by go_simp⟩) ?_
    go_simp
    refine seqH_take (.bool true) rfl (Or.inl ⟨by rfl, fun W _ => by go_simp⟩) ?_
    go_simp
    refine seqH_take (.agg C) rfl (yields_load 28 (.tmp 10) rfl (by rfl) g rfl 28 C (0, 0) _ (fun W hW => hW.2.1) Try.underlying28 rfl I28.out) ?_
    go_simp
    refine seqH_take (.int .i64 t) rfl (Or.inl ⟨by rfl, fun W _ => by go_simp⟩) ?_
    go_simp
    refine seqH_take (.int .u32 (tn v)) rfl (Or.inl ⟨by rfl, fun W _ => by go_simp⟩) ?_
    go_simp
    refine seqH_take (.agg C) rfl (yields_load 27 (.tmp 4) rfl (by rfl) w.heap.size rfl 27 C (0, 0) _ (fun W hW => hW.1) Try.underlying27 rfl I27.out) ?_
    go_simp
    refine seqH_take (.int .i64 n) rfl (Or.inl ⟨by rfl, fun W _ => by go_simp⟩) ?_
    go_simp
    refine seqH_take (.int .u32 (tn v)) rfl (Or.inl ⟨by rfl, fun W _ => by go_simp⟩) ?_
    go_simp
    refine seqH_call rfl (by rfl) (fun K hK => ?_)
    have HK := Lib.hid hK
    clear hK
    go_simp
    refine (B1.out _).mono ?_
    rintro e' W5 ⟨rfl, hb⟩
    have hS' := hS.step hb
    clear hS hb
    have hS := hS'
    clear hS'
    refine HK.out _ _ hS.held ?_
    clear HK K
    go_simp
    refine seqH_call rfl (by rfl) (fun K hK => ?_)
    have HK := Lib.hid hK
    clear hK
    go_simp
    refine (B2.out _).mono ?_
    rintro e' W6 ⟨rfl, hb⟩
    have hS' := hS.step hb
    clear hS hb
    have hS := hS'
    clear hS'
    refine HK.out _ _ hS.held ?_
    clear HK K
    go_simp
    refine seqH_take (.bool true) rfl (yields_eql 27 27 (.tmp 40) (.tmp 44) rfl (by rfl) _ _ rfl rfl guard27 EZ.out) ?_
    go_simp
    refine seqH_take (.bool true) rfl (Or.inl ⟨by rfl, fun W _ => by go_simp⟩) ?_
    go_simp
    refine seqH_take (.bool true) rfl (Or.inl ⟨by rfl, fun W _ => by go_simp⟩) ?_
    go_simp
    refine seqH_take (.agg C) rfl (yields_load 28 (.tmp 10) rfl (by rfl) g rfl 28 C (0, 0) _ (fun W hW => hW.2.1) Try.underlying28 rfl I28.out) ?_
    go_simp
    refine seqH_take (.int .i64 t) rfl (Or.inl ⟨by rfl, fun W _ => by go_simp⟩) ?_
    go_simp
    refine seqH_take (.int .u32 (tn v)) rfl (Or.inl ⟨by rfl, fun W _ => by go_simp⟩) ?_
    go_simp
    refine seqH_take (.int .i64 t) rfl (Or.inl ⟨by rfl, fun W _ => by go_simp⟩) ?_
    go_simp
    refine seqH_take (.int .u32 (tn v)) rfl (Or.inl ⟨by rfl, fun W _ => by go_simp⟩) ?_
    go_simp
    refine seqH_take (.agg C) rfl (yields_load 28 (.tmp 10) rfl (by rfl) g rfl 28 C (0, 0) _ (fun W hW => hW.2.1) Try.underlying28 rfl I28.out) ?_
    go_simp
    refine seqH_call rfl (by rfl) (fun K hK => ?_)
    have HK := Lib.hid hK
    clear hK
    go_simp
    refine (S1.out _).mono ?_
    rintro e' W7 ⟨rfl, hb⟩
    have hS' := hS.step hb
    clear hS hb
    have hS := hS'
    clear hS'
    refine HK.out _ _ hS.held ?_
    clear HK K
    go_simp
    refine seqH_call rfl (by rfl) (fun K hK => ?_)
    have HK := Lib.hid hK
    clear hK
    go_simp
    refine (BS.out _).mono ?_
    rintro e' W8 ⟨rfl, hb⟩
    have hS' := hS.step hb
    clear hS hb
    have hS := hS'
    clear hS'
    refine HK.out _ _ hS.held ?_
    clear HK K
    go_simp
    refine seqH_take (.bool true) rfl (yields_eql 28 28 (.tmp 54) (.tmp 55) rfl (by rfl) _ _ rfl rfl guard28 EX.out) ?_
    go_simp
    refine seqH_take (.bool true) rfl (Or.inl ⟨by rfl, fun W _ => by go_simp⟩) ?_
    go_simp
    refine seqH_take (.bool true) rfl (Or.inl ⟨by rfl, fun W _ => by go_simp⟩) ?_
    go_simp
    refine seqH_take (.agg C) rfl (yields_load 28 (.tmp 10) rfl (by rfl) g rfl 28 C (0, 0) _ (fun W hW => hW.2.1) Try.underlying28 rfl I28.out) ?_
    go_simp
    refine seqH_take (.int .i64 t) rfl (Or.inl ⟨by rfl, fun W _ => by go_simp⟩) ?_
    go_simp
    refine seqH_take (.int .u32 (tn v)) rfl (Or.inl ⟨by rfl, fun W _ => by go_simp⟩) ?_
    go_simp
    refine seqH_take (.int .i64 t) rfl (Or.inl ⟨by rfl, fun W _ => by go_simp⟩) ?_
    go_simp
    refine seqH_take (.int .u32 (tn v)) rfl (Or.inl ⟨by rfl, fun W _ => by go_simp⟩) ?_
    go_simp
    refine seqH_take (.agg C) rfl (yields_load 28 (.tmp 10) rfl (by rfl) g rfl 28 C (0, 0) _ (fun W hW => hW.2.1) Try.underlying28 rfl I28.out) ?_
    go_simp
    refine seqH_call rfl (by rfl) (fun K hK => ?_)
    have HK := Lib.hid hK
    clear hK
    go_simp
    refine (B1.out _).mono ?_
    rintro e' W9 ⟨rfl, hb⟩
    have hS' := hS.step hb
    clear hS hb
    have hS := hS'
    clear hS'
    refine HK.out _ _ hS.held ?_
    clear HK K
    go_simp
    refine seqH_call rfl (by rfl) (fun K hK => ?_)
    have HK := Lib.hid hK
    clear hK
    go_simp
    refine (SB.out _).mono ?_
    rintro e' W10 ⟨rfl, hb⟩
    have hS' := hS.step hb
    clear hS hb
    have hS := hS'
    clear hS'
    refine HK.out _ _ hS.held ?_
    clear HK K
    go_simp
    refine seqH_take (.bool true) rfl (yields_eql 28 28 (.tmp 65) (.tmp 66) rfl (by rfl) _ _ rfl rfl guard28 EX.out) ?_
    go_simp
    refine seqH_take (.bool true) rfl (Or.inl ⟨by rfl, fun W _ => by go_simp⟩) ?_
    go_simp
    refine seqH_take (.bool true) rfl (Or.inl ⟨by rfl, fun W _ => by go_simp⟩) ?_
    go_simp
    refine seqH_take (.agg C) rfl (yields_load 28 (.tmp 10) rfl (by rfl) g rfl 28 C (0, 0) _ (fun W hW => hW.2.1) Try.underlying28 rfl I28.out) ?_
    go_simp
    refine seqH_take (.string s) rfl (Or.inl ⟨by rfl, fun W _ => by go_simp⟩) ?_
    go_simp
    refine seqH_take (.agg C) rfl (yields_load 27 (.tmp 4) rfl (by rfl) w.heap.size rfl 27 C (0, 0) _ (fun W hW => hW.1) Try.underlying27 rfl I27.out) ?_
    go_simp
    refine seqH_take (.string s) rfl (Or.inl ⟨by rfl, fun W _ => by go_simp⟩) ?_
    go_simp
    refine seqH_call rfl (by rfl) (fun K hK => ?_)
    have HK := Lib.hid hK
    clear hK
    go_simp
    refine (P1.out _).mono ?_
    rintro e' W11 ⟨rfl, hb⟩
    have hS' := hS.step hb
    clear hS hb
    have hS := hS'
    clear hS'
    refine HK.out _ _ hS.held ?_
    clear HK K
    go_simp
    refine seqH_call rfl (by rfl) (fun K hK => ?_)
    have HK := Lib.hid hK
    clear hK
    go_simp
    refine (P2.out _).mono ?_
    rintro e' W12 ⟨rfl, hb⟩
    have hS' := hS.step hb
    clear hS hb
    have hS := hS'
    clear hS'
    refine HK.out _ _ hS.held ?_
    clear HK K
    go_simp
    refine seqH_take (.bool true) rfl (yields_eql 27 27 (.tmp 72) (.tmp 75) rfl (by rfl) _ _ rfl rfl guard27 EP.out) ?_
    go_simp
    refine seqH_take (.bool true) rfl (Or.inl ⟨by rfl, fun W _ => by go_simp⟩) ?_
    go_simp
    refine seqH_take (.bool true) rfl (Or.inl ⟨by rfl, fun W _ => by go_simp⟩) ?_
    go_simp
    refine seqH_done ?_
    go_wp2
    go_ret
    exact ⟨rfl, hS.held.2.2⟩
  · have h1 : (200 : Int) < s.size := by omega
    go_wp2
    go_ret
    exact ⟨rfl, ((Below.refl _ w).alloc (Nat.le_refl _) _).trans (hb1.mono (by simp))⟩

theorem own : ownKnob Try.prog.godebug = none := by kernel_rfl

set_option maxRecDepth 100000 in
theorem lifted (os : Os) (started : os.Started) (H : Type) (enc : TypeId × Value → H) :
    ReturnsInHanded {} Try.checked os 4 .any (Rows.sha1StepsSpec.pre6 enc Try.prog Try.f4 Rows.sha1StepsRow.domain false) (Rows.sha1StepsSpec.post enc Try.prog Try.f4 false true false false) := by
  refine returnsInHanded_of_change (C := Try.checked) own started (by kernel_rfl) Try.func4
    (ChangeSpec.witness6 (enc := enc) (C := Try.checked) false ⟨#[], #[.agg #[.int .u32 0, .int .u32 0, .int .u32 0, .int .u32 0, .int .u32 0], .string ByteArray.empty, .int .i64 0, .int .u32 0], []⟩ 8 (by kernel_rfl) (by kernel_rfl) (by kernel_rfl) (by kernel_rfl)) ?_
  intro W base args ds gs before hval0 hW hcnd _
  have hval : ∀ (j : Nat) t v, Try.f4.params[j]? = some t → args[j]? = some v → Value.okWide Try.prog W .any base t v := hval0
  have hW' := hW
  obtain ⟨p, q, hA0, hV, rfl, hfz, hnd⟩ := hW
  have hA : DataW.TrodAll enc Try.prog W 0 (fun _ => true) true Try.f4.params.toList args.toList ds p := hA0
  rw [Try.params4] at hA hval
  obtain ⟨v0, vs0, d0, ds0, p0, q0, hargs, rfl, rfl, h0, r0⟩ := trodAll_cons hA
  obtain ⟨v1, vs1, d1, ds1, p1, q1, rfl, rfl, rfl, h1, r1⟩ := trodAll_cons r0
  obtain ⟨v2, vs2, d2, ds2, p2, q2, rfl, rfl, rfl, h2, r2⟩ := trodAll_cons r1
  obtain ⟨v3, vs3, d3, ds3, p3, q3, rfl, rfl, rfl, h3, r3⟩ := trodAll_cons r2
  obtain ⟨rfl, rfl, rfl⟩ := trodAll_nil r3
  obtain rfl : args = #[v0, v1, v2, v3] := by cases args; simp_all
  obtain ⟨rfl, rfl⟩ := trodVars_none hV
  obtain ⟨x0, rfl⟩ := Hp.open_chain (hval 0 27 v0 rfl rfl) h0
  obtain ⟨a1, rfl, rfl, rfl, w1⟩ := open_string Try.underlying9 (hval 1 9 v1 rfl rfl) h1
  obtain ⟨a2, rfl, rfl, rfl, w2⟩ := open_int Try.underlying3 (hval 2 3 v2 rfl rfl) h2
  obtain ⟨z3, rfl, rfl, rfl, w3⟩ := open_int Try.underlying26 (hval 3 26 v3 rfl rfl) h3
  obtain ⟨a3, rfl⟩ := Hs.tn_of (bounds_u32 w3).1 (by have := (bounds_u32 w3).2; omega)
  clear hA0 hval0
  refine (walk x0 a1 a2 a3 w1 W).mono fun e W' ⟨he, hg⟩ => ?_
  subst he
  exact ⟨_, rfl, law_post Try.laid (by kernel_rfl) (by kernel_rfl) Try.underlying4 rfl rfl hW' hg⟩

theorem over : Rows.sha1StepsRow.holds Try.pinned (OpenSpec.ofChange Rows.sha1StepsSpec) :=
  OpenClaim.holds_of_wide 4 Try.f4 rfl rfl rfl rfl rfl rfl rfl ⟨rfl, rfl, rfl, rfl, rfl⟩ rfl rfl rfl rfl rfl (by kernel_rfl) Try.func4 (by kernel_rfl)
    (of_decide_eq_true (by kernel_rfl)) (by unfold Func.isWrapper; first | (rw [if_pos (by decide +kernel)]; kernel_rfl) | (rw [if_neg (by decide +kernel)]; exact ⟨rfl, rfl⟩))
    (fun os started H enc _ => lifted os started H enc)
end Go.Proofs.Ytpbfmffpggdlcaa.sha1Steps

namespace Go.Proofs.Ytpbfmffpggdlcaa
theorem sha1Steps_holds : Rows.Sha1StepsSaid := sha1Steps.over
end Go.Proofs.Ytpbfmffpggdlcaa
