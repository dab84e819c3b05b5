/-
  Layer 9: the program reads a step.
-/
import Derived.Test.YtcgaofndckiddaaEb
import Derived.Laws.ResultCell
namespace Go.Proofs.Ytcgaofndckiddaa.He
open Go.RowKit Hg
set_option linter.unusedVariables false

theorem results_cell_row2 {P : Program} {fn : Func} {p u : Tmp} {ty : TypeId} (h : fn.results = #[.cell p ty, .tmp u]) (tmps : Array Value) (w : World) (g : Nat) (t : TypeId) (cs : Array Value) (fr : Nat × Nat) (d : TypeDesc)
    (hp : tmps.getD p undef = .pointer (some ⟨g, 0, none⟩)) (hg : w.heap[g]? = some (.cells cs t fr))
    (hu : P.underlying ty = some d) (hd : (match d with | .struct _ | .array _ _ => true | _ => false) = true) (hi : (P.info? ty).map (·.size) = some cs.size) :
    (results fn tmps).run P w = .ok (.tuple #[.agg cs, tmps.getD u undef]) w := by
  rw [results_cell_tmp h, hp]
  simp [asAddr, Result.andThen, run_loadVar_row w g t ty cs fr d hg hu hd hi]

/-- a step as it is read -/
def scells (c p n : Nat) (told : ByteArray) (z : Nat) : Array Value := #[.int .u8 c, .int .i64 p, .int .i64 n, .string told, .int .i64 z]
theorem st_size : (Try.prog.info? 42).map (·.size) = some 5 := by kernel_rfl
theorem st_ret {fn : Func} {p u : Tmp} (h : fn.results = #[.cell p 42, .tmp u]) (tmps : Array Value) (w : World) (g : Nat) (c a n z : Nat) (told : ByteArray)
    (hp : tmps.getD p undef = .pointer (some ⟨g, 0, none⟩)) (hg : w.heap[g]? = some (.cells (scells c a n told z) 42)) : (results fn tmps).run Try.prog w = .ok (.tuple #[.agg (scells c a n told z), tmps.getD u undef]) w :=
  results_cell_row2 h tmps w g _ _ (0, 0) _ hp hg Try.underlying42 rfl st_size
def rd (c a n : Nat) (told : ByteArray) (z : Nat) (e : Int) : Ending := .returned (.tuple #[.agg (scells c a n told z), .int .i64 e])

set_option maxHeartbeats 2000000 in
set_option maxRecDepth 100000 in
theorem read_kind (s : ByteArray) (w : World) (h0 : 0 < s.size) (h1 : (s[0]'h0).toNat ≠ 1) (h2 : (s[0]'h0).toNat ≠ 2) :
    Calls Try.prog 16 #[.string s] w fun e w' => e = rd 0 0 0 ByteArray.empty 0 3 ∧ Below w.heap.size w w' := by
  have h0i : (0 : Int) < s.size := by omega
  obtain ⟨c, hc⟩ : ∃ c, s[0].toNat = c := ⟨_, rfl⟩
  have ci : (s[0].toNat : Int) = c := by rw [hc]
  have hc256 : c < 256 := by rw [← hc]; exact s[0].toNat_lt
  have c1 : ((c : Int) == 1) = false := beq_eq_false_iff_ne.2 (by omega)
  have c2 : ((c : Int) == 2) = false := beq_eq_false_iff_ne.2 (by omega)
  clear hc h1 h2
  go_enter Try.func16, Try.ntmps16
  go_wp2
  refine bodyPost_ret (st_ret Try.results16 _ _ w.heap.size 0 0 0 0 ByteArray.empty rfl ?_) rfl ⟨rfl, ((Below.refl _ w).alloc (Nat.le_refl _) _).alloc (by simp) _⟩
  exact (Below.heap_alloc _ _ _ (by simp)).trans (heap_alloc_new w _)

/-- what read keeps: its answer and the step, in two blocks of its own -/
structure RdW (w W : World) (r cs : Array Value) : Prop where
  r : W.heap[w.heap.size]? = some (.cells r 42)
  s : W.heap[w.heap.size + 1]? = some (.cells cs 42)
  below : Below w.heap.size w W
section
variable {w W w3 : World} {r cs : Array Value}
theorem rd_new : RdW w ((w.alloc (.cells r 42)).alloc (.cells cs 42)) r cs := by
  refine ⟨(Below.heap_alloc _ _ _ (by simp)).trans (heap_alloc_new w _), ?_, ((Below.refl _ w).alloc (Nat.le_refl _) _).alloc (by simp) _⟩
  have h9 := heap_alloc_new (w.alloc (.cells r 42)) (.cells cs 42)
  rwa [World.size_alloc] at h9
theorem RdW.put (h : RdW w W r cs) (i : Nat) (u : Value) : RdW w (W.setCell ⟨w.heap.size + 1, i, none⟩ u) r (cs.setIfInBounds i u) :=
  ⟨(Below.heap_setCell _ _ _ _ (by show w.heap.size ≠ w.heap.size + 1; omega)).trans h.r, heap_setCell_cells h.s i u, h.below.setCell (p := ⟨w.heap.size + 1, i, none⟩) (Nat.le_succ _) u⟩
theorem RdW.ret (h : RdW w W r cs) (i : Nat) (u : Value) : RdW w (W.setCell ⟨w.heap.size, i, none⟩ u) (r.setIfInBounds i u) cs :=
  ⟨heap_setCell_cells h.r i u, (Below.heap_setCell _ _ _ _ (by show w.heap.size + 1 ≠ w.heap.size; omega)).trans h.s, h.below.setCell (p := ⟨w.heap.size, i, none⟩) (Nat.le_refl _) u⟩
theorem RdW.call (h : RdW w W r cs) (hb : Below W.heap.size W w3) : RdW w w3 r cs :=
  ⟨(hb.block _ (Array.getElem?_eq_some_iff.1 h.r).1).trans h.r, (hb.block _ (Array.getElem?_eq_some_iff.1 h.s).1).trans h.s, h.below.trans (hb.mono h.below.size)⟩
end
theorem rd_facts {W : World} {b c p n z : Nat} {told : ByteArray} (h : W.heap[b]? = some (.cells (scells c p n told z) 42)) :
    W.cell? ⟨b, 0, none⟩ = some (.int .u8 c) ∧ W.cell? ⟨b, 1, none⟩ = some (.int .i64 p) ∧ W.cell? ⟨b, 2, none⟩ = some (.int .i64 n) ∧ W.cell? ⟨b, 3, none⟩ = some (.string told) ∧ W.cell? ⟨b, 4, none⟩ = some (.int .i64 z) ∧ ∀ i, W.frozen? ⟨b, i, none⟩ = false :=
  ⟨by rw [cell_of_cells h]; rfl, by rw [cell_of_cells h]; rfl, by rw [cell_of_cells h]; rfl, by rw [cell_of_cells h]; rfl, by rw [cell_of_cells h]; rfl, fun i => unfrozen_of_cells h i⟩

/-- the number that stands i bytes behind -/
theorem num_from (s : ByteArray) (i : Nat) (w : World) (hi : i + 4 ≤ s.size) (hs : s.size ≤ 100000) (N : Nat) (hN : Df.num ((bl s).drop i) = N) :
    Calls Try.prog 10 #[.string (s.extract i s.size)] w fun e w' => e = .returned (.int .i64 N) ∧ Below w.heap.size w w' := by
  subst hN
  have h := number_any (s.extract i s.size) w (by rw [ByteArray.size_extract]; omega) (by rw [ByteArray.size_extract]; omega)
  rwa [bl_drop] at h

set_option maxHeartbeats 2000000 in
set_option maxRecDepth 100000 in
theorem read_short0 (s : ByteArray) (w : World) (h0 : 0 < s.size) (h1 : (s[0]'h0).toNat = 1 ∨ (s[0]'h0).toNat = 2) (h5 : s.size < 5) :
    Calls Try.prog 16 #[.string s] w fun e w' => e = rd 0 0 0 ByteArray.empty 0 2 ∧ Below w.heap.size w w' := by
  have h0i : (0 : Int) < s.size := by omega
  obtain ⟨c, hc⟩ : ∃ c, s[0].toNat = c := ⟨_, rfl⟩
  have ci : (s[0].toNat : Int) = c := by rw [hc]
  have sz1 : IntKind.i64.wrap ((s.size : Int) - 1) = (s.size : Int) - 1 := IntWalk.i64_in _ (by omega)
  have l1 : (s.size : Int) - 1 < 4 := by omega
  rcases h1 with h1 | h1
  · have c1 : ((c : Int) == 1) = true := by simp; omega
    clear hc h1 h5
    go_enter Try.func16, Try.ntmps16
    go_wp2
    exact bodyPost_ret (st_ret Try.results16 _ _ w.heap.size 0 0 0 0 ByteArray.empty rfl rd_new.r) rfl ⟨rfl, rd_new.below⟩
  · have c1 : ((c : Int) == 1) = false := beq_eq_false_iff_ne.2 (by omega)
    have c2 : ((c : Int) == 2) = true := by simp; omega
    clear hc h1 h5
    go_enter Try.func16, Try.ntmps16
    go_wp2
    exact bodyPost_ret (st_ret Try.results16 _ _ w.heap.size 0 0 0 0 ByteArray.empty rfl rd_new.r) rfl ⟨rfl, rd_new.below⟩

set_option maxHeartbeats 2000000 in
set_option maxRecDepth 100000 in
theorem read_short1 (s : ByteArray) (w : World) (h0 : 0 < s.size) (h1 : (s[0]'h0).toNat = 1) (h5 : ¬ s.size < 5) (h9 : s.size < 9) (hs : s.size ≤ 100000) :
    Calls Try.prog 16 #[.string s] w fun e w' => e = rd 0 0 0 ByteArray.empty 0 2 ∧ Below w.heap.size w w' := by
  have h0i : (0 : Int) < s.size := by omega
  obtain ⟨c, hc⟩ : ∃ c, s[0].toNat = c := ⟨_, rfl⟩
  have ci : (s[0].toNat : Int) = c := by rw [hc]
  have c1 : ((c : Int) == 1) = true := by simp; omega
  have sz1 : IntKind.i64.wrap ((s.size : Int) - 1) = (s.size : Int) - 1 := IntWalk.i64_in _ (by omega)
  have sz5 : IntKind.i64.wrap ((s.size : Int) - 5) = (s.size : Int) - 5 := IntWalk.i64_in _ (by omega)
  have l1 : ¬ (s.size : Int) - 1 < 4 := by omega
  have l5 : (s.size : Int) - 5 < 4 := by omega
  have hsl := slice_from s 1 1 rfl h0
  have HG1 := Lib.hid (fun w' => num_from s 1 w' (by omega) hs _ rfl)
  generalize Df.num ((bl s).drop 1) = p at *
  generalize s.extract 1 s.size = X at *
  clear hc h1 h5 h9
  go_enter Try.func16, Try.ntmps16
  go_wp2_with (go_at_call 10; refine (HG1.out _).mono ?_; rintro e w2 ⟨rfl, hb2⟩; have HW2 := Lib.hid (RdW.call rd_new hb2); obtain ⟨i0, i1, i2, i3, i4, i5⟩ := rd_facts (c := c) (p := 0) (n := 0) (told := ByteArray.empty) (z := 1) HW2.out.s; obtain ⟨j0, j1, j2, j3, j4, j5⟩ := rd_facts (c := 0) (p := 0) (n := 0) (told := ByteArray.empty) (z := 0) HW2.out.r; clear hb2)
  have HR := (((((((HW2.out.put 1 (.int .i64 p)).put 4 (.int .i64 5)).ret 0 (.int .u8 (0 : Nat))).ret 1 (.int .i64 (0 : Nat))).ret 2 (.int .i64 (0 : Nat))).ret 3 (.string ByteArray.empty)).ret 4 (.int .i64 (0 : Nat)))
  exact bodyPost_ret (st_ret Try.results16 _ _ w.heap.size (0 : Nat) (0 : Nat) (0 : Nat) (0 : Nat) ByteArray.empty rfl HR.r) rfl ⟨rfl, HR.below⟩

set_option maxHeartbeats 2000000 in
set_option maxRecDepth 100000 in
theorem read_one (s : ByteArray) (w : World) (h0 : 0 < s.size) (h1 : (s[0]'h0).toNat = 1) (h9 : ¬ s.size < 9) (hs : s.size ≤ 100000) :
    Calls Try.prog 16 #[.string s] w fun e w' => e = rd 1 (Df.num ((bl s).drop 1)) (Df.num ((bl s).drop 5)) ByteArray.empty 9 0 ∧ Below w.heap.size w w' := by
  have h0i : (0 : Int) < s.size := by omega
  obtain ⟨c, hc⟩ : ∃ c, s[0].toNat = c := ⟨_, rfl⟩
  have ci : (s[0].toNat : Int) = c := by rw [hc]
  have c1 : ((c : Int) == 1) = true := by simp; omega
  have sz1 : IntKind.i64.wrap ((s.size : Int) - 1) = (s.size : Int) - 1 := IntWalk.i64_in _ (by omega)
  have sz5 : IntKind.i64.wrap ((s.size : Int) - 5) = (s.size : Int) - 5 := IntWalk.i64_in _ (by omega)
  have l1 : ¬ (s.size : Int) - 1 < 4 := by omega
  have l5 : ¬ (s.size : Int) - 5 < 4 := by omega
  have hsl := slice_from s 1 1 rfl h0
  have hsl5 := slice_from s 5 5 rfl (by omega)
  have HG1 := Lib.hid (fun w' => num_from s 1 w' (by omega) hs _ rfl)
  have HG5 := Lib.hid (fun w' => num_from s 5 w' (by omega) hs _ rfl)
  generalize Df.num ((bl s).drop 1) = p at *
  generalize Df.num ((bl s).drop 5) = n at *
  generalize s.extract 1 s.size = X at *
  generalize s.extract 5 s.size = Y at *
  have HC1 := Lib.hid (show c = 1 by omega)
  clear hc h1 h9
  go_enter Try.func16, Try.ntmps16
  go_wp2_with (go_at_call 10; first | (with_reducible refine (HG1.out _).mono ?_; rintro e w2 ⟨rfl, hb2⟩; have HW2 := Lib.hid (RdW.call rd_new hb2); obtain ⟨i0, i1, i2, i3, i4, i5⟩ := rd_facts (c := c) (p := 0) (n := 0) (told := ByteArray.empty) (z := 1) HW2.out.s; obtain ⟨j0, j1, j2, j3, j4, j5⟩ := rd_facts (c := 0) (p := 0) (n := 0) (told := ByteArray.empty) (z := 0) HW2.out.r; clear hb2) | (with_reducible refine (HG5.out _).mono ?_; rintro e w3 ⟨rfl, hb3⟩; have HW3 := Lib.hid (RdW.call ((HW2.out.put 1 (.int .i64 p)).put 4 (.int .i64 5)) hb3); obtain ⟨i0', i1', i2', i3', i4', i5'⟩ := rd_facts (c := c) (p := p) (n := 0) (told := ByteArray.empty) (z := 5) HW3.out.s; obtain ⟨j0', j1', j2', j3', j4', j5'⟩ := rd_facts (c := 0) (p := 0) (n := 0) (told := ByteArray.empty) (z := 0) HW3.out.r; clear hb3))
  obtain rfl := HC1.out
  have HR := (((((((HW3.out.put 2 (.int .i64 n)).put 4 (.int .i64 9)).ret 0 (.int .u8 1)).ret 1 (.int .i64 p)).ret 2 (.int .i64 n)).ret 3 (.string ByteArray.empty)).ret 4 (.int .i64 9))
  exact bodyPost_ret (st_ret Try.results16 _ _ w.heap.size 1 p n 9 ByteArray.empty rfl HR.r) rfl ⟨rfl, HR.below⟩

set_option maxHeartbeats 2000000 in
set_option maxRecDepth 100000 in
theorem read_short2 (s : ByteArray) (w : World) (h0 : 0 < s.size) (h1 : (s[0]'h0).toNat = 2) (h5 : ¬ s.size < 5) (h9 : s.size < 5 + Df.num ((bl s).drop 1)) (hs : s.size ≤ 100000) :
    Calls Try.prog 16 #[.string s] w fun e w' => e = rd 0 0 0 ByteArray.empty 0 2 ∧ Below w.heap.size w w' := by
  have h0i : (0 : Int) < s.size := by omega
  obtain ⟨c, hc⟩ : ∃ c, s[0].toNat = c := ⟨_, rfl⟩
  have ci : (s[0].toNat : Int) = c := by rw [hc]
  have c1 : ((c : Int) == 1) = false := beq_eq_false_iff_ne.2 (by omega)
  have c2 : ((c : Int) == 2) = true := by simp; omega
  have sz1 : IntKind.i64.wrap ((s.size : Int) - 1) = (s.size : Int) - 1 := IntWalk.i64_in _ (by omega)
  have sz5 : IntKind.i64.wrap ((s.size : Int) - 5) = (s.size : Int) - 5 := IntWalk.i64_in _ (by omega)
  have l1 : ¬ (s.size : Int) - 1 < 4 := by omega
  have hsl := slice_from s 1 1 rfl h0
  have HG1 := Lib.hid (fun w' => num_from s 1 w' (by omega) hs _ rfl)
  generalize Df.num ((bl s).drop 1) = n at *
  have l5 : (s.size : Int) - 5 < n := by omega
  generalize s.extract 1 s.size = X at *
  clear hc h1 h5 h9
  go_enter Try.func16, Try.ntmps16
  go_wp2_with (go_at_call 10; refine (HG1.out _).mono ?_; rintro e w2 ⟨rfl, hb2⟩; have HW2 := Lib.hid (RdW.call rd_new hb2); obtain ⟨i0, i1, i2, i3, i4, i5⟩ := rd_facts (c := c) (p := 0) (n := 0) (told := ByteArray.empty) (z := 1) HW2.out.s; obtain ⟨j0, j1, j2, j3, j4, j5⟩ := rd_facts (c := 0) (p := 0) (n := 0) (told := ByteArray.empty) (z := 0) HW2.out.r; clear hb2)
  have HR := (((((((HW2.out.put 2 (.int .i64 n)).put 4 (.int .i64 5)).ret 0 (.int .u8 (0 : Nat))).ret 1 (.int .i64 (0 : Nat))).ret 2 (.int .i64 (0 : Nat))).ret 3 (.string ByteArray.empty)).ret 4 (.int .i64 (0 : Nat)))
  exact bodyPost_ret (st_ret Try.results16 _ _ w.heap.size (0 : Nat) (0 : Nat) (0 : Nat) (0 : Nat) ByteArray.empty rfl HR.r) rfl ⟨rfl, HR.below⟩

set_option maxHeartbeats 2000000 in
set_option maxRecDepth 100000 in
theorem read_two (s : ByteArray) (w : World) (h0 : 0 < s.size) (h1 : (s[0]'h0).toNat = 2) (h5 : ¬ s.size < 5) (h9 : ¬ s.size < 5 + Df.num ((bl s).drop 1)) (hs : s.size ≤ 100000) :
    Calls Try.prog 16 #[.string s] w fun e w' => e = rd 2 0 (Df.num ((bl s).drop 1)) (s.extract 5 (5 + Df.num ((bl s).drop 1))) (5 + Df.num ((bl s).drop 1)) 0 ∧ Below w.heap.size w w' := by
  have h0i : (0 : Int) < s.size := by omega
  obtain ⟨c, hc⟩ : ∃ c, s[0].toNat = c := ⟨_, rfl⟩
  have ci : (s[0].toNat : Int) = c := by rw [hc]
  have c1 : ((c : Int) == 1) = false := beq_eq_false_iff_ne.2 (by omega)
  have c2 : ((c : Int) == 2) = true := by simp; omega
  have sz1 : IntKind.i64.wrap ((s.size : Int) - 1) = (s.size : Int) - 1 := IntWalk.i64_in _ (by omega)
  have sz5 : IntKind.i64.wrap ((s.size : Int) - 5) = (s.size : Int) - 5 := IntWalk.i64_in _ (by omega)
  have l1 : ¬ (s.size : Int) - 1 < 4 := by omega
  have hsl := slice_from s 1 1 rfl h0
  have HG1 := Lib.hid (fun w' => num_from s 1 w' (by omega) hs _ rfl)
  obtain ⟨n, hn⟩ : ∃ n, Df.num ((bl s).drop 1) = n := ⟨_, rfl⟩
  rw [hn] at h9 HG1
  rw [hn]
  have l5 : ¬ (s.size : Int) - 5 < n := by omega
  obtain ⟨z, hz⟩ : ∃ z, 5 + n = z := ⟨_, rfl⟩
  rw [hz]
  have wz : IntKind.i64.wrap (5 + (n : Int)) = z := (IntWalk.i64_in _ (by omega)).trans (by omega)
  have hsm := slice_mid s 5 z 5 z rfl rfl (by omega) (by omega)
  generalize s.extract 1 s.size = X at *
  generalize s.extract 5 z = Y at *
  have HC1 := Lib.hid (show c = 2 by omega)
  clear hc h1 h5 h9 hn hz
  go_enter Try.func16, Try.ntmps16
  go_upto_region 20 with (go_at_call 10; refine (HG1.out _).mono ?_; rintro e w2 ⟨rfl, hb2⟩; have HW2 := Lib.hid (RdW.call rd_new hb2); obtain ⟨i0, i1, i2, i3, i4, i5⟩ := rd_facts (c := c) (p := 0) (n := 0) (told := ByteArray.empty) (z := 1) HW2.out.s; obtain ⟨j0, j1, j2, j3, j4, j5⟩ := rd_facts (c := 0) (p := 0) (n := 0) (told := ByteArray.empty) (z := 0) HW2.out.r; clear hb2)
  have HW5 := Lib.hid ((((HW2.out.put 2 (.int .i64 n)).put 4 (.int .i64 5)).put 3 (.string Y)).put 4 (.int .i64 z))
  clear i0 i1 i2 i3 i4 i5 j0 j1 j2 j3 j4 j5 HW2
  generalize (((w2.setCell ⟨w.heap.size + 1, 2, none⟩ (.int .i64 n)).setCell ⟨w.heap.size + 1, 4, none⟩ (.int .i64 5)).setCell ⟨w.heap.size + 1, 3, none⟩ (.string Y)).setCell ⟨w.heap.size + 1, 4, none⟩ (.int .i64 z) = w5 at *
  obtain ⟨i0, i1, i2, i3, i4, i5⟩ := rd_facts (c := c) (p := 0) (n := n) (told := Y) (z := z) HW5.out.s
  obtain ⟨j0, j1, j2, j3, j4, j5⟩ := rd_facts (c := 0) (p := 0) (n := 0) (told := ByteArray.empty) (z := 0) HW5.out.r
  go_wp2
  obtain rfl := HC1.out
  have HR := (((((HW5.out.ret 0 (.int .u8 2)).ret 1 (.int .i64 0)).ret 2 (.int .i64 n)).ret 3 (.string Y)).ret 4 (.int .i64 z))
  exact bodyPost_ret (st_ret Try.results16 _ _ w.heap.size 2 0 n z Y rfl HR.r) rfl ⟨rfl, HR.below⟩

end Go.Proofs.Ytcgaofndckiddaa.He
