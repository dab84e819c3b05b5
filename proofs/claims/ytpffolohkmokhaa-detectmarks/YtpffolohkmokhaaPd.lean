/-
  A state of package sha1 as it lies in memory: the chain behind the whole blocks, the bytes behind them, how many bytes in all; contracts of New and Copy.
-/
import Derived.Test.YtpffolohkmokhaaPc
import Derived.Lib.BufferWrite
namespace Go.Proofs.Ytpffolohkmokhaa.Hp
open Go.RowKit Hs
set_option linter.unusedVariables false

/-- the seventy cells of a state -/
def sts (x : Sh.Ch) (r : List UInt8) (n : Nat) : Array Value := ((cs x).toList ++ Lib.byteCells r ++ [Value.int .u64 n]).toArray
theorem cs_len (x : Sh.Ch) : (cs x).toList.length = 5 := rfl
theorem sts_size (x : Sh.Ch) (r : List UInt8) (n : Nat) (hr : r.length = 64) : (sts x r n).size = 70 := by simp [sts, cs, Lib.byteCells_length, hr]
theorem sts_told (x : Sh.Ch) (r : List UInt8) (n : Nat) (hr : r.length = 64) : (sts x r n)[69]? = some (.int .u64 n) := by
  unfold sts
  rw [List.getElem?_toArray, List.getElem?_append_right (by simp [cs, Lib.byteCells_length, hr])]
  simp [cs, Lib.byteCells_length, hr]
theorem sts_rest (x : Sh.Ch) (r : List UInt8) (n i : Nat) (hi : i < r.length) : (sts x r n)[5 + i]? = some (.int .u8 (r.getD i 0).toNat) := by
  unfold sts
  rw [List.getElem?_toArray, List.getElem?_append_left (by simp [cs, Lib.byteCells_length]; omega), List.getElem?_append_right (by simp [cs])]
  simp [cs, Lib.byteCells, List.getD, List.getElem?_eq_getElem hi]
theorem sts_set (x : Sh.Ch) (r : List UInt8) (n m : Nat) (hr : r.length = 64) : (sts x r n).setIfInBounds 69 (.int .u64 m) = sts x r m := by
  apply Array.ext_getElem?
  intro i
  rw [Array.getElem?_setIfInBounds, sts_size _ _ _ hr]
  by_cases h : 69 = i
  · subst h
    rw [if_pos rfl, if_pos (by omega), sts_told _ _ _ hr]
  · rw [if_neg h]
    unfold sts
    rw [List.getElem?_toArray, List.getElem?_toArray]
    by_cases h2 : i < 69
    · rw [List.getElem?_append_left (l₂ := [Value.int .u64 (n : Int)]) (by simp [cs, Lib.byteCells_length, hr]; omega), List.getElem?_append_left (l₂ := [Value.int .u64 (m : Int)]) (by simp [cs, Lib.byteCells_length, hr]; omega)]
    · rw [List.getElem?_eq_none (by simp [cs, Lib.byteCells_length, hr]; omega), List.getElem?_eq_none (by simp [cs, Lib.byteCells_length, hr]; omega)]
theorem sts_one (x : Sh.Ch) (r : List UInt8) (n : Nat) : (sts x r n).all (·.oneCell') = true := by
  simp [sts, cs, Lib.byteCells, Value.oneCell']
theorem info55 (x : Sh.Ch) (r : List UInt8) (n : Nat) (hr : r.length = 64) : (Try.prog.info? 81).map (·.size) = some (sts x r n).size := by
  rw [sts_size _ _ _ hr]
  kernel_rfl

/-- the chain of a state, read -/
theorem run_load_chain (w : World) (b : Nat) (x : Sh.Ch) (r : List UInt8) (n : Nat) (fr : Nat × Nat) (hg : w.heap[b]? = some (.cells (sts x r n) 81 fr)) :
    (loadVar 40 ⟨b, 0, none⟩).run Try.prog w = .ok (.agg (cs x)) w := by
  have hl : (loadCells ⟨b, 0, none⟩ (cs x).toList.length).run Try.prog w = .ok (cs x).toList.toArray w :=
    run_loadCells_list (P := Try.prog) w ⟨b, 0, none⟩ (cs x).toList (fun j v hv => by
      rw [add_zero_of, cell_of_row w b j _ _ fr hg]
      unfold sts
      have hj : j < 5 := by
        rcases Nat.lt_or_ge j 5 with h | h
        · exact h
        · rw [List.getElem?_eq_none (by simpa [cs] using h)] at hv; cases hv
      rw [List.getElem?_toArray, List.getElem?_append_left (by simp [cs]; omega), List.getElem?_append_left (by simpa [cs] using hj)]
      exact hv)
  have hq := info28
  cases hi : Try.prog.info? 40 with
  | none => rw [hi] at hq; cases hq
  | some i =>
    have hs : i.size = 5 := by simpa [hi] using hq
    simp only [Array.toArray_toList, cs_len] at hl
    simp [loadVar, Sem.run_bind, Try.isAgg40, sizeOf, typeInfo, hi, hs, hl]
/-- the chain of a state, put in -/
theorem run_store_chain (w : World) (b : Nat) (x y : Sh.Ch) (r : List UInt8) (n : Nat) (hg : w.heap[b]? = some (.cells (sts x r n) 81 (0, 0))) :
    (storeVar 40 ⟨b, 0, none⟩ (.agg (cs y))).run Try.prog w = .ok () (w.setRow b (sts y r n)) := by
  have hst := run_storeCells_at Try.prog b 0 81 (cs y).toList 0 (sts x r n) w hg (by simp [sts, cs]) (fun v hv => by
    have := cs_one y
    rw [Array.all_eq_true_iff_forall_mem] at this
    exact this v (by simpa using hv))
  have hq := info28
  cases hi : Try.prog.info? 40 with
  | none => rw [hi] at hq; cases hq
  | some i =>
    have hs : i.size = 5 := by simpa [hi] using hq
    have hc : (Value.agg (cs y)).cells = cs y := rfl
    simp only [Nat.add_zero, Nat.zero_add, List.take_zero, List.nil_append, cs_len] at hst
    have hrow : ((cs y).toList ++ (sts x r n).toList.drop 5).toArray = sts y r n := by simp [sts, cs]
    rw [hrow] at hst
    simp [storeVar, Sem.run_bind, sizeOf, typeInfo, hi, hs, hc, hst, show (cs y).size = 5 from rfl]

/-- a state that was told l -/
def St (w : World) (b : Nat) (l : List UInt8) : Prop :=
  ∃ r : List UInt8, r.length = 64 ∧ r.take (l.length % 64) = l.drop (64 * (l.length / 64)) ∧ w.heap[b]? = some (.cells (sts (Sh.chain l (l.length / 64)) r l.length) 81 (0, 0))
theorem St.lt {w : World} {b : Nat} {l : List UInt8} (h : St w b l) : b < w.heap.size := by
  obtain ⟨r, _, _, hg⟩ := h
  exact (Array.getElem?_eq_some_iff.1 hg).1
theorem St.kept {w w' : World} {b : Nat} {l : List UInt8} (h : St w b l) (hb : w'.heap[b]? = w.heap[b]?) : St w' b l := by
  obtain ⟨r, h1, h2, hg⟩ := h
  exact ⟨r, h1, h2, hb.trans hg⟩
theorem St.below {w w' : World} {B b : Nat} {l : List UInt8} (h : St w b l) (hb : Below B w w') (hB : b < B) : St w' b l := h.kept (hb.block _ hB)
theorem St.grown {w w' : World} {row : Option Nat} {b : Nat} {l : List UInt8} (h : St w b l) (hb : w.grownBy w' row) (hne : some b ≠ row) : St w' b l := h.kept (hb.block _ h.lt hne)

theorem wpList_built {P : Program} {ops : Array Oper} {rest : List Oper} {o : Oper} {a : Act} {w : World} {Q : Exit → Act → World → Prop} (hg : o.guard = none) (t : TypeId) (parts : Array (Nat × Operand)) (ho : o.op = .build t parts) (cells : Array Value)
    (hc : P.built t (parts.map fun (i, x) => (i, a.eval x)).toList = some cells) (h : wpList P ops Q rest (a.put o.dst (.agg cells)) w) : wpList P ops Q (o :: rest) a w :=
  wpList_build hg t parts ho (by rw [hc]; rfl) (by rw [hc]; exact h)
theorem built55 : Try.prog.built 81 [(0, .agg (cs Sh.first))] = some (sts Sh.first (List.replicate 64 0) 0) := by kernel_rfl
theorem st_new (w : World) : St (w.alloc (.cells (sts Sh.first (List.replicate 64 0) 0) 81)) w.heap.size [] := ⟨List.replicate 64 0, by simp, by simp, heap_alloc_new _ _⟩
set_option maxRecDepth 100000 in
theorem new_any (w : World) : Calls Try.prog 36 #[] w fun e w' => ∃ b, e = .returned (.pointer (some ⟨b, 0, none⟩)) ∧ w.heap.size ≤ b ∧ St w' b [] ∧ Below w.heap.size w w' := by
  go_enter Try.func36, Try.ntmps36
  go_wp2_with fail
  refine (first_any _).mono ?_
  rintro e w1 ⟨rfl, hb1⟩
  rename_i K hK
  refine hK _ _ ?_
  clear hK
  refine wpList_built rfl 81 #[(0, .tmp 1)] rfl (sts Sh.first (List.replicate 64 0) 0) (by kernel_rfl) ?_
  go_wp2
  go_ret
  exact ⟨w1.heap.size, rfl, hb1.size, st_new w1, hb1.alloc hb1.size _⟩

set_option maxHeartbeats 1000000 in
set_option maxRecDepth 100000 in
theorem copy_any (w : World) (b : Nat) (l : List UInt8) (h : St w b l) : Calls Try.prog 46 #[.pointer (some ⟨b, 0, none⟩)] w fun e w' => e = .returned (.pointer (some ⟨w.heap.size, 0, none⟩)) ∧ St w' w.heap.size l ∧ Below w.heap.size w w' := by
  have hlt := h.lt
  obtain ⟨r, h1, h2, hg⟩ := h
  have hi := info55 (Sh.chain l (l.length / 64)) r l.length h1
  have ho := sts_one (Sh.chain l (l.length / 64)) r l.length
  have hsz := sts_size (Sh.chain l (l.length / 64)) r l.length h1
  have hst : ∀ w' : World, w'.heap[w.heap.size]? = some (.cells (sts (Sh.chain l (l.length / 64)) r l.length) 81 (0, 0)) → St w' w.heap.size l := fun w' h' => ⟨r, h1, h2, h'⟩
  generalize sts (Sh.chain l (l.length / 64)) r l.length = C at *
  have HG := Lib.hid hg
  have HI := Lib.hid hi
  have HO := Lib.hid ho
  have HST := Lib.hid hst
  have HSZ := Lib.hid hsz
  clear hg hi ho hst h1 h2 hsz
  have hz : ∀ w : World, (zeroValue 81).run Try.prog w = .ok (.agg (sts ⟨0, 0, 0, 0, 0⟩ (List.replicate 64 0) 0)) w := fun w => by kernel_rfl
  have hzs := sts_size ⟨0, 0, 0, 0, 0⟩ (List.replicate 64 0) 0 (by simp)
  generalize sts ⟨0, 0, 0, 0, 0⟩ (List.replicate 64 0) 0 = Z at *
  have HN := Lib.hid (heap_alloc_new w (.cells Z 81))
  have HZ := Lib.hid (show Z.size = C.size by rw [hzs, HSZ.out])
  clear hzs
  go_enter Try.func46, Try.ntmps46
  go_wp2_with (first
    | (with_reducible refine wpList_load_row rfl 81 (.tmp 5) rfl b rfl 81 C (0, 0) _ HG.out Try.underlying81 rfl HI.out ?_)
    | (with_reducible refine wpList_store_row rfl 81 (.tmp 3) (.tmp 6) rfl w.heap.size C rfl rfl 81 Z HN.out HI.out HZ.out HO.out ?_))
  go_ret
  refine ⟨rfl, HST.out _ (setRow_heap _ _ _ _ _ _ HN.out), below_setRow ((Below.refl _ w).alloc (Nat.le_refl _) _) (Nat.le_refl _) _⟩
end Go.Proofs.Ytpffolohkmokhaa.Hp
