/-
  A state of package sha2 as it lies in memory: the chain behind the whole blocks, the bytes behind them, how many bytes in all; contracts of New and Copy.
-/
import Derived.Test.YtanmhpcfklageaaDoorQc
import Derived.Lib.BufferWrite
namespace Go.Proofs.YtanmhpcfklageaaDoor.Ho
open Go.RowKit Hs
set_option linter.unusedVariables false

/-- the seventy-three cells of a state -/
def sts (x : S2.Ch) (r : List UInt8) (n : Nat) : Array Value := ((c8 x).toList ++ Lib.byteCells r ++ [Value.int .u64 n]).toArray
theorem c8_len (x : S2.Ch) : (c8 x).toList.length = 8 := rfl
theorem sts_size (x : S2.Ch) (r : List UInt8) (n : Nat) (hr : r.length = 64) : (sts x r n).size = 73 := by simp [sts, c8, Lib.byteCells_length, hr]
theorem sts_told (x : S2.Ch) (r : List UInt8) (n : Nat) (hr : r.length = 64) : (sts x r n)[72]? = some (.int .u64 n) := by
  unfold sts
  rw [List.getElem?_toArray, List.getElem?_append_right (by simp [c8, Lib.byteCells_length, hr])]
  simp [c8, Lib.byteCells_length, hr]
theorem sts_rest (x : S2.Ch) (r : List UInt8) (n i : Nat) (hi : i < r.length) : (sts x r n)[8 + i]? = some (.int .u8 (r.getD i 0).toNat) := by
  unfold sts
  rw [List.getElem?_toArray, List.getElem?_append_left (by simp [c8, Lib.byteCells_length]; omega), List.getElem?_append_right (by simp [c8])]
  simp [c8, Lib.byteCells, List.getD, List.getElem?_eq_getElem hi]
theorem sts_set (x : S2.Ch) (r : List UInt8) (n m : Nat) (hr : r.length = 64) : (sts x r n).setIfInBounds 72 (.int .u64 m) = sts x r m := by
  apply Array.ext_getElem?
  intro i
  rw [Array.getElem?_setIfInBounds, sts_size _ _ _ hr]
  by_cases h : 72 = i
  · subst h
    rw [if_pos rfl, if_pos (by omega), sts_told _ _ _ hr]
  · rw [if_neg h]
    unfold sts
    rw [List.getElem?_toArray, List.getElem?_toArray]
    by_cases h2 : i < 72
    · rw [List.getElem?_append_left (l₂ := [Value.int .u64 (n : Int)]) (by simp [c8, Lib.byteCells_length, hr]; omega), List.getElem?_append_left (l₂ := [Value.int .u64 (m : Int)]) (by simp [c8, Lib.byteCells_length, hr]; omega)]
    · rw [List.getElem?_eq_none (by simp [c8, Lib.byteCells_length, hr]; omega), List.getElem?_eq_none (by simp [c8, Lib.byteCells_length, hr]; omega)]
theorem sts_one (x : S2.Ch) (r : List UInt8) (n : Nat) : (sts x r n).all (·.oneCell') = true := by
  simp [sts, c8, Lib.byteCells, Value.oneCell']
theorem info55 (x : S2.Ch) (r : List UInt8) (n : Nat) (hr : r.length = 64) : (Tryd.prog.info? 45).map (·.size) = some (sts x r n).size := by
  rw [sts_size _ _ _ hr]
  kernel_rfl

/-- the chain of a state, read -/
theorem run_load_chain (w : World) (b : Nat) (x : S2.Ch) (r : List UInt8) (n : Nat) (fr : Nat × Nat) (hg : w.heap[b]? = some (.cells (sts x r n) 45 fr)) :
    (loadVar 40 ⟨b, 0, none⟩).run Tryd.prog w = .ok (.agg (c8 x)) w := by
  have hl : (loadCells ⟨b, 0, none⟩ (c8 x).toList.length).run Tryd.prog w = .ok (c8 x).toList.toArray w :=
    run_loadCells_list (P := Tryd.prog) w ⟨b, 0, none⟩ (c8 x).toList (fun j v hv => by
      rw [add_zero_of, cell_of_row w b j _ _ fr hg]
      unfold sts
      have hj : j < 8 := by
        rcases Nat.lt_or_ge j 8 with h | h
        · exact h
        · rw [List.getElem?_eq_none (by simpa [c8] using h)] at hv; cases hv
      rw [List.getElem?_toArray, List.getElem?_append_left (by simp [c8]; omega), List.getElem?_append_left (by simpa [c8] using hj)]
      exact hv)
  have hq := info8 x
  cases hi : Tryd.prog.info? 40 with
  | none => rw [hi] at hq; cases hq
  | some i =>
    have hs : i.size = 8 := by simpa [hi, c8] using hq
    simp only [Array.toArray_toList, c8_len] at hl
    simp [loadVar, Sem.run_bind, Tryd.isAgg40, sizeOf, typeInfo, hi, hs, hl]
/-- the chain of a state, put in -/
theorem run_store_chain (w : World) (b : Nat) (x y : S2.Ch) (r : List UInt8) (n : Nat) (hg : w.heap[b]? = some (.cells (sts x r n) 45 (0, 0))) :
    (storeVar 40 ⟨b, 0, none⟩ (.agg (c8 y))).run Tryd.prog w = .ok () (w.setRow b (sts y r n)) := by
  have hst := run_storeCells_at Tryd.prog b 0 45 (c8 y).toList 0 (sts x r n) w hg (by simp [sts, c8]) (fun v hv => by
    have := c8_one y
    rw [Array.all_eq_true_iff_forall_mem] at this
    exact this v (by simpa using hv))
  have hq := info8 y
  cases hi : Tryd.prog.info? 40 with
  | none => rw [hi] at hq; cases hq
  | some i =>
    have hs : i.size = 8 := by simpa [hi, c8] using hq
    have hc : (Value.agg (c8 y)).cells = c8 y := rfl
    simp only [Nat.add_zero, Nat.zero_add, List.take_zero, List.nil_append, c8_len] at hst
    have hrow : ((c8 y).toList ++ (sts x r n).toList.drop 8).toArray = sts y r n := by simp [sts, c8]
    rw [hrow] at hst
    simp [storeVar, Sem.run_bind, sizeOf, typeInfo, hi, hs, hc, hst, show (c8 y).size = 8 from rfl]

/-- a state that was told l; the constants are there -/
def St (w : World) (b : Nat) (l : List UInt8) : Prop :=
  Ks w ∧ 0 < b ∧ ∃ r : List UInt8, r.length = 64 ∧ r.take (l.length % 64) = l.drop (64 * (l.length / 64)) ∧ w.heap[b]? = some (.cells (sts (S2.chain l (l.length / 64)) r l.length) 45 (0, 0))
theorem St.ks {w : World} {b : Nat} {l : List UInt8} (h : St w b l) : Ks w := h.1
theorem St.lt {w : World} {b : Nat} {l : List UInt8} (h : St w b l) : b < w.heap.size := by
  obtain ⟨_, _, r, _, _, hg⟩ := h
  exact (Array.getElem?_eq_some_iff.1 hg).1
theorem St.kept {w w' : World} {b : Nat} {l : List UInt8} (h : St w b l) (hk : Ks w') (hb : w'.heap[b]? = w.heap[b]?) : St w' b l := by
  obtain ⟨_, hG, r, h1, h2, hg⟩ := h
  exact ⟨hk, hG, r, h1, h2, hb.trans hg⟩
theorem St.below {w w' : World} {B b : Nat} {l : List UInt8} (h : St w b l) (hb : Below B w w') (hB : b < B) : St w' b l := h.kept (h.1.below hb (Nat.lt_trans h.2.1 hB)) (hb.block _ hB)
theorem St.grown {w w' : World} {c b : Nat} {l : List UInt8} (h : St w b l) (hb : w.grownBy w' (some c)) (hne : b ≠ c) (hc : 0 < c) : St w' b l :=
  h.kept (h.1.grown hb (fun e => by injection e with e; omega)) (hb.block _ h.lt (fun e => hne (by injection e)))

theorem wpList_built {P : Program} {ops : Array Oper} {rest : List Oper} {o : Oper} {a : Act} {w : World} {Q : Exit → Act → World → Prop} (hg : o.guard = none) (t : TypeId) (parts : Array (Nat × Operand)) (ho : o.op = .build t parts) (cells : Array Value)
    (hc : P.built t (parts.map fun (i, x) => (i, a.eval x)).toList = some cells) (h : wpList P ops Q rest (a.put o.dst (.agg cells)) w) : wpList P ops Q (o :: rest) a w :=
  wpList_build hg t parts ho (by rw [hc]; rfl) (by rw [hc]; exact h)
theorem built45 : Tryd.prog.built 45 [(0, .agg (c8 S2.first))] = some (sts S2.first (List.replicate 64 0) 0) := by kernel_rfl
theorem st_new (w : World) (hK : Ks w) : St (w.alloc (.cells (sts S2.first (List.replicate 64 0) 0) 45)) w.heap.size [] := ⟨hK.alloc _, hK.lt, List.replicate 64 0, by simp, by simp, heap_alloc_new _ _⟩
set_option maxRecDepth 100000 in
theorem new_any (w : World) (hK : Ks w) : Calls Tryd.prog 9 #[] w fun e w' => ∃ b, e = .returned (.pointer (some ⟨b, 0, none⟩)) ∧ w.heap.size ≤ b ∧ St w' b [] ∧ Below w.heap.size w w' := by
  have HK := Lib.hid hK
  clear hK
  go_enter Tryd.func9, Tryd.ntmps9
  go_wp2_with fail
  refine (first_any _).mono ?_
  rintro e w1 ⟨rfl, hb1⟩
  rename_i K hK
  refine hK _ _ ?_
  clear hK
  refine wpList_built rfl 45 #[(0, .tmp 1)] rfl (sts S2.first (List.replicate 64 0) 0) (by kernel_rfl) ?_
  go_wp2
  go_ret
  exact ⟨w1.heap.size, rfl, hb1.size, st_new w1 (HK.out.under hb1), hb1.alloc hb1.size _⟩

set_option maxHeartbeats 1000000 in
set_option maxRecDepth 100000 in
theorem copy_any (w : World) (b : Nat) (l : List UInt8) (h : St w b l) : Calls Tryd.prog 12 #[.pointer (some ⟨b, 0, none⟩)] w fun e w' => e = .returned (.pointer (some ⟨w.heap.size, 0, none⟩)) ∧ St w' w.heap.size l ∧ Below w.heap.size w w' := by
  have hlt := h.lt
  obtain ⟨hK, hG, r, h1, h2, hg⟩ := h
  have hi := info55 (S2.chain l (l.length / 64)) r l.length h1
  have ho := sts_one (S2.chain l (l.length / 64)) r l.length
  have hsz := sts_size (S2.chain l (l.length / 64)) r l.length h1
  have hst : ∀ w' : World, Below w.heap.size w w' → w'.heap[w.heap.size]? = some (.cells (sts (S2.chain l (l.length / 64)) r l.length) 45 (0, 0)) → St w' w.heap.size l := fun w' hb' h' => ⟨hK.under hb', hK.lt, r, h1, h2, h'⟩
  generalize sts (S2.chain l (l.length / 64)) r l.length = C at *
  have HG := Lib.hid hg
  have HI := Lib.hid hi
  have HO := Lib.hid ho
  have HST := Lib.hid hst
  have HSZ := Lib.hid hsz
  clear hg hi ho hst h1 h2 hsz hK hG
  have hz : ∀ w : World, (zeroValue 45).run Tryd.prog w = .ok (.agg (sts ⟨0, 0, 0, 0, 0, 0, 0, 0⟩ (List.replicate 64 0) 0)) w := fun w => by kernel_rfl
  have hzs := sts_size ⟨0, 0, 0, 0, 0, 0, 0, 0⟩ (List.replicate 64 0) 0 (by simp)
  generalize sts ⟨0, 0, 0, 0, 0, 0, 0, 0⟩ (List.replicate 64 0) 0 = Z at *
  have HN := Lib.hid (heap_alloc_new w (.cells Z 45))
  have HZ := Lib.hid (show Z.size = C.size by rw [hzs, HSZ.out])
  clear hzs
  go_enter Tryd.func12, Tryd.ntmps12
  go_wp2_with (first
    | (with_reducible refine wpList_load_row rfl 45 (.tmp 5) rfl b rfl 45 C (0, 0) _ HG.out Tryd.underlying45 rfl HI.out ?_)
    | (with_reducible refine wpList_store_row rfl 45 (.tmp 3) (.tmp 6) rfl w.heap.size C rfl rfl 45 Z HN.out HI.out HZ.out HO.out ?_))
  go_ret
  have hbb := below_row ((Below.refl _ w).alloc (Nat.le_refl _) (.cells Z 45)) (Nat.le_refl _) C
  exact ⟨rfl, HST.out _ hbb (setRow_heap _ _ _ _ _ _ HN.out), hbb⟩
end Go.Proofs.YtanmhpcfklageaaDoor.Ho
