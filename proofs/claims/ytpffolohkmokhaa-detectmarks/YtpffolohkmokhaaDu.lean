/-
  Laws for layer 5: '==' of two rows of words; a part of a row that is loaded or stored whole.
-/
import Derived.Test.YtpffolohkmokhaaDb
import Derived.Test.YtpffolohkmokhaaSx
namespace Go.Proofs.Ytpffolohkmokhaa.Hd
open Go.RowKit Hs Hp
set_option linter.unusedVariables false

/-! ### rows held against each other -/
theorem run_items2 (d : Nat) (A B : Array Value) (f g : Nat → UInt32) (w : World) : ∀ is : List Nat, (∀ i ∈ is, A[i]? = some (.int .u32 (tn (f i))) ∧ B[i]? = some (.int .u32 (tn (g i)))) →
    (Op.eqItems (d + 1) 30 1 A B is).run Try.prog w = .ok (is.all fun i => f i == g i) w
  | [], _ => by simp [Op.eqItems]
  | i :: is, h => by
    obtain ⟨hx, hy⟩ := h i (by simp)
    have hp : (part 30 A i).run Try.prog w = .ok (.int .u32 (tn (f i))) w := by simp [part, Try.isAgg30, hx]
    have hq : (part 30 B i).run Try.prog w = .ok (.int .u32 (tn (g i))) w := by simp [part, Try.isAgg30, hy]
    have ih := run_items2 d A B f g w is (fun j hj => h j (by simp [hj]))
    by_cases he : f i = g i
    · simp [Op.eqItems, Sem.run_bind, hp, hq, run_equalIn_int w d 30 .u32 .u32 _ _ Try.underlying30, ih, he]
    · have hne : ¬ tn (f i) = tn (g i) := fun e => he (tn_inj e)
      simp [Op.eqItems, Sem.run_bind, hp, hq, run_equalIn_int w d 30 .u32 .u32 _ _ Try.underlying30, he, hne]
theorem run_equal_fn {t : TypeId} {n : Nat} (hu : Try.prog.underlying t = some (.array n 30)) (A B : Array Value) (f g : Nat → UInt32) (hA : ∀ i, i < n → A[i]? = some (.int .u32 (tn (f i)))) (hB : ∀ i, i < n → B[i]? = some (.int .u32 (tn (g i)))) (w : World) :
    (Op.equal t (.agg A) (.agg B)).run Try.prog w = .ok ((List.range n).all fun i => f i == g i) w := by
  obtain ⟨i0, hi0⟩ : ∃ i, Try.prog.info? 30 = some i := by
    cases h : Try.prog.info? 30 with
    | some i => exact ⟨i, rfl⟩
    | none => have : (Try.prog.info? 30).isSome = true := by kernel_rfl
              rw [h] at this; cases this
  have h := run_equalIn_array (P := Try.prog) w 9999 A B hu hi0
  rw [cells26, run_items2 9998 A B f g w _ (fun i hi => ⟨hA i (by simpa using hi), hB i (by simpa using hi)⟩)] at h
  exact h
theorem same_fld (x y : Sh.Ch) : ((List.range 5).all fun i => fld x i == fld y i) = Dv.same x y := by
  simp [List.range, List.range.loop, Dv.same, fld, Bool.and_assoc]
theorem eql_chain (x y : Sh.Ch) (w : World) : (binOp .eql 40 (.agg (cs x)) (.agg (cs y))).run Try.prog w = .ok (.bool (Dv.same x y)) w := by
  have h := run_equal_fn Try.underlying40 (cs x) (cs y) (fld x) (fld y) (fun i hi => cs_get x i hi) (fun i hi => cs_get y i hi) w
  rw [same_fld] at h
  simp [binOp, h]
/-- are the words of two lists the same? -/
def sameWords (l m : List UInt32) : Bool := (List.range 80).all fun i => l.getD i 0 == m.getD i 0
theorem sameWords_refl (l : List UInt32) : sameWords l l = true := by simp [sameWords]
theorem eql_words (l m : List UInt32) (w : World) : (binOp .eql 32 (.agg (ws l)) (.agg (ws m))).run Try.prog w = .ok (.bool (sameWords l m)) w := by
  have h : (Op.equal 32 (.agg (ws l)) (.agg (ws m))).run Try.prog w = .ok (sameWords l m) w :=
    run_equal_fn Try.underlying32 (ws l) (ws m) (fun i => l.getD i 0) (fun i => m.getD i 0) (fun i hi => ws_get l i hi) (fun i hi => ws_get m i hi) w
  simp [binOp, h]
theorem neq_words (l m : List UInt32) (w : World) : (binOp .neq 32 (.agg (ws l)) (.agg (ws m))).run Try.prog w = .ok (.bool (!sameWords l m)) w := by
  have h : (Op.equal 32 (.agg (ws l)) (.agg (ws m))).run Try.prog w = .ok (sameWords l m) w :=
    run_equal_fn Try.underlying32 (ws l) (ws m) (fun i => l.getD i 0) (fun i => m.getD i 0) (fun i hi => ws_get l i hi) (fun i hi => ws_get m i hi) w
  simp [binOp, h]
theorem eql_words31 (l m : List UInt32) (w : World) : (binOp .eql 31 (.agg (ws l)) (.agg (ws m))).run Try.prog w = .ok (.bool (sameWords l m)) w := by
  have h : (Op.equal 31 (.agg (ws l)) (.agg (ws m))).run Try.prog w = .ok (sameWords l m) w :=
    run_equal_fn Try.underlying31 (ws l) (ws m) (fun i => l.getD i 0) (fun i => m.getD i 0) (fun i hi => ws_get l i hi) (fun i hi => ws_get m i hi) w
  simp [binOp, h]
theorem guard32 : Try.prog.eqGuardType Try.prog.depth 32 = false := by kernel_rfl

/-! ### a vector's difference is noughts just where it has no row -/
theorem fwd_low (f : Nat → UInt32) (i : Nat) : ∀ n j, j < i → Dv.fwd f i n j = f j
  | 0, _, _ => rfl
  | n + 1, j, h => by
    show Dv.setAt _ _ _ j = _
    unfold Dv.setAt
    rw [if_neg (by omega)]
    exact fwd_low f i n j h
theorem bwd_high (f : Nat → UInt32) (i : Nat) : ∀ n j, i < j → Dv.bwd f i n j = f j
  | 0, _, _ => rfl
  | n + 1, j, h => by
    show Dv.setAt _ _ _ j = _
    unfold Dv.setAt
    rw [if_neg (by omega)]
    exact bwd_high f i n j h
theorem row_set (ty K B j : Nat) (h1 : K + 5 ≤ j) (h2 : j < K + 21) : Dv.row ty K B j = Dv.start ty K B j := by
  unfold Dv.row
  rw [bwd_high _ _ _ _ (by omega), fwd_low _ _ _ _ h2]
theorem rot_zero (n : Nat) : Sh.rot 0 n = 0 := by
  unfold Sh.rot
  apply UInt32.toBitVec_inj.1
  simp
theorem diff_at (ty K B : Nat) (hK : K ≤ 64) : Dv.diffAt (Dv.row ty K B) (K + 15) = (1 : UInt32) <<< UInt32.ofNat B := by
  have h5 : Dv.row ty K B (K + 15 + 5) = (1 : UInt32) <<< UInt32.ofNat B := by rw [row_set _ _ _ _ (by omega) (by omega)]; unfold Dv.start; rw [if_pos (by omega)]
  have h0 : ∀ d, d < 5 → Dv.row ty K B (K + 15 + d) = 0 := fun d hd => by
    rw [row_set _ _ _ _ (by omega) (by omega)]; unfold Dv.start; rw [if_neg (by omega), if_neg (by omega)]
  unfold Dv.diffAt
  rw [h5, h0 4 (by omega), h0 3 (by omega), h0 2 (by omega), h0 1 (by omega), show Dv.row ty K B (K + 15) = 0 from h0 0 (by omega)]
  simp [rot_zero]
theorem shl_ne (B : Nat) (h : B < 32) : ((1 : UInt32) <<< UInt32.ofNat B == 0) = false := by
  have h' : ∀ b : Fin 32, ((1 : UInt32) <<< UInt32.ofNat b.val == 0) = false := by decide +kernel
  exact h' ⟨B, h⟩
theorem diff_nought (ty K B : Int) : sameWords (Dv.diff ty K B) [] = !decide (Dv.ok ty K B) := by
  by_cases hok : Dv.ok ty K B
  · rw [decide_eq_true hok]
    have hd : Dv.diff ty K B = Dv.diffs (Dv.row ty.toNat K.toNat B.toNat) := if_pos hok
    obtain ⟨_, hK0, hK1, hB0, hB1⟩ := hok
    have hk : K.toNat + 15 < 80 := by omega
    have hne : ((Dv.diff ty K B).getD (K.toNat + 15) 0 == ([] : List UInt32).getD (K.toNat + 15) 0) = false := by
      rw [hd, show (Dv.diffs (Dv.row ty.toNat K.toNat B.toNat)).getD (K.toNat + 15) 0 = Dv.diffAt (Dv.row ty.toNat K.toNat B.toNat) (K.toNat + 15) by simp [Dv.diffs, List.getD, hk], diff_at _ _ _ (by omega)]
      exact shl_ne _ (by omega)
    unfold sameWords
    rw [Bool.not_true, List.all_eq_false]
    exact ⟨K.toNat + 15, by simp [hk], by rw [hne]; decide⟩
  · rw [decide_eq_false hok, show Dv.diff ty K B = [] from if_neg hok]
    exact sameWords_refl _

/-! ### '==' and '!=' of aggregates, as one step -/
section
variable {P : Program}
theorem run_guard_eq (op : BinOp) (hop : op = .eql ∨ op = .neq) (ty : TypeId) (x y : Operand) (X Y : Array Value) (hg : P.eqGuardType P.depth ty = false) (W : World) : (eqGuard op ty x y (.agg X) (.agg Y)).run P W = .ok () W := by
  have hp : ∀ W, (program).run P W = .ok P W := fun _ => rfl
  rcases hop with rfl | rfl <;> simp [eqGuard, hp, hg]
theorem run_eq_op {o : Oper} {a : Act} (op : BinOp) (hop : op = .eql ∨ op = .neq) (ty ty' : TypeId) (x y : Operand) (ho : o.op = .binOp op ty x y ty') (X Y : Array Value) (hx : a.eval x = .agg X) (hy : a.eval y = .agg Y) (hg : P.eqGuardType P.depth ty = false) (b : Bool)
    (W : World) (h : (binOp op ty (.agg X) (.agg Y)).run P W = .ok (.bool b) W) : (execOp a.eval o).run P W = .ok (.value (.bool b)) W := by
  have hgd := run_guard_eq (P := P) op hop ty x y X Y hg W
  rcases hop with rfl | rfl <;> simp [execOp, ho, hx, hy, h, hgd]
theorem wpList_eq_op {ops : Array Oper} {rest : List Oper} {o : Oper} {a : Act} {w : World} {Q : Exit → Act → World → Prop} (hgd : o.guard = none) (op : BinOp) (hop : op = .eql ∨ op = .neq) (ty ty' : TypeId) (x y : Operand) (ho : o.op = .binOp op ty x y ty') (X Y : Array Value) (hx : a.eval x = .agg X) (hy : a.eval y = .agg Y)
    (hg : P.eqGuardType P.depth ty = false) (b : Bool) (h : (binOp op ty (.agg X) (.agg Y)).run P w = .ok (.bool b) w) (hr : wpList P ops Q rest (a.put o.dst (.bool b)) w) : wpList P ops Q (o :: rest) a w :=
  wpList_plain hgd fun _ hK => by
    unfold Oper.wp
    rw [run_eq_op op hop ty ty' x y ho X Y hx hy hg b w h]
    exact hK _ _ hr
end

/-! ### a part of a row -/
section
variable {P : Program}
theorem run_loadVar_sub (w : World) (g o : Nat) (ty : TypeId) (cs : Array Value) (d : TypeDesc) (hc : ∀ j v, cs[j]? = some v → w.cell? ⟨g, o + j, none⟩ = some v)
    (hu : P.underlying ty = some d) (hd : (match d with | .struct _ | .array _ _ => true | _ => false) = true) (hi : (P.info? ty).map (·.size) = some cs.size) :
    (loadVar ty ⟨g, o, none⟩).run P w = .ok (.agg cs) w := by
  have hl : (loadCells ⟨g, o, none⟩ cs.toList.length).run P w = .ok cs.toList.toArray w :=
    run_loadCells_list (P := P) w ⟨g, o, none⟩ cs.toList (fun j v hv => by
      have hadd : (⟨g, o, none⟩ : Addr).add j = ⟨g, o + j, none⟩ := by unfold Addr.add; split <;> simp_all
      rw [hadd]
      exact hc j v (by simpa using hv))
  cases hq : P.info? ty with
  | none => simp [hq] at hi
  | some i =>
    have hs : i.size = cs.size := by simpa [hq] using hi
    have hagg : (isAgg ty).run P w = .ok true w := by
      unfold isAgg
      rw [Sem.run_bind, run_underlying hu w]
      cases d <;> simp_all
    simp only [Array.length_toList, Array.toArray_toList] at hl
    simp [loadVar, Sem.run_bind, hagg, sizeOf, typeInfo, hq, hs, hl]
theorem wp_load_sub {o : Oper} {a : Act} {w : World} {K : Act → World → Prop} {Q : Exit → Act → World → Prop} (ty : TypeId) (x : Operand) (ho : o.op = .load ty x)
    (g off : Nat) (hx : a.eval x = .pointer (some ⟨g, off, none⟩)) (cs : Array Value) (hl : (loadVar ty ⟨g, off, none⟩).run P w = .ok (.agg cs) w)
    (h : K (a.put o.dst (.agg cs)) w) : o.wp P a w K Q := by
  unfold Oper.wp execOp
  simp only [ho, hx, Instr.loadAt, Instr.sureAddr, Sem.run_bind, Sem.run_pure, Result.andThen_ok, hl]
  exact h
theorem wpList_load_sub {ops : Array Oper} {rest : List Oper} {o : Oper} {a : Act} {w : World} {Q : Exit → Act → World → Prop} (hgd : o.guard = none) (ty : TypeId) (x : Operand) (ho : o.op = .load ty x)
    (g off : Nat) (hx : a.eval x = .pointer (some ⟨g, off, none⟩)) (cs : Array Value) (hl : (loadVar ty ⟨g, off, none⟩).run P w = .ok (.agg cs) w)
    (h : wpList P ops Q rest (a.put o.dst (.agg cs)) w) : wpList P ops Q (o :: rest) a w :=
  wpList_plain hgd fun _ hK => wp_load_sub ty x ho g off hx cs hl (hK _ _ h)
theorem run_storeVar_sub (w : World) (g o : Nat) (ty t : TypeId) (cur cs : Array Value) (hg : w.heap[g]? = some (.cells cur t (0, 0))) (hi : (P.info? ty).map (·.size) = some cs.size)
    (hfit : o + cs.size ≤ cur.size) (h1 : cs.all (·.oneCell') = true) :
    (storeVar ty ⟨g, o, none⟩ (.agg cs)).run P w = .ok () (w.setRow g (cur.toList.take o ++ cs.toList ++ cur.toList.drop (o + cs.size)).toArray) := by
  have hst := run_storeCells_at P g o t cs.toList 0 cur w hg (by simpa using hfit) (fun v hv => by
    rw [Array.all_eq_true_iff_forall_mem] at h1
    exact h1 v (by simpa using hv))
  cases hq : P.info? ty with
  | none => simp [hq] at hi
  | some i =>
    have hs : i.size = cs.size := by simpa [hq] using hi
    have hc : (Value.agg cs).cells = cs := rfl
    simp only [Nat.add_zero, Array.length_toList] at hst
    simp [storeVar, Sem.run_bind, sizeOf, typeInfo, hq, hs, hc, hst]
theorem wpList_store_sub {ops : Array Oper} {rest : List Oper} {o : Oper} {a : Act} {w w' : World} {Q : Exit → Act → World → Prop} (hgd : o.guard = none) (ty : TypeId) (x y : Operand) (ho : o.op = .store ty x y)
    (g off : Nat) (cs : Array Value) (hx : a.eval x = .pointer (some ⟨g, off, none⟩)) (hy : a.eval y = .agg cs) (hs : (storeVar ty ⟨g, off, none⟩ (.agg cs)).run P w = .ok () w')
    (h : wpList P ops Q rest (a.put o.dst undef) w') : wpList P ops Q (o :: rest) a w :=
  wpList_plain hgd fun _ hK => by
    unfold Oper.wp execOp
    simp only [ho, hx, hy, Instr.storeAt, Instr.sureAddr, Sem.run_bind, Sem.run_pure, Result.andThen_ok, hs]
    exact hK _ _ h
end
end Go.Proofs.Ytpffolohkmokhaa.Hd
