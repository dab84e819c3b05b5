/-
  Layer 5: '==' of two vectors; a vector as an argument; guarded steps.
-/
import Derived.Test.YtpffolohkmokhaaDq
import Derived.Laws.StructEq
import Derived.OpenShut
namespace Go.Proofs.Ytpffolohkmokhaa.Hd
open Go.RowKit Hs Hp
set_option linter.unusedVariables false

theorem run_fields (d : Nat) (A : Array Value) (w : World) : ∀ fs : List Field, (∀ f ∈ fs, f.type = 3 ∧ ∃ x : Int, A[f.offset]? = some (.int .i64 x)) → (Op.eqFields (d + 1) A A fs).run Try.prog w = .ok true w
  | [], _ => by simp [Op.eqFields]
  | f :: fs, h => by
    obtain ⟨ht, x, hx⟩ := h f (by simp)
    have hp : (part f.type A f.offset).run Try.prog w = .ok (.int .i64 x) w := by rw [ht]; simp [part, Try.isAgg3, hx]
    have ih := run_fields d A w fs (fun j hj => h j (by simp [hj]))
    have he : (Op.equalIn (d + 1) f.type (.int .i64 x) (.int .i64 x)).run Try.prog w = .ok true w := by rw [ht, run_equalIn_int w d 3 .i64 .i64 x x Try.underlying3]; simp
    by_cases hn : f.name = "_"
    · simp [Op.eqFields, hn, ih]
    · simp [Op.eqFields, hn, Sem.run_bind, hp, he, ih]
theorem vs_get (a b c : Int) (i : Nat) (h : i < 3) : ∃ x : Int, (vs a b c)[i]? = some (.int .i64 x) := by
  match i, h with
  | 0, _ => exact ⟨a, rfl⟩
  | 1, _ => exact ⟨b, rfl⟩
  | 2, _ => exact ⟨c, rfl⟩
theorem fields_ok (t : TypeId) (a b c : Int) (h : ((Try.prog.fieldsOf t).toList.all fun f => f.type == 3 && decide (f.offset < 3)) = true) : ∀ f ∈ (Try.prog.fieldsOf t).toList, f.type = 3 ∧ ∃ x : Int, (vs a b c)[f.offset]? = some (.int .i64 x) := fun f hf => by
  have := List.all_eq_true.1 h f hf
  simp at this
  exact ⟨this.1, vs_get a b c _ this.2⟩
theorem eql_vs23 (a b c : Int) (w : World) : (binOp .eql 23 (.agg (vs a b c)) (.agg (vs a b c))).run Try.prog w = .ok (.bool true) w := by
  have h : (Op.equalIn 10000 23 (.agg (vs a b c)) (.agg (vs a b c))).run Try.prog w = .ok true w := by
    rw [run_equalIn_agg w 9999 23 _ _ (by kernel_rfl) (by kernel_rfl)]
    exact run_fields 9998 _ w _ (fields_ok _ a b c (by kernel_rfl))
  rw [run_eql_struct, h]; rfl
theorem neq_vs29 (a b c : Int) (w : World) : (binOp .neq 29 (.agg (vs a b c)) (.agg (vs a b c))).run Try.prog w = .ok (.bool false) w := by
  have h : (Op.equalIn 10000 29 (.agg (vs a b c)) (.agg (vs a b c))).run Try.prog w = .ok true w := by
    rw [run_equalIn_agg w 9999 29 _ _ (by kernel_rfl) (by kernel_rfl)]
    exact run_fields 9998 _ w _ (fields_ok _ a b c (by kernel_rfl))
  rw [run_neq_struct, h]; rfl
theorem guard23 : Try.prog.eqGuardType Try.prog.depth 23 = false := by kernel_rfl
theorem guard29v : Try.prog.eqGuardType Try.prog.depth 29 = false := by kernel_rfl

/-- an argument that is a vector -/
theorem open_vec {H : Type} {enc : TypeId × Value → H} {W : World} {base : Nat} {v : Value} {d : DataW H} {ps : List MemPlace} (hok : Value.okWide Try.prog W .any base 23 v)
    (h : DataW.Trod enc Try.prog W 0 (fun _ => true) true 23 v d ps) : ∃ a b c : Int, v = .agg (vs a b c) := by
  obtain ⟨A, rfl, hsz⟩ := WideShapes.okWide_struct Try.underlying23 hok
  obtain ⟨fuel, hf⟩ := h
  obtain ⟨xs, m, _, _, hl, hxl, hi⟩ := DataW.trod_struct Try.underlying23 hf
  have h1 : Try.prog.cellsOf 3 = 1 := by kernel_rfl
  have h3 : Try.prog.cellsOf 23 = 3 := by kernel_rfl
  have hc : (Value.agg A).cells = A := rfl
  rw [h3] at hsz
  rw [hc] at hi
  have hxl3 : xs.length = 3 := hxl
  have g0 := hi 0 _ rfl
  have g1 := hi 1 _ rfl
  have g2 := hi 2 _ rfl
  rw [List.getElem?_eq_getElem (by omega)] at g0 g1 g2
  obtain ⟨a, ha, _, _⟩ := DataW.trod_int Try.underlying3 g0
  obtain ⟨b, hb, _, _⟩ := DataW.trod_int Try.underlying3 g1
  obtain ⟨c, hcc, _, _⟩ := DataW.trod_int Try.underlying3 g2
  change (A.toList.drop 0).take (Try.prog.cellsOf 3) = _ at ha
  change (A.toList.drop 1).take (Try.prog.cellsOf 3) = _ at hb
  change (A.toList.drop 2).take (Try.prog.cellsOf 3) = _ at hcc
  rw [h1] at ha hb hcc
  refine ⟨a, b, c, congrArg Value.agg ?_⟩
  have pick : ∀ (i : Nat) (x : Value), (A.toList.drop i).take 1 = [x] → A[i]? = some x := fun i x hx => by
    have e := congrArg (fun l : List Value => l[0]?) hx
    simpa [List.getElem?_take, List.getElem?_drop] using e
  have k0 := pick 0 _ ha
  have k1 := pick 1 _ hb
  have k2 := pick 2 _ hcc
  apply Array.ext_getElem?
  intro i
  by_cases h : i < 3
  · rcases (by omega : i = 0 ∨ i = 1 ∨ i = 2) with rfl | rfl | rfl
    · rw [k0]; rfl
    · rw [k1]; rfl
    · rw [k2]; rfl
  · rw [Array.getElem?_eq_none (by omega), Array.getElem?_eq_none (by show 3 ≤ i; omega)]

/-! ### steps that a guard lets run -/
section
variable {P : Program} {ops : Array Oper} {rest : List Oper} {o : Oper} {a : Act} {w : World} {Q : Exit → Act → World → Prop}
theorem wpList_wanted (hw : Region.wanted o (yielded ops a.tmps) = true) (h : ∀ K : Act → World → Prop, (∀ a w, wpList P ops Q rest a w → K a w) → o.wp P a w K Q) : wpList P ops Q (o :: rest) a w :=
  wpList_step fun K hK => by simp only [hw, if_true]; exact h K hK
theorem wpList_load_subW (hw : Region.wanted o (yielded ops a.tmps) = true) (ty : TypeId) (x : Operand) (ho : o.op = .load ty x) (g off : Nat) (hx : a.eval x = .pointer (some ⟨g, off, none⟩)) (cs : Array Value) (hl : (loadVar ty ⟨g, off, none⟩).run P w = .ok (.agg cs) w)
    (h : wpList P ops Q rest (a.put o.dst (.agg cs)) w) : wpList P ops Q (o :: rest) a w := wpList_wanted hw fun _ hK => wp_load_sub ty x ho g off hx cs hl (hK _ _ h)
theorem wpList_load_rowW (hw : Region.wanted o (yielded ops a.tmps) = true) (ty : TypeId) (x : Operand) (ho : o.op = .load ty x) (g : Nat) (hx : a.eval x = .pointer (some ⟨g, 0, none⟩)) (t : TypeId) (cs : Array Value) (fr : Nat × Nat) (d : TypeDesc) (hg : w.heap[g]? = some (.cells cs t fr))
    (hu : P.underlying ty = some d) (hd : (match d with | .struct _ | .array _ _ => true | _ => false) = true) (hi : (P.info? ty).map (·.size) = some cs.size) (h : wpList P ops Q rest (a.put o.dst (.agg cs)) w) : wpList P ops Q (o :: rest) a w :=
  wpList_wanted hw fun _ hK => wp_load_row ty x ho g hx t cs fr d hg hu hd hi (hK _ _ h)
theorem wpList_build0W (hw : Region.wanted o (yielded ops a.tmps) = true) (t : TypeId) (ho : o.op = .build t #[]) (cells : Array Value) (hc : P.built t [] = some cells) (h : wpList P ops Q rest (a.put o.dst (.agg cells)) w) : wpList P ops Q (o :: rest) a w :=
  wpList_wanted hw fun K hK => by
    have hc' : P.built t ((#[] : Array (Nat × Operand)).map fun (i, x) => (i, a.eval x)).toList = some cells := by simpa using hc
    refine wp_build t #[] ho (by rw [hc']; rfl) ?_
    rw [hc']
    exact hK _ _ h
theorem wpList_eq_opW (hw : Region.wanted o (yielded ops a.tmps) = true) (op : BinOp) (hop : op = .eql ∨ op = .neq) (ty ty' : TypeId) (x y : Operand) (ho : o.op = .binOp op ty x y ty') (X Y : Array Value) (hx : a.eval x = .agg X) (hy : a.eval y = .agg Y)
    (hg : P.eqGuardType P.depth ty = false) (b : Bool) (h : (binOp op ty (.agg X) (.agg Y)).run P w = .ok (.bool b) w) (hr : wpList P ops Q rest (a.put o.dst (.bool b)) w) : wpList P ops Q (o :: rest) a w :=
  wpList_wanted hw fun _ hK => by
    unfold Oper.wp
    rw [run_eq_op op hop ty ty' x y ho X Y hx hy hg b w h]
    exact hK _ _ hr
end
end Go.Proofs.Ytpffolohkmokhaa.Hd
