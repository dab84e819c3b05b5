/-
  Contracts of the document's come, all and Walk (layer 6): a walk by recursion, as a Lean function with fuel.
-/
import Derived.Test.YtmfejibllhccaaaWb
namespace Go.Proofs.Ytmfejibllhccaaa.Hw
open Go.RowKit
set_option linter.unusedVariables false

/-! ### the walk as a Lean function -/
def allL (c : List Int → Int → List Int × Bool) : List Int → List Int → List Int × Bool
  | out, [] => (out, true)
  | out, x :: l => if (c out x).2 = true then allL c (c out x).1 l else ((c out x).1, false)
def comeF (most : Int) (es : List (Int × Int)) (bs : List Int) : Nat → List Int → Int → List Int × Bool
  | 0, out, _ => (out, true)
  | f + 1, out, k => if k ∈ out then (out, true) else if most ≤ out.length then (out, false) else if k ∈ bs then (out ++ [k], false) else allL (comeF most es bs f) (out ++ [k]) (nexts es k)
/-- how many of U aren't among out -/
def miss (U out : List Int) : Nat := (U.filter fun x => decide (x ∉ out)).length
theorem miss_mono {U out out' : List Int} (h : ∀ x, x ∈ out → x ∈ out') : miss U out' ≤ miss U out := by
  induction U with
  | nil => simp [miss]
  | cons y U ih =>
    unfold miss at *
    rw [List.filter_cons, List.filter_cons]
    by_cases h1 : y ∈ out'
    · by_cases h2 : y ∈ out
      · simpa [h1, h2] using ih
      · simp only [h1, h2, not_true_eq_false, decide_false, not_false_eq_true, decide_true, if_true, List.length_cons]
        exact Nat.le_succ_of_le (by simpa using ih)
    · have h2 : y ∉ out := fun e => h1 (h y e)
      simp only [h1, h2, not_false_eq_true, decide_true, if_true, List.length_cons]
      exact Nat.succ_le_succ (by simpa using ih)
theorem miss_lt {U out : List Int} {k : Int} (hk : k ∈ U) (hn : k ∉ out) : miss U (out ++ [k]) < miss U out := by
  induction U with
  | nil => cases hk
  | cons y U ih =>
    unfold miss at *
    rw [List.filter_cons, List.filter_cons]
    by_cases e : y = k
    · subst e
      have h1 : y ∈ out ++ [y] := by simp
      simp only [h1, hn, not_true_eq_false, decide_false, not_false_eq_true, decide_true, if_true, List.length_cons]
      have := miss_mono (U := U) (out := out) (out' := out ++ [y]) (fun x hx => by simp [hx])
      unfold miss at this
      exact Nat.lt_succ_of_le (by simpa using this)
    · have hk' : k ∈ U := by
        cases hk with
        | head => exact absurd rfl e
        | tail _ h => exact h
      have := ih hk'
      by_cases h1 : y ∈ out
      · have h2 : y ∈ out ++ [k] := by simp [h1]
        simpa [h1, h2] using this
      · have h2 : y ∉ out ++ [k] := by simp [h1, e]
        simp only [h1, h2, not_false_eq_true, decide_true, if_true, List.length_cons]
        exact Nat.succ_lt_succ (by simpa using this)
theorem miss_pos {U out : List Int} {k : Int} (hk : k ∈ U) (hn : k ∉ out) : 0 < miss U out := Nat.lt_of_le_of_lt (Nat.zero_le _) (miss_lt hk hn)
/-- what a step keeps: nothing goes, and what comes was missing -/
def Keeps (U out r : List Int) : Prop := (∀ x, x ∈ out → x ∈ r) ∧ r.length + miss U r ≤ out.length + miss U out
theorem Keeps.refl (U out : List Int) : Keeps U out out := ⟨fun _ h => h, Nat.le_refl _⟩
theorem Keeps.trans {U a b c : List Int} (h : Keeps U a b) (k : Keeps U b c) : Keeps U a c := ⟨fun x hx => k.1 x (h.1 x hx), Nat.le_trans k.2 h.2⟩
theorem Keeps.snoc {U out : List Int} {k : Int} (hk : k ∈ U) (hn : k ∉ out) : Keeps U out (out ++ [k]) := ⟨fun x hx => by simp [hx], by have := miss_lt hk hn; simp; omega⟩
theorem keeps_all {U : List Int} {c : List Int → Int → List Int × Bool} (hc : ∀ out x, x ∈ U → Keeps U out (c out x).1) : ∀ (l out : List Int), (∀ x, x ∈ l → x ∈ U) → Keeps U out (allL c out l).1
  | [], out, _ => Keeps.refl _ _
  | x :: l, out, h => by
    unfold allL
    have h1 := hc out x (h x (by simp))
    by_cases hb : (c out x).2 = true
    · rw [if_pos hb]; exact h1.trans (keeps_all hc l _ (fun y hy => h y (by simp [hy])))
    · rw [if_neg hb]; exact h1
theorem keeps_come {U : List Int} {most : Int} {es : List (Int × Int)} {bs : List Int} (hU : ∀ k x, x ∈ nexts es k → x ∈ U) : ∀ (f : Nat) (out : List Int) (k : Int), k ∈ U → Keeps U out (comeF most es bs f out k).1
  | 0, out, k, _ => Keeps.refl _ _
  | f + 1, out, k, hk => by
    unfold comeF
    by_cases h1 : k ∈ out
    · rw [if_pos h1]; exact Keeps.refl _ _
    · rw [if_neg h1]
      by_cases h2 : most ≤ out.length
      · rw [if_pos h2]; exact Keeps.refl _ _
      · rw [if_neg h2]
        by_cases h3 : k ∈ bs
        · rw [if_pos h3]; exact Keeps.snoc hk h1
        · rw [if_neg h3]; exact (Keeps.snoc hk h1).trans (keeps_all (fun o x hx => keeps_come hU f o x hx) _ _ (hU k))
/-- l by its first n -/
theorem allL_take (c : List Int → Int → List Int × Bool) : ∀ (l out : List Int) (n : Nat), n < l.length → (allL c out (l.take n)).2 = true → allL c out (l.take (n + 1)) = (if (c (allL c out (l.take n)).1 (l.getD n 0)).2 = true then c (allL c out (l.take n)).1 (l.getD n 0) else ((c (allL c out (l.take n)).1 (l.getD n 0)).1, false))
  | [], _, n, h, _ => by simp at h
  | x :: l, out, 0, _, _ => by
    simp only [List.take_succ_cons, List.take_zero, allL, List.getD_cons_zero]
    by_cases hb : (c out x).2 = true
    · rw [if_pos hb, if_pos hb]; exact Prod.ext rfl hb.symm
    · rw [if_neg hb, if_neg hb]
  | x :: l, out, n + 1, h, ht => by
    simp only [List.take_succ_cons, allL, List.getD_cons_succ] at *
    by_cases hb : (c out x).2 = true
    · rw [if_pos hb] at ht ⊢
      rw [if_pos hb]
      exact allL_take c l _ n (by simpa using h) ht
    · rw [if_neg hb] at ht; cases ht
theorem allL_stop (c : List Int → Int → List Int × Bool) : ∀ (l out : List Int) (n : Nat), (allL c out (l.take n)).2 = false → allL c out l = allL c out (l.take n)
  | [], _, n, h => by simp
  | x :: l, out, 0, h => by simp [allL] at h
  | x :: l, out, n + 1, h => by
    simp only [List.take_succ_cons, allL] at *
    by_cases hb : (c out x).2 = true
    · rw [if_pos hb] at h ⊢; rw [if_pos hb]; exact allL_stop c l _ n h
    · rw [if_neg hb, if_neg hb]

/-! ### in memory -/
/-- an append whose run is known -/
theorem wpList_append_run {P : Program} {ops : Array Oper} {rest : List Oper} {o : Oper} {a : Act} {w : World} {Q : Exit → Act → World → Prop} (hg : o.guard = none) (s x : Operand) (t t' : TypeId)
    (ho : o.op = .call { callee := .builtin .append, args := #[s, x], argTypes := #[t, t'] }) (v y v' : Value) (w' : World) (hs : a.eval s = v) (hx : a.eval x = y)
    (hrun : (Builtin.append_ #[t, t'] o.type #[v, y]).run P w = .ok v' w') (h : wpList P ops Q rest (a.put o.dst v') w') : wpList P ops Q (o :: rest) a w :=
  wpList_plain hg fun _ hK => by
    unfold Oper.wp
    simp [execOp, ho, resolve, invoke, builtin, hs, hx, hrun, Result.andThen]
    exact hK _ _ h
theorem app_ints (w : World) (A : Option Addr) (c : Nat) (l : List Int) (hr : Ints w w.heap.size A l) (hl : l.length ≤ 1000) : ∃ v' w', (Builtin.append_ #[26, 26] 26 #[.slice (some ⟨w.heap.size, 0, none⟩) 0 0, .slice A l.length c]).run Try.prog (w.alloc (.cells #[] 3)) = .ok v' w' ∧
    w'.ownsRow w.heap.size 3 1 v' l.length (intCells l) ∧ Below w.heap.size w w' := by
  obtain ⟨i0, hi0, hz0, hz1, hz2⟩ := info_parts info3
  have hb0 : Below w.heap.size w (w.alloc (.cells #[] 3)) := (Below.refl _ w).alloc (Nat.le_refl _) _
  have hown : (w.alloc (.cells #[] 3)).ownsRow w.heap.size 3 1 (.slice (some ⟨w.heap.size, 0, none⟩) 0 0) 0 [] :=
    ⟨rfl, .inr ⟨w.heap.size, 0, #[], rfl, Nat.le_refl _, heap_alloc_new w _, Nat.le_refl _, Nat.zero_le _, rfl, rfl⟩⟩
  cases A with
  | none =>
    have h0 : l = [] := by
      cases l with
      | nil => rfl
      | cons y r => obtain ⟨ad, e, _⟩ := hr 0 (by simp); cases e
    subst h0
    refine ⟨.slice (some ⟨w.heap.size, 0, none⟩) 0 0, w.alloc (.cells #[] 3), ?_, hown, hb0⟩
    simp [Builtin.append_, run_underlying Try.underlying26, Builtin.lenOf, Builtin.firstCells, sizeOf, typeInfo, hi0, storeCells]
  | some ad =>
    have hr1 : Ints (w.alloc (.cells #[] 3)) w.heap.size (some ad) l := hr.below hb0
    obtain ⟨v', w', h1, h2, h3, _, _⟩ := run_append_own_at (P := Try.prog) (w.alloc (.cells #[] 3)) w.heap.size 26 26 3 i0 _ 1 8 Try.underlying26 hi0 hz0 hz1 hz2 rfl (by omega) _ 0 [] hown ad l.length c (intCells l) (by simp [intCells]) (ints_cells hr1) (by simp [intCells, Value.oneCell']) (by unfold maxLen; omega) (by omega) (by simp)
    rw [Nat.zero_add, List.nil_append] at h2
    exact ⟨v', w', h1, h2, hb0.grown h3 (by simp) (fun k hk => by injection hk with hk; subst hk; exact Nat.le_refl _)⟩
end Go.Proofs.Ytmfejibllhccaaa.Hw
