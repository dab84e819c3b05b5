/-
  A region that draws its order, as a tree: operations that yield a value in every world that meets a condition are taken as soon as they may be; where nothing else may come up a call is made, or memory is laid; where two of these may come up, both orders are walked. One check of the tree, by numbers whose bits tell what has come up, serves for all its steps.
-/
import Derived.Test.YtlpidedijknohaaHeld
namespace Go.Proofs.Ytlpidedijknohaa
/-- an order, with its forks: the numbers of operations, and what has come up ahead of each -/
inductive Tr where
  | done : Tr
  | take (i m : Nat) (r : Tr) : Tr
  | call (i m : Nat) (r : Tr) : Tr
  | fork (i j m : Nat) (r s : Tr) : Tr
section
variable {P : Program} {ops : Array Oper} {Q : Exit → Act → World → Prop} {md : Region.Mode} {S : World → Prop}
def okTree (md : Region.Mode) (ops : Array Oper) (n : Nat) : Tr → Nat → Nat → Bool
  | .done, _, m => (readyB md ops n m).isEmpty
  | .take i k r, f + 1, m => m == k && ((freeB md ops n k i && (readyB md ops n k).contains i) && okTree md ops n r f (k ||| 1 <<< i))
  | .call i k r, f + 1, m => m == k && (decide (readyB md ops n k = [i]) && okTree md ops n r f (k ||| 1 <<< i))
  | .fork i j k r s, f + 1, m => m == k && (decide (readyB md ops n k = [i, j]) && (okTree md ops n r f (k ||| 1 <<< i) && okTree md ops n s f (k ||| 1 <<< j)))
  | _, 0, _ => false
/-- what is to be shown, along the tree -/
def TrH (P : Program) (ops : Array Oper) (Q : Exit → Act → World → Prop) (S : World → Prop) : Tr → Act → World → Prop
  | .done, a, w => Q .normal a w
  | .take i _ r, a, w => ∃ oi v, ops[i]? = some oi ∧ YieldsIf P ops S oi v a ∧ TrH P ops Q S r (a.put oi.dst v) w
  | .call i _ r, a, w => wpOp P ops Q i (fun a' w' => S w' ∧ TrH P ops Q S r a' w') a w
  | .fork i j _ r s, a, w => wpOp P ops Q i (fun a' w' => S w' ∧ TrH P ops Q S r a' w') a w ∧ wpOp P ops Q j (fun a' w' => S w' ∧ TrH P ops Q S s a' w') a w

theorem trH_sound (hs : Region.noSelect ops = true) (hQ : ∀ d v c a w, Q (.panic c) (Act.put a d v) w → Q (.panic c) a w) :
    ∀ (t : Tr) (f m : Nat) (a : Act) (w : World), okTree md ops ops.size t f m = true → S w → TrH P ops Q S t a w → wpAnyH P md ops Q S f (upBits ops.size m) a w
  | .done, f, m, a, w, hc, hS, h => wpAnyH_done (by rw [readyB_eq]; simpa [okTree] using hc) h f
  | .take i k r, f + 1, m, a, w, hc, hS, h => by
    simp only [okTree, Bool.and_eq_true, beq_iff_eq] at hc
    obtain ⟨rfl, ⟨hc1, hc2⟩, hc3⟩ := hc
    obtain ⟨oi, v, hi, hy, hr⟩ := h
    refine wpAnyH_take hi hs (by rw [freeB_eq]; exact hc1) (by rw [readyB_eq]; exact hc2) (fun c a w => hQ oi.dst v c a w) hy hS ?_
    rw [upBits_set]
    exact trH_sound hs hQ r f _ _ w hc3 hS hr
  | .call i k r, f + 1, m, a, w, hc, hS, h => by
    simp only [okTree, Bool.and_eq_true, decide_eq_true_eq, beq_iff_eq] at hc
    obtain ⟨rfl, hc1, hc2⟩ := hc
    refine wpAnyH_all (rs := [i]) (by rw [readyB_eq]; exact hc1) (by simp) fun j hj => ?_
    obtain rfl : j = i := by simpa using hj
    exact wpOp_mono (fun a' w' h' => ⟨h'.1, by rw [upBits_set]; exact trH_sound hs hQ r f _ a' w' hc2 h'.1 h'.2⟩) h
  | .fork i j k r s, f + 1, m, a, w, hc, hS, h => by
    simp only [okTree, Bool.and_eq_true, decide_eq_true_eq, beq_iff_eq] at hc
    obtain ⟨rfl, hc1, hc2, hc3⟩ := hc
    refine wpAnyH_all (rs := [i, j]) (by rw [readyB_eq]; exact hc1) (by simp) fun l hl => ?_
    have hl' : l = i ∨ l = j := by simpa using hl
    rcases hl' with rfl | rfl
    · exact wpOp_mono (fun a' w' h' => ⟨h'.1, by rw [upBits_set]; exact trH_sound hs hQ r f _ a' w' hc2 h'.1 h'.2⟩) h.1
    · exact wpOp_mono (fun a' w' h' => ⟨h'.1, by rw [upBits_set]; exact trH_sound hs hQ s f _ a' w' hc3 h'.1 h'.2⟩) h.2
  | .take _ _ _, 0, m, a, w, hc, _, _ => by cases hc
  | .call _ _ _, 0, m, a, w, hc, _, _ => by cases hc
  | .fork _ _ _ _ _, 0, m, a, w, hc, _, _ => by cases hc

theorem wp_region_tree {id : Nat} {a : Act} {w : World} (S : World → Prop) (t : Tr) (n : Nat) (hn : ops.size = n) (hm : P.follows .mixedOrders = true) (hs : Region.noSelect ops = true)
    (hQ : ∀ d v c a w, Q (.panic c) (Act.put a d v) w → Q (.panic c) a w) (hc : okTree .any ops n t n 0 = true)
    (hS : S w.drew) (h : TrH P ops Q S t a w.drew) : (Code.region id ops true).wp P Q a w :=
  wp_region_held (S := S) hm (by subst hn; have := trH_sound hs hQ t ops.size 0 a w.drew hc hS h; rw [upBits_zero]; exact this)

theorem trH_take {i m : Nat} {r : Tr} {a : Act} {w : World} {oi : Oper} (v : Value) (hi : ops[i]? = some oi) (hy : YieldsIf P ops S oi v a) (h : TrH P ops Q S r (a.put oi.dst v) w) : TrH P ops Q S (.take i m r) a w :=
  ⟨oi, v, hi, hy, h⟩
theorem wpOp_of {i : Nat} {a : Act} {w : World} {oi : Oper} {R : Act → World → Prop} (hi : ops[i]? = some oi) (hw : Region.wanted oi (yielded ops a.tmps) = true)
    (h : ∀ K : Act → World → Prop, (∀ a' w', S w' → R a' w' → K a' w') → oi.wp P a w K Q) : wpOp P ops Q i (fun a' w' => S w' ∧ R a' w') a w := by
  unfold wpOp
  rw [hi]
  simp only [hw, if_true]
  exact .inl (h _ fun a' w' h1 h2 => ⟨h1, h2⟩)
theorem trH_call {i m : Nat} {r : Tr} {a : Act} {w : World} {oi : Oper} (hi : ops[i]? = some oi) (hw : Region.wanted oi (yielded ops a.tmps) = true)
    (h : ∀ K : Act → World → Prop, (∀ a' w', S w' → TrH P ops Q S r a' w' → K a' w') → oi.wp P a w K Q) : TrH P ops Q S (.call i m r) a w := wpOp_of hi hw h
theorem trH_fork {i j m : Nat} {r s : Tr} {a : Act} {w : World} {oi oj : Oper} (hi : ops[i]? = some oi) (hwi : Region.wanted oi (yielded ops a.tmps) = true) (hj : ops[j]? = some oj) (hwj : Region.wanted oj (yielded ops a.tmps) = true)
    (h1 : ∀ K : Act → World → Prop, (∀ a' w', S w' → TrH P ops Q S r a' w' → K a' w') → oi.wp P a w K Q)
    (h2 : ∀ K : Act → World → Prop, (∀ a' w', S w' → TrH P ops Q S s a' w' → K a' w') → oj.wp P a w K Q) : TrH P ops Q S (.fork i j m r s) a w := ⟨wpOp_of hi hwi h1, wpOp_of hj hwj h2⟩
theorem trH_done {a : Act} {w : World} (h : Q .normal a w) : TrH P ops Q S .done a w := h
end
end Go.Proofs.Ytlpidedijknohaa
