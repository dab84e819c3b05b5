/-
  A region that draws its order, as a tree: operations that yield a value in every world that meets a condition are taken as soon as they may be; where nothing else may come up a call is made, or memory is laid; where two or three of these may come up, all orders are walked. One check of the tree, by numbers whose bits tell what has come up, serves for all its steps.
-/
import Derived.Test.YtdgfbpkpfmdjjaaHeld
namespace Go.Proofs.Ytdgfbpkpfmdjjaa
/-- an order, with its forks: the numbers of operations, and what has come up ahead of each -/
inductive Tr3 where
  | done : Tr3
  | take (i m : Nat) (r : Tr3) : Tr3
  | call (i m : Nat) (r : Tr3) : Tr3
  | fork (i j m : Nat) (r s : Tr3) : Tr3
  | fork3 (i j l m : Nat) (r s t : Tr3) : Tr3
section
variable {P : Program} {ops : Array Oper} {Q : Exit → Act → World → Prop} {md : Region.Mode} {S : World → Prop}
def okTree3 (md : Region.Mode) (ops : Array Oper) (n : Nat) : Tr3 → Nat → Nat → Bool
  | .done, _, m => (readyB md ops n m).isEmpty
  | .take i k r, f + 1, m => m == k && ((freeB md ops n k i && (readyB md ops n k).contains i) && okTree3 md ops n r f (k ||| 1 <<< i))
  | .call i k r, f + 1, m => m == k && (decide (readyB md ops n k = [i]) && okTree3 md ops n r f (k ||| 1 <<< i))
  | .fork i j k r s, f + 1, m => m == k && (decide (readyB md ops n k = [i, j]) && (okTree3 md ops n r f (k ||| 1 <<< i) && okTree3 md ops n s f (k ||| 1 <<< j)))
  | .fork3 i j l k r s t, f + 1, m => m == k && (decide (readyB md ops n k = [i, j, l]) && (okTree3 md ops n r f (k ||| 1 <<< i) && (okTree3 md ops n s f (k ||| 1 <<< j) && okTree3 md ops n t f (k ||| 1 <<< l))))
  | _, 0, _ => false
/-- what is to be shown, along the tree -/
def TrJ (P : Program) (ops : Array Oper) (Q : Exit → Act → World → Prop) (S : World → Prop) : Tr3 → Act → World → Prop
  | .done, a, w => Q .normal a w
  | .take i _ r, a, w => ∃ oi v, ops[i]? = some oi ∧ YieldsIf P ops S oi v a ∧ TrJ P ops Q S r (a.put oi.dst v) w
  | .call i _ r, a, w => wpOp P ops Q i (fun a' w' => S w' ∧ TrJ P ops Q S r a' w') a w
  | .fork i j _ r s, a, w => wpOp P ops Q i (fun a' w' => S w' ∧ TrJ P ops Q S r a' w') a w ∧ wpOp P ops Q j (fun a' w' => S w' ∧ TrJ P ops Q S s a' w') a w
  | .fork3 i j l _ r s t, a, w => wpOp P ops Q i (fun a' w' => S w' ∧ TrJ P ops Q S r a' w') a w ∧ wpOp P ops Q j (fun a' w' => S w' ∧ TrJ P ops Q S s a' w') a w ∧ wpOp P ops Q l (fun a' w' => S w' ∧ TrJ P ops Q S t a' w') a w

theorem trJ_sound (hs : Region.noSelect ops = true) (hQ : ∀ d v c a w, Q (.panic c) (Act.put a d v) w → Q (.panic c) a w) :
    ∀ (t : Tr3) (f m : Nat) (a : Act) (w : World), okTree3 md ops ops.size t f m = true → S w → TrJ P ops Q S t a w → wpAnyH P md ops Q S f (upBits ops.size m) a w
  | .done, f, m, a, w, hc, hS, h => wpAnyH_done (by rw [readyB_eq]; simpa [okTree3] using hc) h f
  | .take i k r, f + 1, m, a, w, hc, hS, h => by
    simp only [okTree3, Bool.and_eq_true, beq_iff_eq] at hc
    obtain ⟨rfl, ⟨hc1, hc2⟩, hc3⟩ := hc
    obtain ⟨oi, v, hi, hy, hr⟩ := h
    refine wpAnyH_take hi hs (by rw [freeB_eq]; exact hc1) (by rw [readyB_eq]; exact hc2) (fun c a w => hQ oi.dst v c a w) hy hS ?_
    rw [upBits_set]
    exact trJ_sound hs hQ r f _ _ w hc3 hS hr
  | .call i k r, f + 1, m, a, w, hc, hS, h => by
    simp only [okTree3, Bool.and_eq_true, decide_eq_true_eq, beq_iff_eq] at hc
    obtain ⟨rfl, hc1, hc2⟩ := hc
    refine wpAnyH_all (rs := [i]) (by rw [readyB_eq]; exact hc1) (by simp) fun j hj => ?_
    obtain rfl : j = i := by simpa using hj
    exact wpOp_mono (fun a' w' h' => ⟨h'.1, by rw [upBits_set]; exact trJ_sound hs hQ r f _ a' w' hc2 h'.1 h'.2⟩) h
  | .fork i j k r s, f + 1, m, a, w, hc, hS, h => by
    simp only [okTree3, Bool.and_eq_true, decide_eq_true_eq, beq_iff_eq] at hc
    obtain ⟨rfl, hc1, hc2, hc3⟩ := hc
    refine wpAnyH_all (rs := [i, j]) (by rw [readyB_eq]; exact hc1) (by simp) fun l hl => ?_
    have hl' : l = i ∨ l = j := by simpa using hl
    rcases hl' with rfl | rfl
    · exact wpOp_mono (fun a' w' h' => ⟨h'.1, by rw [upBits_set]; exact trJ_sound hs hQ r f _ a' w' hc2 h'.1 h'.2⟩) h.1
    · exact wpOp_mono (fun a' w' h' => ⟨h'.1, by rw [upBits_set]; exact trJ_sound hs hQ s f _ a' w' hc3 h'.1 h'.2⟩) h.2
  | .fork3 i j l k r s t, f + 1, m, a, w, hc, hS, h => by
    simp only [okTree3, Bool.and_eq_true, decide_eq_true_eq, beq_iff_eq] at hc
    obtain ⟨rfl, hc1, hc2, hc3, hc4⟩ := hc
    refine wpAnyH_all (rs := [i, j, l]) (by rw [readyB_eq]; exact hc1) (by simp) fun q hq => ?_
    have hq' : q = i ∨ q = j ∨ q = l := by simpa using hq
    rcases hq' with rfl | rfl | rfl
    · exact wpOp_mono (fun a' w' h' => ⟨h'.1, by rw [upBits_set]; exact trJ_sound hs hQ r f _ a' w' hc2 h'.1 h'.2⟩) h.1
    · exact wpOp_mono (fun a' w' h' => ⟨h'.1, by rw [upBits_set]; exact trJ_sound hs hQ s f _ a' w' hc3 h'.1 h'.2⟩) h.2.1
    · exact wpOp_mono (fun a' w' h' => ⟨h'.1, by rw [upBits_set]; exact trJ_sound hs hQ t f _ a' w' hc4 h'.1 h'.2⟩) h.2.2
  | .take _ _ _, 0, m, a, w, hc, _, _ => by cases hc
  | .call _ _ _, 0, m, a, w, hc, _, _ => by cases hc
  | .fork _ _ _ _ _, 0, m, a, w, hc, _, _ => by cases hc
  | .fork3 _ _ _ _ _ _ _, 0, m, a, w, hc, _, _ => by cases hc

theorem wp_region_tree3 {id : Nat} {a : Act} {w : World} (S : World → Prop) (t : Tr3) (n : Nat) (hn : ops.size = n) (hm : P.follows .mixedOrders = true) (hs : Region.noSelect ops = true)
    (hQ : ∀ d v c a w, Q (.panic c) (Act.put a d v) w → Q (.panic c) a w) (hc : okTree3 .any ops n t n 0 = true)
    (hS : S w.drew) (h : TrJ P ops Q S t a w.drew) : (Code.region id ops true).wp P Q a w :=
  wp_region_held (S := S) hm (by subst hn; have := trJ_sound hs hQ t ops.size 0 a w.drew hc hS h; rw [upBits_zero]; exact this)

theorem trJ_take {i m : Nat} {r : Tr3} {a : Act} {w : World} {oi : Oper} (v : Value) (hi : ops[i]? = some oi) (hy : YieldsIf P ops S oi v a) (h : TrJ P ops Q S r (a.put oi.dst v) w) : TrJ P ops Q S (.take i m r) a w :=
  ⟨oi, v, hi, hy, h⟩
theorem wpOp_of3 {i : Nat} {a : Act} {w : World} {oi : Oper} {R : Act → World → Prop} (hi : ops[i]? = some oi) (hw : Region.wanted oi (yielded ops a.tmps) = true)
    (h : ∀ K : Act → World → Prop, (∀ a' w', S w' → R a' w' → K a' w') → oi.wp P a w K Q) : wpOp P ops Q i (fun a' w' => S w' ∧ R a' w') a w := by
  unfold wpOp
  rw [hi]
  simp only [hw, if_true]
  exact .inl (h _ fun a' w' h1 h2 => ⟨h1, h2⟩)
theorem trJ_call {i m : Nat} {r : Tr3} {a : Act} {w : World} {oi : Oper} (hi : ops[i]? = some oi) (hw : Region.wanted oi (yielded ops a.tmps) = true)
    (h : ∀ K : Act → World → Prop, (∀ a' w', S w' → TrJ P ops Q S r a' w' → K a' w') → oi.wp P a w K Q) : TrJ P ops Q S (.call i m r) a w := wpOp_of3 hi hw h
theorem trJ_fork {i j m : Nat} {r s : Tr3} {a : Act} {w : World} {oi oj : Oper} (hi : ops[i]? = some oi) (hwi : Region.wanted oi (yielded ops a.tmps) = true) (hj : ops[j]? = some oj) (hwj : Region.wanted oj (yielded ops a.tmps) = true)
    (h1 : ∀ K : Act → World → Prop, (∀ a' w', S w' → TrJ P ops Q S r a' w' → K a' w') → oi.wp P a w K Q)
    (h2 : ∀ K : Act → World → Prop, (∀ a' w', S w' → TrJ P ops Q S s a' w' → K a' w') → oj.wp P a w K Q) : TrJ P ops Q S (.fork i j m r s) a w := ⟨wpOp_of3 hi hwi h1, wpOp_of3 hj hwj h2⟩
theorem trJ_fork3 {i j l m : Nat} {r s t : Tr3} {a : Act} {w : World} {oi oj ol : Oper} (hi : ops[i]? = some oi) (hwi : Region.wanted oi (yielded ops a.tmps) = true) (hj : ops[j]? = some oj) (hwj : Region.wanted oj (yielded ops a.tmps) = true) (hl : ops[l]? = some ol) (hwl : Region.wanted ol (yielded ops a.tmps) = true)
    (h1 : ∀ K : Act → World → Prop, (∀ a' w', S w' → TrJ P ops Q S r a' w' → K a' w') → oi.wp P a w K Q)
    (h2 : ∀ K : Act → World → Prop, (∀ a' w', S w' → TrJ P ops Q S s a' w' → K a' w') → oj.wp P a w K Q)
    (h3 : ∀ K : Act → World → Prop, (∀ a' w', S w' → TrJ P ops Q S t a' w' → K a' w') → ol.wp P a w K Q) : TrJ P ops Q S (.fork3 i j l m r s t) a w := ⟨wpOp_of3 hi hwi h1, wpOp_of3 hj hwj h2, wpOp_of3 hl hwl h3⟩
theorem trJ_done {a : Act} {w : World} (h : Q .normal a w) : TrJ P ops Q S .done a w := h
end
end Go.Proofs.Ytdgfbpkpfmdjjaa
