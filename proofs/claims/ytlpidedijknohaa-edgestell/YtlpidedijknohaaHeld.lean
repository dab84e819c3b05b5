/-
  A region that draws its order, in one order: operations that yield a value in every world that meets a condition are taken as soon as they may be; a call is made when nothing else may come up; the condition is kept by each call. One check of the order, by numbers whose bits tell what has come up, serves for all its steps.
-/
import Derived.OrdersHeld
import Derived.Laws.Rows
namespace Go.Proofs.Ytlpidedijknohaa
section
variable {P : Program} {ops : Array Oper} {Q : Exit → Act → World → Prop} {md : Region.Mode} {S : World → Prop}

/-- what has come up, as the bits of a number -/
def upBits (n m : Nat) : Array Bool := ((List.range n).map fun i => m.testBit i).toArray
theorem upBits_getD (n m i : Nat) (d : Bool) : (upBits n m).getD i d = if i < n then m.testBit i else d := by
  by_cases h : i < n
  · simp [upBits, Array.getD_eq_getD_getElem?, h]
  · simp [upBits, Array.getD_eq_getD_getElem?, h]
theorem upBits_set (n m i : Nat) : (upBits n m).setIfInBounds i true = upBits n (m ||| 1 <<< i) := by
  apply Array.ext_getElem?
  intro j
  rw [Array.getElem?_setIfInBounds]
  by_cases hj : j < n
  · by_cases h : i = j
    · subst h
      simp [upBits, hj]
    · rw [if_neg h]
      have : (1 <<< i).testBit j = false := by rw [Nat.one_shiftLeft, Nat.testBit_two_pow]; simp [h]
      simp only [upBits, List.getElem?_toArray, List.getElem?_map, List.getElem?_range hj, Option.map_some, Nat.testBit_or, this, Bool.or_false]
  · by_cases h : i = j
    · subst h
      simp [upBits, hj]
    · rw [if_neg h]
      simp [upBits, hj]
theorem upBits_zero (n : Nat) : Array.replicate n false = upBits n 0 := by
  apply Array.ext_getElem?
  intro j
  by_cases hj : j < n
  · simp [upBits, hj]
  · simp [upBits, hj]
def readyB (md : Region.Mode) (ops : Array Oper) (n m : Nat) : List Nat :=
  (List.range n).filter fun i => !m.testBit i && ((ops[i]?).map (·.after.all fun e => !Region.binds md e || (if e.on < n then m.testBit e.on else false))).getD false
theorem readyB_eq (m : Nat) : Region.ready md ops (upBits ops.size m) = readyB md ops ops.size m := by
  unfold Region.ready readyB
  apply List.filter_congr
  intro i hi
  have hi' : i < ops.size := by simpa using hi
  simp only [upBits_getD, if_pos hi']
def freeB (md : Region.Mode) (ops : Array Oper) (n m i : Nat) : Bool :=
  match ops[i]? with
  | none => false
  | some oi => (List.range n).all fun j => j == i || m.testBit j || match ops[j]? with
      | some oj => oj.after.any (fun e => Region.binds md e && e.on == i) || oi.apart ops oj
      | none => true
theorem freeB_eq (m i : Nat) : Region.free md ops (upBits ops.size m) i = freeB md ops ops.size m i := by
  unfold Region.free freeB
  cases ops[i]? with
  | none => rfl
  | some oi =>
    simp only []
    rw [Bool.eq_iff_iff, List.all_eq_true, List.all_eq_true]
    refine forall_congr' fun j => forall_congr' fun hj => ?_
    have hj' : j < ops.size := by simpa using hj
    rw [upBits_getD, if_pos hj']
    exact Iff.rfl

/-- the order's check: a number, whether it is a call, and what has come up ahead of it -/
def okOrder (md : Region.Mode) (ops : Array Oper) (n : Nat) : List (Nat × Bool × Nat) → Nat → Bool
  | [], m => (readyB md ops n m).isEmpty
  | (i, c, k) :: rest, m =>
    m == k && ((match c with | true => decide (readyB md ops n k = [i]) | false => freeB md ops n k i && (readyB md ops n k).contains i) && okOrder md ops n rest (k ||| 1 <<< i))

/-- what is to be shown, in that order -/
def SeqH (P : Program) (ops : Array Oper) (Q : Exit → Act → World → Prop) (S : World → Prop) : List (Nat × Bool × Nat) → Act → World → Prop
  | [], a, w => Q .normal a w
  | (i, true, _) :: rest, a, w => wpOp P ops Q i (fun a' w' => S w' ∧ SeqH P ops Q S rest a' w') a w
  | (i, false, _) :: rest, a, w => ∃ oi v, ops[i]? = some oi ∧ YieldsIf P ops S oi v a ∧ SeqH P ops Q S rest (a.put oi.dst v) w

theorem seqH_sound (hs : Region.noSelect ops = true) (hQ : ∀ d v c a w, Q (.panic c) (Act.put a d v) w → Q (.panic c) a w) :
    ∀ (order : List (Nat × Bool × Nat)) (m : Nat) (a : Act) (w : World), okOrder md ops ops.size order m = true → S w → SeqH P ops Q S order a w → wpAnyH P md ops Q S order.length (upBits ops.size m) a w
  | [], m, a, w, hc, hS, h => wpAnyH_done (by rw [readyB_eq]; simpa [okOrder] using hc) h 0
  | (i, true, k) :: rest, m, a, w, hc, hS, h => by
    simp only [okOrder, Bool.and_eq_true, decide_eq_true_eq, beq_iff_eq] at hc
    obtain ⟨rfl, hc1, hc2⟩ := hc
    refine wpAnyH_all (rs := [i]) (by rw [readyB_eq]; exact hc1) (by simp) fun j hj => ?_
    obtain rfl : j = i := by simpa using hj
    exact wpOp_mono (fun a' w' h' => ⟨h'.1, by rw [upBits_set]; exact seqH_sound hs hQ rest _ a' w' hc2 h'.1 h'.2⟩) h
  | (i, false, k) :: rest, m, a, w, hc, hS, h => by
    simp only [okOrder, Bool.and_eq_true, beq_iff_eq] at hc
    obtain ⟨rfl, ⟨hc1, hc2⟩, hc3⟩ := hc
    obtain ⟨oi, v, hi, hy, hr⟩ := h
    refine wpAnyH_take hi hs (by rw [freeB_eq]; exact hc1) (by rw [readyB_eq]; exact hc2) (fun c a w => hQ oi.dst v c a w) hy hS ?_
    rw [upBits_set]
    exact seqH_sound hs hQ rest _ _ w hc3 hS hr

theorem wp_region_seq {id : Nat} {a : Act} {w : World} (S : World → Prop) (order : List (Nat × Bool × Nat)) (n : Nat) (hn : ops.size = n) (hm : P.follows .mixedOrders = true) (hs : Region.noSelect ops = true)
    (hQ : ∀ d v c a w, Q (.panic c) (Act.put a d v) w → Q (.panic c) a w) (hc : okOrder .any ops n order 0 = true) (hl : order.length = n)
    (hS : S w.drew) (h : SeqH P ops Q S order a w.drew) : (Code.region id ops true).wp P Q a w :=
  wp_region_held (S := S) hm (by subst hn; have := seqH_sound hs hQ order 0 a w.drew hc hS h; rw [hl] at this; rw [upBits_zero]; exact this)

theorem seqH_take {i m : Nat} {rest : List (Nat × Bool × Nat)} {a : Act} {w : World} {oi : Oper} (v : Value) (hi : ops[i]? = some oi) (hy : YieldsIf P ops S oi v a) (h : SeqH P ops Q S rest (a.put oi.dst v) w) : SeqH P ops Q S ((i, false, m) :: rest) a w :=
  ⟨oi, v, hi, hy, h⟩
theorem seqH_call {i m : Nat} {rest : List (Nat × Bool × Nat)} {a : Act} {w : World} {oi : Oper} (hi : ops[i]? = some oi) (hw : Region.wanted oi (yielded ops a.tmps) = true)
    (h : ∀ K : Act → World → Prop, (∀ a' w', S w' → SeqH P ops Q S rest a' w' → K a' w') → oi.wp P a w K Q) : SeqH P ops Q S ((i, true, m) :: rest) a w := by
  show wpOp P ops Q i _ a w
  unfold wpOp
  rw [hi]
  simp only [hw, if_true]
  exact .inl (h _ fun a' w' h1 h2 => ⟨h1, h2⟩)
theorem seqH_done {a : Act} {w : World} (h : Q .normal a w) : SeqH P ops Q S [] a w := h
theorem yields_eql {o : Oper} {a : Act} (ty ty' : TypeId) (x y : Operand) (ho : o.op = .binOp .eql ty x y ty') (hw : Region.wanted o (yielded ops a.tmps) = true) (X Y : Array Value) (hx : a.eval x = .agg X) (hy : a.eval y = .agg Y) (hg : P.eqGuardType P.depth ty = false)
    (h : ∀ W, (binOp .eql ty (.agg X) (.agg Y)).run P W = .ok (.bool true) W) : YieldsIf P ops S o (.bool true) a :=
  .inl ⟨hw, fun W _ => by
    have hgd : (eqGuard .eql ty x y (.agg X) (.agg Y)).run P W = .ok () W := by
      have hp : ∀ W, (program).run P W = .ok P W := fun _ => rfl
      simp [eqGuard, hp, hg]
    simp [execOp, ho, hx, hy, h, hgd]⟩
theorem yields_load {o : Oper} {a : Act} (ty : TypeId) (x : Operand) (ho : o.op = .load ty x) (hw : Region.wanted o (yielded ops a.tmps) = true) (g : Nat) (hx : a.eval x = .pointer (some ⟨g, 0, none⟩)) (t : TypeId) (C : Array Value) (fr : Nat × Nat) (d : TypeDesc)
    (hg : ∀ W, S W → W.heap[g]? = some (.cells C t fr)) (hu : P.underlying ty = some d) (hd : (match d with | .struct _ | .array _ _ => true | _ => false) = true) (hi : (P.info? ty).map (·.size) = some C.size) : YieldsIf P ops S o (.agg C) a :=
  .inl ⟨hw, fun W hW => by simp only [execOp, ho, hx, Instr.loadAt, Instr.sureAddr, Sem.run_bind, Sem.run_pure, Result.andThen_ok, run_loadVar_row W g t ty C fr d (hg W hW) hu hd hi]⟩
end
end Go.Proofs.Ytlpidedijknohaa
