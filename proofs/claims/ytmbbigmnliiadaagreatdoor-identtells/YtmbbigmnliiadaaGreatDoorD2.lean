/-
  A region that draws its order, in one order: operations that yield a value in every world that meets a condition are taken as soon as they may be; a call is made when nothing else may come up; the condition is kept by each call. One check of the order, by numbers whose bits tell what has come up, serves for all its steps.
  A region that draws its order, as a tree: operations that yield a value in every world that meets a condition are taken as soon as they may be; where nothing else may come up a call is made, or memory is laid; where two of these may come up, both orders are walked. One check of the tree, by numbers whose bits tell what has come up, serves for all its steps.
  A region whose operations only read: an operation that isn't wanted.
  For Sha1Blocks: a block's first 64 bytes are all that is pressed; a word told in bytes, and put together again.
  For Sha1Steps: a step and Back undo each other; arrays of words are equal to themselves; an argument that is a chain.
  Laws for layer 5: '==' of two rows of words; a part of a row that is loaded or stored whole.
  Contracts of the program's pass and markedBy (package detect).
  The contract of the program's markedBy (package detect): does a block's sibling end where it does?
  The contract of the program's Marked (package detect).
-/
import Derived.OrdersHeld
import Derived.Laws.Rows
import Derived.Test.YtmbbigmnliiadaaGreatDoorRows
import Derived.StillTailTactics
import Derived.Test.YtmbbigmnliiadaaGreatDoorP2
import Derived.ChangeKeysEq
import Derived.OpenShut
import Derived.Test.YtmbbigmnliiadaaGreatDoorD1
namespace Go.Proofs.YtmbbigmnliiadaaGreatDoor
section
variable {P : Program} {ops : Array Oper} {Q : Exit → Act → World → Prop} {md : Region.Mode} {S : World → Prop}

/-- what has come up, as the bits of a number -/
def upBits (n m : Nat) : Array Bool := ((List.range n).map fun i => m.testBit i).toArray
theorem upBits_getD (n m i : Nat) (d : Bool) : (upBits n m).getD i d = if i < n then m.testBit i else d := by
  by_cases h : i < n
  · simp [upBits, Array.getD_eq_getD_getElem?, h]
  · simp [upBits, Array.getD_eq_getD_getElem?, h]
theorem upBits_set (n m i : Nat) : (upBits n m).setIfInBounds i true = upBits n (m ||| 1 <<< i) := by
  apply Array.ext_getElem?
  intro j
  rw [Array.getElem?_setIfInBounds]
  by_cases hj : j < n
  · by_cases h : i = j
    · subst h
      simp [upBits, hj]
    · rw [if_neg h]
      have : (1 <<< i).testBit j = false := by rw [Nat.one_shiftLeft, Nat.testBit_two_pow]; simp [h]
      simp only [upBits, List.getElem?_toArray, List.getElem?_map, List.getElem?_range hj, Option.map_some, Nat.testBit_or, this, Bool.or_false]
  · by_cases h : i = j
    · subst h
      simp [upBits, hj]
    · rw [if_neg h]
      simp [upBits, hj]
theorem upBits_zero (n : Nat) : Array.replicate n false = upBits n 0 := by
  apply Array.ext_getElem?
  intro j
  by_cases hj : j < n
  · simp [upBits, hj]
  · simp [upBits, hj]
def readyB (md : Region.Mode) (ops : Array Oper) (n m : Nat) : List Nat :=
  (List.range n).filter fun i => !m.testBit i && ((ops[i]?).map (·.after.all fun e => !Region.binds md e || (if e.on < n then m.testBit e.on else false))).getD false
theorem readyB_eq (m : Nat) : Region.ready md ops (upBits ops.size m) = readyB md ops ops.size m := by
  unfold Region.ready readyB
  apply List.filter_congr
  intro i hi
  have hi' : i < ops.size := by simpa using hi
  simp only [upBits_getD, if_pos hi']
def freeB (md : Region.Mode) (ops : Array Oper) (n m i : Nat) : Bool :=
  match ops[i]? with
  | none => false
  | some oi => (List.range n).all fun j => j == i || m.testBit j || match ops[j]? with
      | some oj => oj.after.any (fun e => Region.binds md e && e.on == i) || oi.apart ops oj
      | none => true
theorem freeB_eq (m i : Nat) : Region.free md ops (upBits ops.size m) i = freeB md ops ops.size m i := by
  unfold Region.free freeB
  cases ops[i]? with
  | none => rfl
  | some oi =>
    simp only []
    rw [Bool.eq_iff_iff, List.all_eq_true, List.all_eq_true]
    refine forall_congr' fun j => forall_congr' fun hj => ?_
    have hj' : j < ops.size := by simpa using hj
    rw [upBits_getD, if_pos hj']
    exact Iff.rfl

/-- the order's check: a number, whether it is a call, and what has come up ahead of it -/
def okOrder (md : Region.Mode) (ops : Array Oper) (n : Nat) : List (Nat × Bool × Nat) → Nat → Bool
  | [], m => (readyB md ops n m).isEmpty
  | (i, c, k) :: rest, m =>
    m == k && ((match c with | true => decide (readyB md ops n k = [i]) | false => freeB md ops n k i && (readyB md ops n k).contains i) && okOrder md ops n rest (k ||| 1 <<< i))

/-- what is to be shown, in that order -/
def SeqH (P : Program) (ops : Array Oper) (Q : Exit → Act → World → Prop) (S : World → Prop) : List (Nat × Bool × Nat) → Act → World → Prop
  | [], a, w => Q .normal a w
  | (i, true, _) :: rest, a, w => wpOp P ops Q i (fun a' w' => S w' ∧ SeqH P ops Q S rest a' w') a w
  | (i, false, _) :: rest, a, w => ∃ oi v, ops[i]? = some oi ∧ YieldsIf P ops S oi v a ∧ SeqH P ops Q S rest (a.put oi.dst v) w

theorem seqH_sound (hs : Region.noSelect ops = true) (hQ : ∀ d v c a w, Q (.panic c) (Act.put a d v) w → Q (.panic c) a w) :
    ∀ (order : List (Nat × Bool × Nat)) (m : Nat) (a : Act) (w : World), okOrder md ops ops.size order m = true → S w → SeqH P ops Q S order a w → wpAnyH P md ops Q S order.length (upBits ops.size m) a w
  | [], m, a, w, hc, hS, h => wpAnyH_done (by rw [readyB_eq]; simpa [okOrder] using hc) h 0
  | (i, true, k) :: rest, m, a, w, hc, hS, h => by
    simp only [okOrder, Bool.and_eq_true, decide_eq_true_eq, beq_iff_eq] at hc
    obtain ⟨rfl, hc1, hc2⟩ := hc
    refine wpAnyH_all (rs := [i]) (by rw [readyB_eq]; exact hc1) (by simp) fun j hj => ?_
    obtain rfl : j = i := by simpa using hj
    exact wpOp_mono (fun a' w' h' => ⟨h'.1, by rw [upBits_set]; exact seqH_sound hs hQ rest _ a' w' hc2 h'.1 h'.2⟩) h
  | (i, false, k) :: rest, m, a, w, hc, hS, h => by
    simp only [okOrder, Bool.and_eq_true, beq_iff_eq] at hc
    obtain ⟨rfl, ⟨hc1, hc2⟩, hc3⟩ := hc
    obtain ⟨oi, v, hi, hy, hr⟩ := h
    refine wpAnyH_take hi hs (by rw [freeB_eq]; exact hc1) (by rw [readyB_eq]; exact hc2) (fun c a w => hQ oi.dst v c a w) hy hS ?_
    rw [upBits_set]
    exact seqH_sound hs hQ rest _ _ w hc3 hS hr

theorem wp_region_seq {id : Nat} {a : Act} {w : World} (S : World → Prop) (order : List (Nat × Bool × Nat)) (n : Nat) (hn : ops.size = n) (hm : P.follows .mixedOrders = true) (hs : Region.noSelect ops = true)
    (hQ : ∀ d v c a w, Q (.panic c) (Act.put a d v) w → Q (.panic c) a w) (hc : okOrder .any ops n order 0 = true) (hl : order.length = n)
    (hS : S w.drew) (h : SeqH P ops Q S order a w.drew) : (Code.region id ops true).wp P Q a w :=
  wp_region_held (S := S) hm (by subst hn; have := seqH_sound hs hQ order 0 a w.drew hc hS h; rw [hl] at this; rw [upBits_zero]; exact this)

theorem seqH_take {i m : Nat} {rest : List (Nat × Bool × Nat)} {a : Act} {w : World} {oi : Oper} (v : Value) (hi : ops[i]? = some oi) (hy : YieldsIf P ops S oi v a) (h : SeqH P ops Q S rest (a.put oi.dst v) w) : SeqH P ops Q S ((i, false, m) :: rest) a w :=
  ⟨oi, v, hi, hy, h⟩
theorem seqH_call {i m : Nat} {rest : List (Nat × Bool × Nat)} {a : Act} {w : World} {oi : Oper} (hi : ops[i]? = some oi) (hw : Region.wanted oi (yielded ops a.tmps) = true)
    (h : ∀ K : Act → World → Prop, (∀ a' w', S w' → SeqH P ops Q S rest a' w' → K a' w') → oi.wp P a w K Q) : SeqH P ops Q S ((i, true, m) :: rest) a w := by
  show wpOp P ops Q i _ a w
  unfold wpOp
  rw [hi]
  simp only [hw, if_true]
  exact .inl (h _ fun a' w' h1 h2 => ⟨h1, h2⟩)
theorem seqH_done {a : Act} {w : World} (h : Q .normal a w) : SeqH P ops Q S [] a w := h
theorem yields_eql {o : Oper} {a : Act} (ty ty' : TypeId) (x y : Operand) (ho : o.op = .binOp .eql ty x y ty') (hw : Region.wanted o (yielded ops a.tmps) = true) (X Y : Array Value) (hx : a.eval x = .agg X) (hy : a.eval y = .agg Y) (hg : P.eqGuardType P.depth ty = false)
    (h : ∀ W, (binOp .eql ty (.agg X) (.agg Y)).run P W = .ok (.bool true) W) : YieldsIf P ops S o (.bool true) a :=
  .inl ⟨hw, fun W _ => by
    have hgd : (eqGuard .eql ty x y (.agg X) (.agg Y)).run P W = .ok () W := by
      have hp : ∀ W, (program).run P W = .ok P W := fun _ => rfl
      simp [eqGuard, hp, hg]
    simp [execOp, ho, hx, hy, h, hgd]⟩
theorem yields_load {o : Oper} {a : Act} (ty : TypeId) (x : Operand) (ho : o.op = .load ty x) (hw : Region.wanted o (yielded ops a.tmps) = true) (g : Nat) (hx : a.eval x = .pointer (some ⟨g, 0, none⟩)) (t : TypeId) (C : Array Value) (fr : Nat × Nat) (d : TypeDesc)
    (hg : ∀ W, S W → W.heap[g]? = some (.cells C t fr)) (hu : P.underlying ty = some d) (hd : (match d with | .struct _ | .array _ _ => true | _ => false) = true) (hi : (P.info? ty).map (·.size) = some C.size) : YieldsIf P ops S o (.agg C) a :=
  .inl ⟨hw, fun W hW => by simp only [execOp, ho, hx, Instr.loadAt, Instr.sureAddr, Sem.run_bind, Sem.run_pure, Result.andThen_ok, run_loadVar_row W g t ty C fr d (hg W hW) hu hd hi]⟩
end
end Go.Proofs.YtmbbigmnliiadaaGreatDoor
namespace Go.Proofs.YtmbbigmnliiadaaGreatDoor
/-- an order, with its forks: the numbers of operations, and what has come up ahead of each -/
inductive Tr where
  | done : Tr
  | take (i m : Nat) (r : Tr) : Tr
  | call (i m : Nat) (r : Tr) : Tr
  | fork (i j m : Nat) (r s : Tr) : Tr
section
variable {P : Program} {ops : Array Oper} {Q : Exit → Act → World → Prop} {md : Region.Mode} {S : World → Prop}
def okTree (md : Region.Mode) (ops : Array Oper) (n : Nat) : Tr → Nat → Nat → Bool
  | .done, _, m => (readyB md ops n m).isEmpty
  | .take i k r, f + 1, m => m == k && ((freeB md ops n k i && (readyB md ops n k).contains i) && okTree md ops n r f (k ||| 1 <<< i))
  | .call i k r, f + 1, m => m == k && (decide (readyB md ops n k = [i]) && okTree md ops n r f (k ||| 1 <<< i))
  | .fork i j k r s, f + 1, m => m == k && (decide (readyB md ops n k = [i, j]) && (okTree md ops n r f (k ||| 1 <<< i) && okTree md ops n s f (k ||| 1 <<< j)))
  | _, 0, _ => false
/-- what is to be shown, along the tree -/
def TrH (P : Program) (ops : Array Oper) (Q : Exit → Act → World → Prop) (S : World → Prop) : Tr → Act → World → Prop
  | .done, a, w => Q .normal a w
  | .take i _ r, a, w => ∃ oi v, ops[i]? = some oi ∧ YieldsIf P ops S oi v a ∧ TrH P ops Q S r (a.put oi.dst v) w
  | .call i _ r, a, w => wpOp P ops Q i (fun a' w' => S w' ∧ TrH P ops Q S r a' w') a w
  | .fork i j _ r s, a, w => wpOp P ops Q i (fun a' w' => S w' ∧ TrH P ops Q S r a' w') a w ∧ wpOp P ops Q j (fun a' w' => S w' ∧ TrH P ops Q S s a' w') a w

theorem trH_sound (hs : Region.noSelect ops = true) (hQ : ∀ d v c a w, Q (.panic c) (Act.put a d v) w → Q (.panic c) a w) :
    ∀ (t : Tr) (f m : Nat) (a : Act) (w : World), okTree md ops ops.size t f m = true → S w → TrH P ops Q S t a w → wpAnyH P md ops Q S f (upBits ops.size m) a w
  | .done, f, m, a, w, hc, hS, h => wpAnyH_done (by rw [readyB_eq]; simpa [okTree] using hc) h f
  | .take i k r, f + 1, m, a, w, hc, hS, h => by
    simp only [okTree, Bool.and_eq_true, beq_iff_eq] at hc
    obtain ⟨rfl, ⟨hc1, hc2⟩, hc3⟩ := hc
    obtain ⟨oi, v, hi, hy, hr⟩ := h
    refine wpAnyH_take hi hs (by rw [freeB_eq]; exact hc1) (by rw [readyB_eq]; exact hc2) (fun c a w => hQ oi.dst v c a w) hy hS ?_
    rw [upBits_set]
    exact trH_sound hs hQ r f _ _ w hc3 hS hr
  | .call i k r, f + 1, m, a, w, hc, hS, h => by
    simp only [okTree, Bool.and_eq_true, decide_eq_true_eq, beq_iff_eq] at hc
    obtain ⟨rfl, hc1, hc2⟩ := hc
    refine wpAnyH_all (rs := [i]) (by rw [readyB_eq]; exact hc1) (by simp) fun j hj => ?_
    obtain rfl : j = i := by simpa using hj
    exact wpOp_mono (fun a' w' h' => ⟨h'.1, by rw [upBits_set]; exact trH_sound hs hQ r f _ a' w' hc2 h'.1 h'.2⟩) h
  | .fork i j k r s, f + 1, m, a, w, hc, hS, h => by
    simp only [okTree, Bool.and_eq_true, decide_eq_true_eq, beq_iff_eq] at hc
    obtain ⟨rfl, hc1, hc2, hc3⟩ := hc
    refine wpAnyH_all (rs := [i, j]) (by rw [readyB_eq]; exact hc1) (by simp) fun l hl => ?_
    have hl' : l = i ∨ l = j := by simpa using hl
    rcases hl' with rfl | rfl
    · exact wpOp_mono (fun a' w' h' => ⟨h'.1, by rw [upBits_set]; exact trH_sound hs hQ r f _ a' w' hc2 h'.1 h'.2⟩) h.1
    · exact wpOp_mono (fun a' w' h' => ⟨h'.1, by rw [upBits_set]; exact trH_sound hs hQ s f _ a' w' hc3 h'.1 h'.2⟩) h.2
  | .take _ _ _, 0, m, a, w, hc, _, _ => by cases hc
  | .call _ _ _, 0, m, a, w, hc, _, _ => by cases hc
  | .fork _ _ _ _ _, 0, m, a, w, hc, _, _ => by cases hc

theorem wp_region_tree {id : Nat} {a : Act} {w : World} (S : World → Prop) (t : Tr) (n : Nat) (hn : ops.size = n) (hm : P.follows .mixedOrders = true) (hs : Region.noSelect ops = true)
    (hQ : ∀ d v c a w, Q (.panic c) (Act.put a d v) w → Q (.panic c) a w) (hc : okTree .any ops n t n 0 = true)
    (hS : S w.drew) (h : TrH P ops Q S t a w.drew) : (Code.region id ops true).wp P Q a w :=
  wp_region_held (S := S) hm (by subst hn; have := trH_sound hs hQ t ops.size 0 a w.drew hc hS h; rw [upBits_zero]; exact this)

theorem trH_take {i m : Nat} {r : Tr} {a : Act} {w : World} {oi : Oper} (v : Value) (hi : ops[i]? = some oi) (hy : YieldsIf P ops S oi v a) (h : TrH P ops Q S r (a.put oi.dst v) w) : TrH P ops Q S (.take i m r) a w :=
  ⟨oi, v, hi, hy, h⟩
theorem wpOp_of {i : Nat} {a : Act} {w : World} {oi : Oper} {R : Act → World → Prop} (hi : ops[i]? = some oi) (hw : Region.wanted oi (yielded ops a.tmps) = true)
    (h : ∀ K : Act → World → Prop, (∀ a' w', S w' → R a' w' → K a' w') → oi.wp P a w K Q) : wpOp P ops Q i (fun a' w' => S w' ∧ R a' w') a w := by
  unfold wpOp
  rw [hi]
  simp only [hw, if_true]
  exact .inl (h _ fun a' w' h1 h2 => ⟨h1, h2⟩)
theorem trH_call {i m : Nat} {r : Tr} {a : Act} {w : World} {oi : Oper} (hi : ops[i]? = some oi) (hw : Region.wanted oi (yielded ops a.tmps) = true)
    (h : ∀ K : Act → World → Prop, (∀ a' w', S w' → TrH P ops Q S r a' w' → K a' w') → oi.wp P a w K Q) : TrH P ops Q S (.call i m r) a w := wpOp_of hi hw h
theorem trH_fork {i j m : Nat} {r s : Tr} {a : Act} {w : World} {oi oj : Oper} (hi : ops[i]? = some oi) (hwi : Region.wanted oi (yielded ops a.tmps) = true) (hj : ops[j]? = some oj) (hwj : Region.wanted oj (yielded ops a.tmps) = true)
    (h1 : ∀ K : Act → World → Prop, (∀ a' w', S w' → TrH P ops Q S r a' w' → K a' w') → oi.wp P a w K Q)
    (h2 : ∀ K : Act → World → Prop, (∀ a' w', S w' → TrH P ops Q S s a' w' → K a' w') → oj.wp P a w K Q) : TrH P ops Q S (.fork i j m r s) a w := ⟨wpOp_of hi hwi h1, wpOp_of hj hwj h2⟩
theorem trH_done {a : Act} {w : World} (h : Q .normal a w) : TrH P ops Q S .done a w := h
end
end Go.Proofs.YtmbbigmnliiadaaGreatDoor
namespace Go.Proofs.YtmbbigmnliiadaaGreatDoor.Hw
theorem wpStill_skip {P : Program} {ops : Array Oper} {w : World} {Q : Act → Prop} {a : Act} {o : Oper} {rest : List Oper} (hn : Region.wanted o (yielded ops a.tmps) = false) (h : wpStill P ops w Q rest (a.put o.dst undef)) : wpStill P ops w Q (o :: rest) a := by
  unfold wpStill
  rw [if_neg (by rw [hn]; decide)]
  exact h
end Go.Proofs.YtmbbigmnliiadaaGreatDoor.Hw
namespace Go.Proofs.YtmbbigmnliiadaaGreatDoor.Hp
open Go.RowKit Hs
set_option linter.unusedVariables false

theorem words_take (l : List UInt8) : Sh.words (l.take 64) = Sh.words l := wordsTo_take64 l 64 (.inl (Nat.le_refl _)) 80
theorem stepsTo_take (l : List UInt8) (c : Sh.Ch) : ∀ t, Sh.stepsTo (l.take 64) c t = Sh.stepsTo l c t
  | 0 => rfl
  | t + 1 => by rw [Sh.stepsTo, Sh.stepsTo, stepsTo_take l c t, words_take]
theorem press_take (c : Sh.Ch) (l : List UInt8) : Sh.press c (l.take 64) = Sh.press c l := by rw [Sh.press, Sh.press, stepsTo_take]
theorem chain_next (f : List UInt8) (k : Nat) : Sh.chain f (k + 1) = Sh.press (Sh.chain f k) (f.drop (64 * k)) := by rw [Sh.chain, press_take]

theorem told_get (x : Sh.Ch) : ∀ n k j, k < n → j < 4 → (Sh.told x n).getD (4 * k + j) 0 = (Sh.be4 (fld x k)).getD j 0
  | 0, k, j, h, _ => absurd h (Nat.not_lt_zero _)
  | n + 1, k, j, h, hj => by
    have hl := Sh.told_length x n
    have hb : ∀ y, (Sh.be4 y).length = 4 := fun y => rfl
    rw [Sh.told, List.getD_eq_getElem?_getD, List.getD_eq_getElem?_getD]
    by_cases e : k = n
    · subst e
      rw [List.getElem?_append_right (by omega), hl]
      congr 2
      omega
    · rw [List.getElem?_append_left (by omega), ← List.getD_eq_getElem?_getD, told_get x n k j (by omega) hj, List.getD_eq_getElem?_getD]
theorem or_nat (a b : Nat) (ha : a < 4294967296) (hb : b < 4294967296) (c : Nat) (h : a ||| b = c) : bits .or .u32 (a : Int) (b : Int) = (c : Int) := by rw [u32_or_nat a b ha hb, h]
/-- a word's four bytes, or'ed together -/
theorem be4_or (x : UInt32) : ∃ b0 b1 b2 b3 : UInt8, Sh.be4 x = [b0, b1, b2, b3] ∧
    bits .or .u32 (bits .or .u32 (bits .or .u32 ((b0.toNat : Int) * 16777216) ((b1.toNat : Int) * 65536)) ((b2.toNat : Int) * 256)) (b3.toNat : Int) = tn x := by
  have hx := w_lt x
  refine ⟨_, _, _, _, rfl, ?_⟩
  have hm : ∀ n : Nat, n % 256 < 2 ^ 8 := fun n => Nat.mod_lt _ (by omega)
  rw [UInt8.toNat_ofNat', UInt8.toNat_ofNat', UInt8.toNat_ofNat', UInt8.toNat_ofNat', Nat.mod_eq_of_lt (hm _), Nat.mod_eq_of_lt (hm _), Nat.mod_eq_of_lt (hm _), Nat.mod_eq_of_lt (hm _)]
  obtain ⟨b0, h0⟩ : ∃ b, x.toNat / 16777216 % 256 = b := ⟨_, rfl⟩
  obtain ⟨b1, h1⟩ : ∃ b, x.toNat / 65536 % 256 = b := ⟨_, rfl⟩
  obtain ⟨b2, h2⟩ : ∃ b, x.toNat / 256 % 256 = b := ⟨_, rfl⟩
  obtain ⟨b3, h3⟩ : ∃ b, x.toNat % 256 = b := ⟨_, rfl⟩
  rw [h0, h1, h2, h3]
  have e0 : (b0 : Int) * 16777216 = ((b0 * 256 * 65536 : Nat) : Int) := by omega
  have e1 : (b1 : Int) * 65536 = ((b1 * 65536 : Nat) : Int) := by omega
  have e2 : (b2 : Int) * 256 = ((b2 * 256 : Nat) : Int) := by omega
  have o1 := or_add b0 b1 16 (by omega)
  have o2 := or_add (b0 * 256 + b1) b2 8 (by omega)
  have o3 := or_add ((b0 * 256 + b1) * 256 + b2) b3 0 (by omega)
  rw [show (2 : Nat) ^ 16 = 65536 by decide] at o1
  rw [show (2 : Nat) ^ 8 = 256 by decide] at o2
  rw [show (2 : Nat) ^ 0 = 1 by decide] at o3
  rw [Nat.mul_one, Nat.mul_one] at o3
  rw [e0, e1, e2, or_nat _ _ (by omega) (by omega) ((b0 * 256 + b1) * 256 * 256) (o1.trans (by omega)), or_nat _ _ (by omega) (by omega) (((b0 * 256 + b1) * 256 + b2) * 256) o2, or_nat _ _ (by omega) (by omega) _ o3]
  unfold tn
  omega
/-- the state of the walk over blocks: the chain's row -/
structure Su8 (w wr : World) (g : Nat) (x : Sh.Ch) : Prop where
  below : Below w.heap.size w wr
  lo : w.heap.size ≤ g
  row : wr.heap[g]? = some (.cells (cs x) 82 (0, 0))
theorem Su8.lt {w wr : World} {g : Nat} {x : Sh.Ch} (h : Su8 w wr g x) : g < wr.heap.size := (Array.getElem?_eq_some_iff.1 h.row).1
theorem Su8.step {w wr w1 : World} {g : Nat} {x : Sh.Ch} (h : Su8 w wr g x) (hb : Below wr.heap.size wr.drew w1) (y : Sh.Ch) : Su8 w (w1.setRow g (cs y)) g y :=
  ⟨below_setRow (h.below.drew.trans (hb.mono h.below.size)) h.lo _, h.lo, setRow_heap _ _ (cs x) _ _ _ (by rw [hb.block _ h.lt]; exact h.row)⟩
theorem Su8.more {w wr w1 : World} {g : Nat} {x : Sh.Ch} (h : Su8 w wr g x) (hb : Below wr.heap.size wr w1) : Su8 w w1 g x :=
  ⟨h.below.trans (hb.mono h.below.size), h.lo, by rw [hb.block _ h.lt]; exact h.row⟩
theorem info28c (x : Sh.Ch) : (Tryz.prog.info? 82).map (·.size) = some (cs x).size := info28
theorem conv_one (w : World) (c : UInt8) (v : Int) (hv : v = c.toNat) : (convert 54 9 (.slice (some ⟨w.heap.size, 0, none⟩) 1 1)).run Tryz.prog (w.alloc (.cells #[.int .u8 v] 5)) = .ok (.string ⟨#[c]⟩) (w.alloc (.cells #[.int .u8 v] 5)) := by
  subst hv
  rw [run_convert_bytes_arg (w.alloc (.cells #[.int .u8 (c.toNat : Int)] 5)) 54 5 Tryz.underlying54 Tryz.underlying5 w.heap.size 0 1 1 [(c.toNat : Int)] rfl (fun i hi => by
    have h0 : i = 0 := by omega
    subst h0
    rw [cell_of_row _ _ 0 _ _ _ (heap_alloc_new w _)]
    rfl) 9 Tryz.underlying9]
  simp [strOfNums]
theorem text_snoc (T : ByteArray) (x : UInt8) : (T ++ ⟨#[x]⟩ : ByteArray).data.toList = T.data.toList ++ [x] := by simp
end Go.Proofs.YtmbbigmnliiadaaGreatDoor.Hp
namespace Go.Proofs.YtmbbigmnliiadaaGreatDoor.Hp
open Go.RowKit Hs
set_option linter.unusedVariables false
set_option maxRecDepth 4000

theorem rot_nat (x : UInt32) (n m : Nat) (h0 : 0 < n) (h : n < 32) (hm : m = 32 - n) : (Sh.rot x n).toNat = (x.toNat % 2 ^ m) * 2 ^ n + x.toNat / 2 ^ m := by
  subst hm
  have hx := w_lt x
  have e1 : (x <<< UInt32.ofNat n).toNat = (x.toNat % 2 ^ (32 - n)) * 2 ^ n := by
    rw [UInt32.toNat_shiftLeft, UInt32.toNat_ofNat', Nat.mod_eq_of_lt (show n < 2 ^ 32 by omega), Nat.mod_eq_of_lt h, Nat.shiftLeft_eq]
    conv => lhs; rw [show (2 : Nat) ^ 32 = 2 ^ (32 - n) * 2 ^ n by rw [← Nat.pow_add]; congr 1; omega, Nat.mul_mod_mul_right]
  have e2 : (x >>> UInt32.ofNat (32 - n)).toNat = x.toNat / 2 ^ (32 - n) := by
    rw [UInt32.toNat_shiftRight, UInt32.toNat_ofNat', Nat.mod_eq_of_lt (show 32 - n < 2 ^ 32 by omega), Nat.mod_eq_of_lt (show 32 - n < 32 by omega), Nat.shiftRight_eq_div_pow]
  have h2 : x.toNat / 2 ^ (32 - n) < 2 ^ n := by
    rw [Nat.div_lt_iff_lt_mul (Nat.two_pow_pos _), ← Nat.pow_add, show n + (32 - n) = 32 by omega]
    exact hx
  rw [Sh.rot, UInt32.toNat_or, e1, e2]
  have := Nat.shiftLeft_add_eq_or_of_lt h2 (x.toNat % 2 ^ (32 - n))
  rw [Nat.shiftLeft_eq] at this
  exact this.symm
theorem rot_30_2 (x : UInt32) : Sh.rot (Sh.rot x 30) 2 = x := by
  have hx := w_lt x
  apply UInt32.toNat_inj.1
  rw [rot_nat _ 2 30 (by omega) (by omega) rfl, rot_nat _ 30 2 (by omega) (by omega) rfl]
  omega
theorem rot_2_30 (x : UInt32) : Sh.rot (Sh.rot x 2) 30 = x := by
  have hx := w_lt x
  apply UInt32.toNat_inj.1
  rw [rot_nat _ 30 2 (by omega) (by omega) rfl, rot_nat _ 2 30 (by omega) (by omega) rfl]
  omega
theorem back_step (x : Sh.Ch) (t : Nat) (v : UInt32) : Sh.back (Sh.step x t v) t v = x := by
  obtain ⟨a, b, c, d, e⟩ := x
  simp only [Sh.step, Sh.back, rot_30_2]
  congr 1
  generalize Sh.rot a 5 = r
  generalize Sh.mix t b c d = m
  apply UInt32.toBitVec_inj.1
  simp only [UInt32.toBitVec_sub, UInt32.toBitVec_add]
  have h : r.toBitVec + m.toBitVec + e.toBitVec + v.toBitVec = e.toBitVec + (r.toBitVec + m.toBitVec + v.toBitVec) := by ac_rfl
  rw [h, BitVec.add_sub_cancel]
theorem step_back (x : Sh.Ch) (t : Nat) (v : UInt32) : Sh.step (Sh.back x t v) t v = x := by
  obtain ⟨a, b, c, d, e⟩ := x
  simp only [Sh.step, Sh.back, rot_2_30]
  congr 1
  generalize Sh.rot b 5 = r
  generalize Sh.mix t (Sh.rot c 2) d e = m
  apply UInt32.toBitVec_inj.1
  simp only [UInt32.toBitVec_sub, UInt32.toBitVec_add]
  have h : r.toBitVec + m.toBitVec + (a.toBitVec - (r.toBitVec + m.toBitVec + v.toBitVec)) + v.toBitVec = (a.toBitVec - (r.toBitVec + m.toBitVec + v.toBitVec)) + (r.toBitVec + m.toBitVec + v.toBitVec) := by ac_rfl
  rw [h, BitVec.sub_add_cancel]
theorem mix_clamp (t n : Nat) (h : n = min t 79) (b c d : UInt32) : Sh.mix n b c d = Sh.mix t b c d := by
  subst h
  by_cases h : t ≤ 79
  · rw [Nat.min_eq_left h]
  · unfold Sh.mix
    rw [if_neg (by omega), if_neg (by omega), if_neg (by omega), if_neg (by omega), if_neg (by omega), if_neg (by omega)]
theorem step_clamp (x : Sh.Ch) (t n : Nat) (h : n = min t 79) (v : UInt32) : Sh.step x n v = Sh.step x t v := by rw [Sh.step, Sh.step, mix_clamp t n h]
theorem back_clamp (x : Sh.Ch) (t n : Nat) (h : n = min t 79) (v : UInt32) : Sh.back x n v = Sh.back x t v := by rw [Sh.back, Sh.back, mix_clamp t n h]

theorem cells26 : Tryz.prog.cellsOf 61 = 1 := by kernel_rfl
theorem run_items (d : Nat) (A : Array Value) (w : World) : ∀ is : List Nat, (∀ i ∈ is, ∃ x : Int, A[i]? = some (.int .u32 x)) → (Op.eqItems (d + 1) 61 1 A A is).run Tryz.prog w = .ok true w
  | [], _ => by simp [Op.eqItems]
  | i :: is, h => by
    obtain ⟨x, hx⟩ := h i (by simp)
    have hp : (part 61 A i).run Tryz.prog w = .ok (.int .u32 x) w := by simp [part, Tryz.isAgg61, hx]
    have ih := run_items d A w is (fun j hj => h j (by simp [hj]))
    simp [Op.eqItems, Sem.run_bind, hp, run_equalIn_int w d 61 .u32 .u32 x x Tryz.underlying61, ih]
theorem run_eql_words {t : TypeId} {n : Nat} (hu : Tryz.prog.underlying t = some (.array n 61)) (A : Array Value) (hA : ∀ i, i < n → ∃ x : Int, A[i]? = some (.int .u32 x)) (w : World) : (binOp .eql t (.agg A) (.agg A)).run Tryz.prog w = .ok (.bool true) w := by
  obtain ⟨i0, hi0⟩ : ∃ i, Tryz.prog.info? 61 = some i := by
    cases h : Tryz.prog.info? 61 with
    | some i => exact ⟨i, rfl⟩
    | none => have : (Tryz.prog.info? 61).isSome = true := by kernel_rfl
              rw [h] at this; cases this
  have h := run_equalIn_array (P := Tryz.prog) w 9999 A A hu hi0
  rw [cells26, run_items 9998 A w _ (fun i hi => hA i (by simpa using hi))] at h
  have h2 : (Op.equal t (.agg A) (.agg A)).run Tryz.prog w = .ok true w := h
  simp [binOp, h2]
theorem eql_ws29 (l : List UInt32) (w : World) : (binOp .eql 84 (.agg (ws l)) (.agg (ws l))).run Tryz.prog w = .ok (.bool true) w := run_eql_words Tryz.underlying84 _ (fun i hi => ⟨_, ws_get l i hi⟩) w
theorem eql_cs27 (x : Sh.Ch) (w : World) : (binOp .eql 69 (.agg (cs x)) (.agg (cs x))).run Tryz.prog w = .ok (.bool true) w := run_eql_words Tryz.underlying69 _ (fun i hi => ⟨_, cs_get x i hi⟩) w
theorem eql_cs28 (x : Sh.Ch) (w : World) : (binOp .eql 82 (.agg (cs x)) (.agg (cs x))).run Tryz.prog w = .ok (.bool true) w := run_eql_words Tryz.underlying82 _ (fun i hi => ⟨_, cs_get x i hi⟩) w

theorem guard27 : Tryz.prog.eqGuardType Tryz.prog.depth 69 = false := by kernel_rfl
theorem guard28 : Tryz.prog.eqGuardType Tryz.prog.depth 82 = false := by kernel_rfl
theorem guard29 : Tryz.prog.eqGuardType Tryz.prog.depth 84 = false := by kernel_rfl
theorem keep10 {W W' : World} {g h M : Nat} {a b c d e : UInt32} (hb : Below W.heap.size W W') (hg : g < M) (hh : h < M) (hS : W.cell? ⟨g, 0, none⟩ = some (.int .u32 (tn a)) ∧ W.cell? ⟨g, 1, none⟩ = some (.int .u32 (tn b)) ∧ W.cell? ⟨g, 2, none⟩ = some (.int .u32 (tn c)) ∧ W.cell? ⟨g, 3, none⟩ = some (.int .u32 (tn d)) ∧ W.cell? ⟨g, 4, none⟩ = some (.int .u32 (tn e)) ∧ W.cell? ⟨h, 0, none⟩ = some (.int .u32 (tn a)) ∧ W.cell? ⟨h, 1, none⟩ = some (.int .u32 (tn b)) ∧ W.cell? ⟨h, 2, none⟩ = some (.int .u32 (tn c)) ∧ W.cell? ⟨h, 3, none⟩ = some (.int .u32 (tn d)) ∧ W.cell? ⟨h, 4, none⟩ = some (.int .u32 (tn e)) ∧ M ≤ W.heap.size) :
    W'.cell? ⟨g, 0, none⟩ = some (.int .u32 (tn a)) ∧ W'.cell? ⟨g, 1, none⟩ = some (.int .u32 (tn b)) ∧ W'.cell? ⟨g, 2, none⟩ = some (.int .u32 (tn c)) ∧ W'.cell? ⟨g, 3, none⟩ = some (.int .u32 (tn d)) ∧ W'.cell? ⟨g, 4, none⟩ = some (.int .u32 (tn e)) ∧ W'.cell? ⟨h, 0, none⟩ = some (.int .u32 (tn a)) ∧ W'.cell? ⟨h, 1, none⟩ = some (.int .u32 (tn b)) ∧ W'.cell? ⟨h, 2, none⟩ = some (.int .u32 (tn c)) ∧ W'.cell? ⟨h, 3, none⟩ = some (.int .u32 (tn d)) ∧ W'.cell? ⟨h, 4, none⟩ = some (.int .u32 (tn e)) ∧ M ≤ W'.heap.size := by
  obtain ⟨g0, g1, g2, g3, g4, h0, h1, h2, h3, h4, hm⟩ := hS
  have kg : ∀ i, W'.cell? ⟨g, i, none⟩ = W.cell? ⟨g, i, none⟩ := fun i => hb.cell (p := ⟨g, i, none⟩) (Nat.lt_of_lt_of_le hg hm)
  have kh : ∀ i, W'.cell? ⟨h, i, none⟩ = W.cell? ⟨h, i, none⟩ := fun i => hb.cell (p := ⟨h, i, none⟩) (Nat.lt_of_lt_of_le hh hm)
  exact ⟨(kg 0).trans g0, (kg 1).trans g1, (kg 2).trans g2, (kg 3).trans g3, (kg 4).trans g4, (kh 0).trans h0, (kh 1).trans h1, (kh 2).trans h2, (kh 3).trans h3, (kh 4).trans h4, Nat.le_trans hm hb.size⟩

/-- an argument that is a chain -/
theorem open_chain {H : Type} {enc : TypeId × Value → H} {W : World} {base : Nat} {v : Value} {d : DataW H} {ps : List MemPlace} (hok : Value.okWide Tryz.prog W .any base 69 v)
    (h : DataW.Trod enc Tryz.prog W 0 (fun _ => true) true 69 v d ps) : ∃ x : Sh.Ch, v = .agg (cs x) := by
  simp only [Value.okWide, Tryz.underlying69] at hok
  obtain ⟨A, rfl, hsz, _⟩ := hok
  obtain ⟨fuel, hf⟩ := h
  obtain ⟨xs, m, _, _, hl, hxl, hi⟩ := DataW.trod_array Tryz.underlying69 hf
  have h5 : Tryz.prog.cellsOf 69 = 5 := by kernel_rfl
  have hc : (Value.agg A).cells = A := rfl
  rw [h5] at hsz
  rw [hc, cells26] at hi
  have hget : ∀ i, i < 5 → ∃ y : UInt32, A.toList[i]? = some (.int .u32 (tn y)) := fun i h => by
    have hh := hi i h
    rw [List.getElem?_eq_getElem (by omega)] at hh
    obtain ⟨n, hn, _, hw⟩ := DataW.trod_int Tryz.underlying61 hh
    have hb := bounds_u32 hw
    obtain ⟨y, rfl⟩ := tn_of hb.1 (by omega)
    refine ⟨y, ?_⟩
    have e := congrArg (fun l : List Value => l[0]?) hn
    simp only [List.getElem?_take, List.getElem?_drop, Nat.mul_one, Nat.add_zero] at e
    simpa using e
  obtain ⟨a, ha⟩ := hget 0 (by omega)
  obtain ⟨b, hb⟩ := hget 1 (by omega)
  obtain ⟨c, hc⟩ := hget 2 (by omega)
  obtain ⟨d', hd⟩ := hget 3 (by omega)
  obtain ⟨e, he⟩ := hget 4 (by omega)
  refine ⟨⟨a, b, c, d', e⟩, congrArg Value.agg ?_⟩
  apply Array.ext_getElem?
  intro i
  by_cases h : i < 5
  · rw [← Array.getElem?_toList]
    rcases (by omega : i = 0 ∨ i = 1 ∨ i = 2 ∨ i = 3 ∨ i = 4) with rfl | rfl | rfl | rfl | rfl
    · rw [ha]; rfl
    · rw [hb]; rfl
    · rw [hc]; rfl
    · rw [hd]; rfl
    · rw [he]; rfl
  · rw [Array.getElem?_eq_none (by omega), Array.getElem?_eq_none (by show 5 ≤ i; omega)]
end Go.Proofs.YtmbbigmnliiadaaGreatDoor.Hp
namespace Go.Proofs.YtmbbigmnliiadaaGreatDoor.Hd
open Go.RowKit Hs Hp
set_option linter.unusedVariables false

/-! ### rows held against each other -/
theorem run_items2 (d : Nat) (A B : Array Value) (f g : Nat → UInt32) (w : World) : ∀ is : List Nat, (∀ i ∈ is, A[i]? = some (.int .u32 (tn (f i))) ∧ B[i]? = some (.int .u32 (tn (g i)))) →
    (Op.eqItems (d + 1) 61 1 A B is).run Tryz.prog w = .ok (is.all fun i => f i == g i) w
  | [], _ => by simp [Op.eqItems]
  | i :: is, h => by
    obtain ⟨hx, hy⟩ := h i (by simp)
    have hp : (part 61 A i).run Tryz.prog w = .ok (.int .u32 (tn (f i))) w := by simp [part, Tryz.isAgg61, hx]
    have hq : (part 61 B i).run Tryz.prog w = .ok (.int .u32 (tn (g i))) w := by simp [part, Tryz.isAgg61, hy]
    have ih := run_items2 d A B f g w is (fun j hj => h j (by simp [hj]))
    by_cases he : f i = g i
    · simp [Op.eqItems, Sem.run_bind, hp, hq, run_equalIn_int w d 61 .u32 .u32 _ _ Tryz.underlying61, ih, he]
    · have hne : ¬ tn (f i) = tn (g i) := fun e => he (tn_inj e)
      simp [Op.eqItems, Sem.run_bind, hp, hq, run_equalIn_int w d 61 .u32 .u32 _ _ Tryz.underlying61, he, hne]
theorem run_equal_fn {t : TypeId} {n : Nat} (hu : Tryz.prog.underlying t = some (.array n 61)) (A B : Array Value) (f g : Nat → UInt32) (hA : ∀ i, i < n → A[i]? = some (.int .u32 (tn (f i)))) (hB : ∀ i, i < n → B[i]? = some (.int .u32 (tn (g i)))) (w : World) :
    (Op.equal t (.agg A) (.agg B)).run Tryz.prog w = .ok ((List.range n).all fun i => f i == g i) w := by
  obtain ⟨i0, hi0⟩ : ∃ i, Tryz.prog.info? 61 = some i := by
    cases h : Tryz.prog.info? 61 with
    | some i => exact ⟨i, rfl⟩
    | none => have : (Tryz.prog.info? 61).isSome = true := by kernel_rfl
              rw [h] at this; cases this
  have h := run_equalIn_array (P := Tryz.prog) w 9999 A B hu hi0
  rw [cells26, run_items2 9998 A B f g w _ (fun i hi => ⟨hA i (by simpa using hi), hB i (by simpa using hi)⟩)] at h
  exact h
theorem same_fld (x y : Sh.Ch) : ((List.range 5).all fun i => fld x i == fld y i) = Dv.same x y := by
  simp [List.range, List.range.loop, Dv.same, fld, Bool.and_assoc]
theorem eql_chain (x y : Sh.Ch) (w : World) : (binOp .eql 82 (.agg (cs x)) (.agg (cs y))).run Tryz.prog w = .ok (.bool (Dv.same x y)) w := by
  have h := run_equal_fn Tryz.underlying82 (cs x) (cs y) (fld x) (fld y) (fun i hi => cs_get x i hi) (fun i hi => cs_get y i hi) w
  rw [same_fld] at h
  simp [binOp, h]
/-- are the words of two lists the same? -/
def sameWords (l m : List UInt32) : Bool := (List.range 80).all fun i => l.getD i 0 == m.getD i 0
theorem sameWords_refl (l : List UInt32) : sameWords l l = true := by simp [sameWords]
theorem eql_words (l m : List UInt32) (w : World) : (binOp .eql 85 (.agg (ws l)) (.agg (ws m))).run Tryz.prog w = .ok (.bool (sameWords l m)) w := by
  have h : (Op.equal 85 (.agg (ws l)) (.agg (ws m))).run Tryz.prog w = .ok (sameWords l m) w :=
    run_equal_fn Tryz.underlying85 (ws l) (ws m) (fun i => l.getD i 0) (fun i => m.getD i 0) (fun i hi => ws_get l i hi) (fun i hi => ws_get m i hi) w
  simp [binOp, h]
theorem neq_words (l m : List UInt32) (w : World) : (binOp .neq 85 (.agg (ws l)) (.agg (ws m))).run Tryz.prog w = .ok (.bool (!sameWords l m)) w := by
  have h : (Op.equal 85 (.agg (ws l)) (.agg (ws m))).run Tryz.prog w = .ok (sameWords l m) w :=
    run_equal_fn Tryz.underlying85 (ws l) (ws m) (fun i => l.getD i 0) (fun i => m.getD i 0) (fun i hi => ws_get l i hi) (fun i hi => ws_get m i hi) w
  simp [binOp, h]
theorem eql_words31 (l m : List UInt32) (w : World) : (binOp .eql 84 (.agg (ws l)) (.agg (ws m))).run Tryz.prog w = .ok (.bool (sameWords l m)) w := by
  have h : (Op.equal 84 (.agg (ws l)) (.agg (ws m))).run Tryz.prog w = .ok (sameWords l m) w :=
    run_equal_fn Tryz.underlying84 (ws l) (ws m) (fun i => l.getD i 0) (fun i => m.getD i 0) (fun i hi => ws_get l i hi) (fun i hi => ws_get m i hi) w
  simp [binOp, h]
theorem guard32 : Tryz.prog.eqGuardType Tryz.prog.depth 85 = false := by kernel_rfl

/-! ### a vector's difference is noughts just where it has no row -/
theorem fwd_low (f : Nat → UInt32) (i : Nat) : ∀ n j, j < i → Dv.fwd f i n j = f j
  | 0, _, _ => rfl
  | n + 1, j, h => by
    show Dv.setAt _ _ _ j = _
    unfold Dv.setAt
    rw [if_neg (by omega)]
    exact fwd_low f i n j h
theorem bwd_high (f : Nat → UInt32) (i : Nat) : ∀ n j, i < j → Dv.bwd f i n j = f j
  | 0, _, _ => rfl
  | n + 1, j, h => by
    show Dv.setAt _ _ _ j = _
    unfold Dv.setAt
    rw [if_neg (by omega)]
    exact bwd_high f i n j h
theorem row_set (ty K B j : Nat) (h1 : K + 5 ≤ j) (h2 : j < K + 21) : Dv.row ty K B j = Dv.start ty K B j := by
  unfold Dv.row
  rw [bwd_high _ _ _ _ (by omega), fwd_low _ _ _ _ h2]
theorem rot_zero (n : Nat) : Sh.rot 0 n = 0 := by
  unfold Sh.rot
  apply UInt32.toBitVec_inj.1
  simp
theorem diff_at (ty K B : Nat) (hK : K ≤ 64) : Dv.diffAt (Dv.row ty K B) (K + 15) = (1 : UInt32) <<< UInt32.ofNat B := by
  have h5 : Dv.row ty K B (K + 15 + 5) = (1 : UInt32) <<< UInt32.ofNat B := by rw [row_set _ _ _ _ (by omega) (by omega)]; unfold Dv.start; rw [if_pos (by omega)]
  have h0 : ∀ d, d < 5 → Dv.row ty K B (K + 15 + d) = 0 := fun d hd => by
    rw [row_set _ _ _ _ (by omega) (by omega)]; unfold Dv.start; rw [if_neg (by omega), if_neg (by omega)]
  unfold Dv.diffAt
  rw [h5, h0 4 (by omega), h0 3 (by omega), h0 2 (by omega), h0 1 (by omega), show Dv.row ty K B (K + 15) = 0 from h0 0 (by omega)]
  simp [rot_zero]
theorem shl_ne (B : Nat) (h : B < 32) : ((1 : UInt32) <<< UInt32.ofNat B == 0) = false := by
  have h' : ∀ b : Fin 32, ((1 : UInt32) <<< UInt32.ofNat b.val == 0) = false := by decide +kernel
  exact h' ⟨B, h⟩
theorem diff_nought (ty K B : Int) : sameWords (Dv.diff ty K B) [] = !decide (Dv.ok ty K B) := by
  by_cases hok : Dv.ok ty K B
  · rw [decide_eq_true hok]
    have hd : Dv.diff ty K B = Dv.diffs (Dv.row ty.toNat K.toNat B.toNat) := if_pos hok
    obtain ⟨_, hK0, hK1, hB0, hB1⟩ := hok
    have hk : K.toNat + 15 < 80 := by omega
    have hne : ((Dv.diff ty K B).getD (K.toNat + 15) 0 == ([] : List UInt32).getD (K.toNat + 15) 0) = false := by
      rw [hd, show (Dv.diffs (Dv.row ty.toNat K.toNat B.toNat)).getD (K.toNat + 15) 0 = Dv.diffAt (Dv.row ty.toNat K.toNat B.toNat) (K.toNat + 15) by simp [Dv.diffs, List.getD, hk], diff_at _ _ _ (by omega)]
      exact shl_ne _ (by omega)
    unfold sameWords
    rw [Bool.not_true, List.all_eq_false]
    exact ⟨K.toNat + 15, by simp [hk], by rw [hne]; decide⟩
  · rw [decide_eq_false hok, show Dv.diff ty K B = [] from if_neg hok]
    exact sameWords_refl _

/-! ### '==' and '!=' of aggregates, as one step -/
section
variable {P : Program}
theorem run_guard_eq (op : BinOp) (hop : op = .eql ∨ op = .neq) (ty : TypeId) (x y : Operand) (X Y : Array Value) (hg : P.eqGuardType P.depth ty = false) (W : World) : (eqGuard op ty x y (.agg X) (.agg Y)).run P W = .ok () W := by
  have hp : ∀ W, (program).run P W = .ok P W := fun _ => rfl
  rcases hop with rfl | rfl <;> simp [eqGuard, hp, hg]
theorem run_eq_op {o : Oper} {a : Act} (op : BinOp) (hop : op = .eql ∨ op = .neq) (ty ty' : TypeId) (x y : Operand) (ho : o.op = .binOp op ty x y ty') (X Y : Array Value) (hx : a.eval x = .agg X) (hy : a.eval y = .agg Y) (hg : P.eqGuardType P.depth ty = false) (b : Bool)
    (W : World) (h : (binOp op ty (.agg X) (.agg Y)).run P W = .ok (.bool b) W) : (execOp a.eval o).run P W = .ok (.value (.bool b)) W := by
  have hgd := run_guard_eq (P := P) op hop ty x y X Y hg W
  rcases hop with rfl | rfl <;> simp [execOp, ho, hx, hy, h, hgd]
theorem wpList_eq_op {ops : Array Oper} {rest : List Oper} {o : Oper} {a : Act} {w : World} {Q : Exit → Act → World → Prop} (hgd : o.guard = none) (op : BinOp) (hop : op = .eql ∨ op = .neq) (ty ty' : TypeId) (x y : Operand) (ho : o.op = .binOp op ty x y ty') (X Y : Array Value) (hx : a.eval x = .agg X) (hy : a.eval y = .agg Y)
    (hg : P.eqGuardType P.depth ty = false) (b : Bool) (h : (binOp op ty (.agg X) (.agg Y)).run P w = .ok (.bool b) w) (hr : wpList P ops Q rest (a.put o.dst (.bool b)) w) : wpList P ops Q (o :: rest) a w :=
  wpList_plain hgd fun _ hK => by
    unfold Oper.wp
    rw [run_eq_op op hop ty ty' x y ho X Y hx hy hg b w h]
    exact hK _ _ hr
end

/-! ### a part of a row -/
section
variable {P : Program}
theorem run_loadVar_sub (w : World) (g o : Nat) (ty : TypeId) (cs : Array Value) (d : TypeDesc) (hc : ∀ j v, cs[j]? = some v → w.cell? ⟨g, o + j, none⟩ = some v)
    (hu : P.underlying ty = some d) (hd : (match d with | .struct _ | .array _ _ => true | _ => false) = true) (hi : (P.info? ty).map (·.size) = some cs.size) :
    (loadVar ty ⟨g, o, none⟩).run P w = .ok (.agg cs) w := by
  have hl : (loadCells ⟨g, o, none⟩ cs.toList.length).run P w = .ok cs.toList.toArray w :=
    run_loadCells_list (P := P) w ⟨g, o, none⟩ cs.toList (fun j v hv => by
      have hadd : (⟨g, o, none⟩ : Addr).add j = ⟨g, o + j, none⟩ := by unfold Addr.add; split <;> simp_all
      rw [hadd]
      exact hc j v (by simpa using hv))
  cases hq : P.info? ty with
  | none => simp [hq] at hi
  | some i =>
    have hs : i.size = cs.size := by simpa [hq] using hi
    have hagg : (isAgg ty).run P w = .ok true w := by
      unfold isAgg
      rw [Sem.run_bind, run_underlying hu w]
      cases d <;> simp_all
    simp only [Array.length_toList, Array.toArray_toList] at hl
    simp [loadVar, Sem.run_bind, hagg, sizeOf, typeInfo, hq, hs, hl]
theorem wp_load_sub {o : Oper} {a : Act} {w : World} {K : Act → World → Prop} {Q : Exit → Act → World → Prop} (ty : TypeId) (x : Operand) (ho : o.op = .load ty x)
    (g off : Nat) (hx : a.eval x = .pointer (some ⟨g, off, none⟩)) (cs : Array Value) (hl : (loadVar ty ⟨g, off, none⟩).run P w = .ok (.agg cs) w)
    (h : K (a.put o.dst (.agg cs)) w) : o.wp P a w K Q := by
  unfold Oper.wp execOp
  simp only [ho, hx, Instr.loadAt, Instr.sureAddr, Sem.run_bind, Sem.run_pure, Result.andThen_ok, hl]
  exact h
theorem wpList_load_sub {ops : Array Oper} {rest : List Oper} {o : Oper} {a : Act} {w : World} {Q : Exit → Act → World → Prop} (hgd : o.guard = none) (ty : TypeId) (x : Operand) (ho : o.op = .load ty x)
    (g off : Nat) (hx : a.eval x = .pointer (some ⟨g, off, none⟩)) (cs : Array Value) (hl : (loadVar ty ⟨g, off, none⟩).run P w = .ok (.agg cs) w)
    (h : wpList P ops Q rest (a.put o.dst (.agg cs)) w) : wpList P ops Q (o :: rest) a w :=
  wpList_plain hgd fun _ hK => wp_load_sub ty x ho g off hx cs hl (hK _ _ h)
theorem run_storeVar_sub (w : World) (g o : Nat) (ty t : TypeId) (cur cs : Array Value) (hg : w.heap[g]? = some (.cells cur t (0, 0))) (hi : (P.info? ty).map (·.size) = some cs.size)
    (hfit : o + cs.size ≤ cur.size) (h1 : cs.all (·.oneCell') = true) :
    (storeVar ty ⟨g, o, none⟩ (.agg cs)).run P w = .ok () (w.setRow g (cur.toList.take o ++ cs.toList ++ cur.toList.drop (o + cs.size)).toArray) := by
  have hst := run_storeCells_at P g o t cs.toList 0 cur w hg (by simpa using hfit) (fun v hv => by
    rw [Array.all_eq_true_iff_forall_mem] at h1
    exact h1 v (by simpa using hv))
  cases hq : P.info? ty with
  | none => simp [hq] at hi
  | some i =>
    have hs : i.size = cs.size := by simpa [hq] using hi
    have hc : (Value.agg cs).cells = cs := rfl
    simp only [Nat.add_zero, Array.length_toList] at hst
    simp [storeVar, Sem.run_bind, sizeOf, typeInfo, hq, hs, hc, hst]
theorem wpList_store_sub {ops : Array Oper} {rest : List Oper} {o : Oper} {a : Act} {w w' : World} {Q : Exit → Act → World → Prop} (hgd : o.guard = none) (ty : TypeId) (x y : Operand) (ho : o.op = .store ty x y)
    (g off : Nat) (cs : Array Value) (hx : a.eval x = .pointer (some ⟨g, off, none⟩)) (hy : a.eval y = .agg cs) (hs : (storeVar ty ⟨g, off, none⟩ (.agg cs)).run P w = .ok () w')
    (h : wpList P ops Q rest (a.put o.dst undef) w') : wpList P ops Q (o :: rest) a w :=
  wpList_plain hgd fun _ hK => by
    unfold Oper.wp execOp
    simp only [ho, hx, hy, Instr.storeAt, Instr.sureAddr, Sem.run_bind, Sem.run_pure, Result.andThen_ok, hs]
    exact hK _ _ h
end
end Go.Proofs.YtmbbigmnliiadaaGreatDoor.Hd
namespace Go.Proofs.YtmbbigmnliiadaaGreatDoor.Hd
open Go.RowKit Hs Hp
set_option linter.unusedVariables false
attribute [local go_sem] t_and t_or t_xor t_not t_add t_sub t_add_wrap t_sub_wrap

/-- a passage as cells -/
def ps (W : List UInt32) (S E : Sh.Ch) : Array Value := ws W ++ cs S ++ cs E
theorem ps_size (W : List UInt32) (S E : Sh.Ch) : (ps W S E).size = 90 := by simp [ps, ws_size, cs]
theorem ps_sizes (W : List UInt32) (S E : Sh.Ch) (W' : List UInt32) (S' E' : Sh.Ch) : (ps W S E).size = (ps W' S' E').size := by rw [ps_size, ps_size]
theorem ps_one (W : List UInt32) (S E : Sh.Ch) : (ps W S E).all (·.oneCell') = true := by simp [ps, ws, cs, Value.oneCell']
theorem info60 (W : List UInt32) (S E : Sh.Ch) : (Tryz.prog.info? 87).map (·.size) = some (ps W S E).size := by
  have : (Tryz.prog.info? 87).map (·.size) = some 90 := by kernel_rfl
  rw [ps_size, this]
def z5 : Sh.Ch := ⟨0, 0, 0, 0, 0⟩
theorem zv60 (w : World) : (zeroValue 87).run Tryz.prog w = .ok (.agg (ps [] z5 z5)) w := by kernel_rfl
theorem built60 (W : List UInt32) (S E : Sh.Ch) : Tryz.prog.built 87 [(0, .agg (ws W)), (1, .agg (cs S)), (2, .agg (cs E))] = some (ps W S E) := by kernel_rfl
theorem ps_lo (W : List UInt32) (S E : Sh.Ch) (j : Nat) (v : Value) (h : (ws W)[j]? = some v) : (ps W S E)[0 + j]? = some v := by
  have hj : j < (ws W).size := (Array.getElem?_eq_some_iff.1 h).1
  rw [Nat.zero_add, ps, Array.append_assoc, Array.getElem?_append_left hj]; exact h
theorem ps_mid (W : List UInt32) (S E : Sh.Ch) (j : Nat) (v : Value) (h : (cs S)[j]? = some v) : (ps W S E)[80 + j]? = some v := by
  have hj : j < 5 := (Array.getElem?_eq_some_iff.1 h).1
  rw [ps, Array.getElem?_append_left (by simp [ws_size, cs]; omega), Array.getElem?_append_right (by rw [ws_size]; omega), ws_size, Nat.add_sub_cancel_left]; exact h
theorem ps_hi (W : List UInt32) (S E : Sh.Ch) (j : Nat) (v : Value) (h : (cs E)[j]? = some v) : (ps W S E)[85 + j]? = some v := by
  have hj : j < 5 := (Array.getElem?_eq_some_iff.1 h).1
  rw [ps, Array.getElem?_append_right (by simp [ws_size, cs]), show (ws W ++ cs S).size = 85 by simp [ws_size, cs], Nat.add_sub_cancel_left]; exact h
theorem load_words {w : World} {g : Nat} {W : List UInt32} {S E : Sh.Ch} (h : w.heap[g]? = some (.cells (ps W S E) 87 (0, 0))) : (loadVar 85 ⟨g, 0, none⟩).run Tryz.prog w = .ok (.agg (ws W)) w :=
  run_loadVar_sub w g 0 _ (ws W) _ (fun j v hv => by rw [cell_of_row w g _ _ _ _ h]; exact ps_lo W S E j v hv) Tryz.underlying85 rfl (info30' _)
theorem load_mid {w : World} {g : Nat} {W : List UInt32} {S E : Sh.Ch} (h : w.heap[g]? = some (.cells (ps W S E) 87 (0, 0))) : (loadVar 82 ⟨g, 80, none⟩).run Tryz.prog w = .ok (.agg (cs S)) w :=
  run_loadVar_sub w g 80 _ (cs S) _ (fun j v hv => by rw [cell_of_row w g _ _ _ _ h]; exact ps_mid W S E j v hv) Tryz.underlying82 rfl info28
theorem load_end {w : World} {g : Nat} {W : List UInt32} {S E : Sh.Ch} (h : w.heap[g]? = some (.cells (ps W S E) 87 (0, 0))) : (loadVar 82 ⟨g, 85, none⟩).run Tryz.prog w = .ok (.agg (cs E)) w :=
  run_loadVar_sub w g 85 _ (cs E) _ (fun j v hv => by rw [cell_of_row w g _ _ _ _ h]; exact ps_hi W S E j v hv) Tryz.underlying82 rfl info28

theorem back58 (x : Sh.Ch) (W : List UInt32) (w : World) : Calls Tryz.prog 83 #[.agg (cs x), .agg (ws W), .int .i64 58] w fun e w' => e = .returned (.agg (cs (Dv.rear W x 58 58))) ∧ Below w.heap.size w w' := dback_any x W 58 w (by omega)
theorem ahead58 (x : Sh.Ch) (W : List UInt32) (w : World) : Calls Tryz.prog 80 #[.agg (cs x), .agg (ws W), .int .i64 58, .int .i64 80] w fun e w' => e = .returned (.agg (cs (Dv.fore W x 58 22))) ∧ Below w.heap.size w w' := ahead_any x W 58 22 w (by omega)
theorem ahead0 (x : Sh.Ch) (W : List UInt32) (w : World) : Calls Tryz.prog 80 #[.agg (cs x), .agg (ws W), .int .i64 0, .int .i64 58] w fun e w' => e = .returned (.agg (cs (Dv.fore W x 0 58))) ∧ Below w.heap.size w w' := ahead_any x W 0 58 w (by omega)

theorem yields_build {P : Program} {ops : Array Oper} {S : World → Prop} {o : Oper} {a : Act} (t : TypeId) (parts : Array (Nat × Operand)) (ho : o.op = .build t parts) (hw : Region.wanted o (yielded ops a.tmps) = true) (cells : Array Value)
    (hc : P.built t (parts.map fun (i, x) => (i, a.eval x)).toList = some cells) : YieldsIf P ops S o (.agg cells) a :=
  .inl ⟨hw, fun W _ => by unfold execOp; simp only [ho, Sem.run_bind, run_build W t _ cells hc, Result.andThen_ok]; rfl⟩

theorem yields_build0 {P : Program} {ops : Array Oper} {S : World → Prop} {o : Oper} {a : Act} (t : TypeId) (ho : o.op = .build t #[]) (hw : Region.wanted o (yielded ops a.tmps) = true) (cells : Array Value)
    (hc : P.built t [] = some cells) : YieldsIf P ops S o (.agg cells) a := yields_build t #[] ho hw cells (by simpa using hc)
theorem yields_build3 {P : Program} {ops : Array Oper} {S : World → Prop} {o : Oper} {a : Act} (t : TypeId) (x y z : Operand) (ho : o.op = .build t #[(0, x), (1, y), (2, z)]) (hw : Region.wanted o (yielded ops a.tmps) = true) (cells : Array Value) (X Y Z : Value)
    (hx : a.eval x = X) (hy : a.eval y = Y) (hz : a.eval z = Z) (hc : P.built t [(0, X), (1, Y), (2, Z)] = some cells) : YieldsIf P ops S o (.agg cells) a := by
  subst hx hy hz
  exact yields_build t _ ho hw cells (by simpa using hc)

/-! ### pass -/
structure Pp (w wr : World) (g : Nat) (c : Sh.Ch) (L : List UInt32) : Prop where
  below : Below w.heap.size w wr
  lo : w.heap.size + 1 < g
  size : g < wr.heap.size
  ch : wr.heap[w.heap.size]? = some (.cells (cs c) 82 (0, 0))
  res : wr.heap[w.heap.size + 1]? = some (.cells (ps [] z5 z5) 87 (0, 0))
  wd : wr.heap[g]? = some (.cells (ws L) 85 (0, 0))
theorem Pp.drew {w wr : World} {g : Nat} {c : Sh.Ch} {L : List UInt32} (h : Pp w wr g c L) : Pp w wr.drew g c L := ⟨h.below.drew, h.lo, h.size, h.ch, h.res, h.wd⟩
theorem Pp.more {w wr w1 : World} {g : Nat} {c : Sh.Ch} {L : List UInt32} (h : Pp w wr g c L) (hb : Below wr.heap.size wr w1) : Pp w w1 g c L :=
  have hs := h.size
  have hl := h.lo
  ⟨h.below.trans (hb.mono h.below.size), hl, Nat.lt_of_lt_of_le hs hb.size, by rw [hb.block _ (by omega)]; exact h.ch, by rw [hb.block _ (by omega)]; exact h.res, by rw [hb.block _ hs]; exact h.wd⟩
/-- what is loaded -/
structure Pq (w wr : World) (g : Nat) (c : Sh.Ch) (L : List UInt32) : Prop where
  below : Below w.heap.size w wr
  ch : wr.heap[w.heap.size]? = some (.cells (cs c) 82 (0, 0))
  wd : wr.heap[g]? = some (.cells (ws L) 85 (0, 0))
theorem Pp.q {w wr : World} {g : Nat} {c : Sh.Ch} {L : List UInt32} (h : Pp w wr g c L) : Pq w wr g c L := ⟨h.below, h.ch, h.wd⟩
theorem Pp.put {w wr : World} {g : Nat} {c : Sh.Ch} {L : List UInt32} (h : Pp w wr g c L) (r : Array Value) : Pq w (wr.setRow (w.heap.size + 1) r) g c L :=
  have hl := h.lo
  ⟨below_setRow h.below (by omega) _, by rw [setRow_other _ _ _ _ (by omega)]; exact h.ch, by rw [setRow_other _ _ _ _ (by omega)]; exact h.wd⟩
theorem Pp.start {w w1 : World} (c : Sh.Ch) (L : List UInt32) (hb : Below (w.heap.size + 1 + 1) ((w.alloc (.cells (cs c) 82)).alloc (.cells (ps [] z5 z5) 87)) w1) :
    Pp w ((w1.alloc (.cells (ws []) 85)).setRow w1.heap.size (ws L)) w1.heap.size c L := by
  have hsz := hb.size
  simp at hsz
  have hbw : Below w.heap.size w w1 := Below.trans (((Below.refl _ w).alloc (Nat.le_refl _) _).alloc (by simp) _) (hb.mono (by omega))
  refine ⟨below_setRow (hbw.alloc hbw.size _) hbw.size _, by omega, by simp, ?_, ?_, setRow_heap _ _ (ws []) _ _ _ (heap_alloc_new _ _)⟩
  · rw [setRow_other _ _ _ _ (by omega), heap_alloc_old _ _ (by omega), hb.block _ (by omega), heap_alloc2_old]
  · rw [setRow_other _ _ _ _ (by omega), heap_alloc_old _ _ (by omega), hb.block _ (by omega), heap_alloc2_new]

set_option maxHeartbeats 4000000 in
set_option maxRecDepth 100000 in
theorem pass_any (c : Sh.Ch) (s : ByteArray) (w : World) (hs : s.size ≤ 100000) :
    Calls Tryz.prog 60 #[.agg (cs c), .string s] w fun e w' => e = .returned (.agg (ps (Sh.words s.data.toList) (Dv.fore (Sh.words s.data.toList) c 0 58) (Sh.press c s.data.toList))) ∧ Below w.heap.size w w' := by
  have hz := zv30
  have hz6 := zv60
  have HP := Lib.hid (fun W => press_any c s W hs)
  generalize Sh.press c s.data.toList = E at *
  have HX := Lib.hid (fun W => expand_any s W hs)
  generalize Sh.words s.data.toList = L at *
  have HA := Lib.hid (fun W => ahead0 c L W)
  generalize Dv.fore L c 0 58 = S at *
  have HB := Lib.hid (built60 L S E)
  go_enter Tryz.func60, Tryz.ntmps60
  go_wp2_with fail
  refine (HX.out _).mono ?_
  rintro e w1 ⟨rfl, hb1⟩
  have hst := Pp.start c L (hb1.mono (by simp))
  have HN := Lib.hid (heap_alloc_new w1 (.cells (ws []) 85))
  have HST := Lib.hid hst
  clear hst hb1 HX
  go_wp2_with (with_reducible refine wpList_store_row rfl 85 (.tmp 5) (.tmp 7) rfl w1.heap.size (ws L) rfl rfl 85 (ws []) HN.out (info30' _) (ws_sizes _ _) (Hp.ws_one _) ?_)
  clear hz hz6 HN
  generalize (w1.alloc (.cells (ws []) 85)).setRow w1.heap.size (ws L) = w2 at *
  generalize w1.heap.size = g at *
  refine wp_region_seq (fun W => Pq w W g c L) [(0, false, 0), (1, false, 1), (2, false, 3), (4, false, 7), (5, false, 23), (3, true, 55), (6, true, 63), (7, false, 127), (8, true, 255)]
    9 (by kernel_rfl) (by kernel_rfl) (by kernel_rfl) (fun d _ _ _ _ h => by cases d <;> exact h) (by kernel_rfl) (by kernel_rfl) HST.out.drew.q ?_
  refine seqH_take (.agg (ws L)) rfl (yields_load 85 (.tmp 5) rfl (by rfl) g rfl 85 (ws L) (0, 0) _ (fun W hW => hW.wd) Tryz.underlying85 rfl (info30' _)) ?_
  go_simp
  refine seqH_take (.agg (cs c)) rfl (yields_load 82 (.tmp 2) rfl (by rfl) w.heap.size rfl 82 (cs c) (0, 0) _ (fun W hW => hW.ch) Tryz.underlying82 rfl info28) ?_
  go_simp
  refine seqH_take (.agg (ws L)) rfl (yields_load 85 (.tmp 5) rfl (by rfl) g rfl 85 (ws L) (0, 0) _ (fun W hW => hW.wd) Tryz.underlying85 rfl (info30' _)) ?_
  go_simp
  refine seqH_take (.agg (cs c)) rfl (yields_load 82 (.tmp 2) rfl (by rfl) w.heap.size rfl 82 (cs c) (0, 0) _ (fun W hW => hW.ch) Tryz.underlying82 rfl info28) ?_
  go_simp
  refine seqH_take (.string s) rfl (Or.inl ⟨by rfl, fun W _ => by go_simp⟩) ?_
  go_simp
  have hpd := HST.out.drew
  refine seqH_call rfl (by rfl) (fun K hK => ?_)
  have HK := Lib.hid hK
  clear hK
  go_simp
  refine (HA.out _).mono ?_
  rintro e w3 ⟨rfl, hb3⟩
  have hp3 := hpd.more hb3
  clear hb3 hpd
  refine HK.out _ _ hp3.q ?_
  clear HK K
  go_simp
  refine seqH_call rfl (by rfl) (fun K hK => ?_)
  have HK := Lib.hid hK
  clear hK
  go_simp
  refine (HP.out _).mono ?_
  rintro e w4 ⟨rfl, hb4⟩
  have hp4 := hp3.more hb4
  clear hb4 hp3
  refine HK.out _ _ hp4.q ?_
  clear HK K
  go_simp
  refine seqH_take (.agg (ps L S E)) rfl (yields_build3 87 (.tmp 8) (.tmp 11) (.tmp 14) rfl (by rfl) (ps L S E) _ _ _ rfl rfl rfl HB.out) ?_
  go_simp
  refine seqH_call rfl (by rfl) (fun K hK => ?_)
  have HK := Lib.hid hK
  clear hK
  refine wp_store_row 87 (.tmp 4) (.tmp 15) rfl (w.heap.size + 1) (ps L S E) rfl rfl 87 (ps [] z5 z5) hp4.res (info60 _ _ _) (ps_sizes _ _ _ _ _ _) (ps_one _ _ _) ?_
  refine HK.out _ _ (hp4.put _) ?_
  clear HK K
  go_simp
  refine seqH_done ?_
  have HZ := Lib.hid hp4.res
  have HBL := Lib.hid hp4.below
  clear hp4 HST
  go_wp2
  refine bodyPost_ret (results_cell_row Tryz.results60 _ _ (w.heap.size + 1) 87 (ps L S E) (0, 0) _ rfl (setRow_heap _ _ _ _ _ _ HZ.out) Tryz.underlying87 rfl (info60 _ _ _)) rfl ⟨rfl, ?_⟩
  exact below_setRow HBL.out (by omega) _
end Go.Proofs.YtmbbigmnliiadaaGreatDoor.Hd
namespace Go.Proofs.YtmbbigmnliiadaaGreatDoor.Hd
open Go.RowKit Hs Hp
set_option linter.unusedVariables false
attribute [local go_sem] t_and t_or t_xor t_not t_add t_sub t_add_wrap t_sub_wrap

/-- the sibling's words so far -/
def sibTo (W M : List UInt32) (n j : Nat) : UInt32 := if j < n then W.getD j 0 ^^^ M.getD j 0 else W.getD j 0
/-- the state of the first loop: the passage, the difference, the words -/
structure Mk (w wr : World) (W M : List UInt32) (S E : Sh.Ch) (n : Nat) : Prop where
  below : Below w.heap.size w wr
  p : wr.heap[w.heap.size]? = some (.cells (ps W S E) 87 (0, 0))
  m : wr.heap[w.heap.size + 1]? = some (.cells (ws M) 85 (0, 0))
  row : wr.rowIs (w.heap.size + 1 + 1) 85 80 (fun j => .int .u32 (tn (sibTo W M n j)))
section
variable {w wr : World} {W M : List UInt32} {S E : Sh.Ch} {n : Nat}
theorem Mk.drew (h : Mk w wr W M S E n) : Mk w wr.drew W M S E n := ⟨h.below.drew, h.p, h.m, h.row⟩
theorem Mk.put (h : Mk w wr W M S E n) (x : UInt32) (hx : W.getD n 0 ^^^ M.getD n 0 = x) : Mk w (wr.setCell ⟨w.heap.size + 1 + 1, n, none⟩ (.int .u32 (tn x))) W M S E (n + 1) := by
  refine ⟨h.below.setCell (by simp; omega) _, by rw [heap_setCell_other _ _ _ _ (by simp; omega)]; exact h.p, by rw [heap_setCell_other _ _ _ _ (by simp)]; exact h.m, (h.row.set n _).congr fun j _ => ?_⟩
  unfold sibTo
  by_cases e : j = n
  · subst e; rw [if_pos rfl, if_pos (by omega), hx]
  · rw [if_neg e]
    by_cases hlt : j < n
    · rw [if_pos hlt, if_pos (by omega)]
    · rw [if_neg hlt, if_neg (by omega)]
theorem sib_get (j : Nat) (h : j < 80) : (Dv.sib W M).getD j 0 = W.getD j 0 ^^^ M.getD j 0 := by simp [Dv.sib, List.getD, h]
theorem Mk.done (h : Mk w wr W M S E 80) : wr.heap[w.heap.size + 1 + 1]? = some (.cells (ws (Dv.sib W M)) 85 (0, 0)) :=
  Hp.ws_row (h.row.congr fun j hj => by rw [sibTo, if_pos hj, sib_get j hj])
theorem Mk.start (w : World) (W M : List UInt32) (S E : Sh.Ch) : Mk w ((((w.alloc (.cells (ps W S E) 87)).alloc (.cells (ws M) 85)).alloc (.cells (ws []) 85)).setRow (w.heap.size + 1 + 1) (ws W)) W M S E 0 := by
  have hnew : (((w.alloc (.cells (ps W S E) 87)).alloc (.cells (ws M) 85)).alloc (.cells (ws []) 85)).heap[w.heap.size + 1 + 1]? = some (.cells (ws []) 85 (0, 0)) := by
    have := heap_alloc_new ((w.alloc (.cells (ps W S E) 87)).alloc (.cells (ws M) 85)) (.cells (ws []) 85)
    simpa using this
  refine ⟨below_setRow ((((Below.refl _ w).alloc (Nat.le_refl _) _).alloc (by simp) _).alloc (by simp; omega) _) (by omega) _, ?_, ?_, ⟨ws W, setRow_heap _ _ (ws []) _ _ _ hnew, ws_size W, fun i hi => ?_⟩⟩
  · rw [setRow_other _ _ _ _ (by omega), heap_alloc_old _ _ (by simp; omega)]; exact heap_alloc2_old _ _ _
  · rw [setRow_other _ _ _ _ (by omega), heap_alloc_old _ _ (by simp)]; exact heap_alloc2_new _ _ _
  · show (ws W)[i]? = some (.int .u32 (tn (sibTo W M 0 i)))
    rw [ws_get W i hi]
    unfold sibTo
    rw [if_neg (by omega)]
end
theorem Mk.new (w : World) (W M : List UInt32) (S E : Sh.Ch) : (((w.alloc (.cells (ps W S E) 87)).alloc (.cells (ws M) 85)).alloc (.cells (ws []) 85)).heap[w.heap.size + 1 + 1]? = some (.cells (ws []) 85 (0, 0)) := by
  have := heap_alloc_new ((w.alloc (.cells (ps W S E) 87)).alloc (.cells (ws M) 85)) (.cells (ws []) 85)
  simpa using this
theorem Mk.first (w : World) (W M : List UInt32) (S E : Sh.Ch) : ((w.alloc (.cells (ps W S E) 87)).alloc (.cells (ws M) 85)).heap[w.heap.size]? = some (.cells (ps W S E) 87 (0, 0)) := heap_alloc2_old _ _ _

/-- the state of the second loop: the passage, the sibling's chain, its end so far -/
structure Me (w wr : World) (a b : Nat) (W : List UInt32) (S E x y : Sh.Ch) (k : Nat) : Prop where
  below : Below w.heap.size w wr
  lo : w.heap.size < a
  mid : a < b
  p : wr.heap[w.heap.size]? = some (.cells (ps W S E) 87 (0, 0))
  ch : wr.rowIs a 82 5 (fun j => .int .u32 (tn (fld x j)))
  en : wr.rowIs b 82 5 (fun j => .int .u32 (tn (if j < k then fld y j + fld x j else fld y j)))
section
variable {w wr : World} {a b k : Nat} {W : List UInt32} {S E x y : Sh.Ch}
theorem Me.drew (h : Me w wr a b W S E x y k) : Me w wr.drew a b W S E x y k := ⟨h.below.drew, h.lo, h.mid, h.p, h.ch, h.en⟩
theorem Me.put (h : Me w wr a b W S E x y k) {v : UInt32} (hv : v = fld y k + fld x k) : Me w (wr.setCell ⟨b, k, none⟩ (.int .u32 (tn v))) a b W S E x y (k + 1) := by
  have hl := h.lo
  have hm := h.mid
  refine ⟨h.below.setCell (by show w.heap.size ≤ b; omega) _, hl, hm, by rw [heap_setCell_other _ _ _ _ (by show w.heap.size ≠ b; omega)]; exact h.p, h.ch.setOther (by show a ≠ b; omega) _, (h.en.set k _).congr fun j _ => ?_⟩
  by_cases e : j = k
  · subst e; rw [if_pos rfl, if_pos (by omega), hv]
  · rw [if_neg e]
    by_cases hlt : j < k
    · rw [if_pos hlt, if_pos (by omega)]
    · rw [if_neg hlt, if_neg (by omega)]
theorem cs_row40 {w : World} {g : Nat} {x : Sh.Ch} (h : w.rowIs g 82 5 (fun j => .int .u32 (tn (fld x j)))) : w.heap[g]? = some (.cells (cs x) 82 (0, 0)) := by
  obtain ⟨c, hb, hn, hc⟩ := h
  rw [hb]
  congr 2
  apply Array.ext_getElem?
  intro i
  by_cases hi : i < 5
  · rw [hc i hi, cs_fld x i hi]
  · rw [Array.getElem?_eq_none (by omega), Array.getElem?_eq_none (by show 5 ≤ i; omega)]
theorem row_cs40 {w : World} {g : Nat} {x : Sh.Ch} (h : w.heap[g]? = some (.cells (cs x) 82 (0, 0))) : w.rowIs g 82 5 (fun j => .int .u32 (tn (fld x j))) := ⟨cs x, h, rfl, fun i hi => cs_fld x i hi⟩
theorem Me.done (h : Me w wr a b W S E x y 5) : wr.heap[b]? = some (.cells (cs (Sh.add y x)) 82 (0, 0)) :=
  cs_row40 (h.en.congr fun j hj => by rw [if_pos hj, fld_add])
end

/-- between the loops: the passage and the sibling's words -/
structure Mf (w wr : World) (W V : List UInt32) (S E : Sh.Ch) : Prop where
  below : Below w.heap.size w wr
  size : w.heap.size + 1 + 1 < wr.heap.size
  p : wr.heap[w.heap.size]? = some (.cells (ps W S E) 87 (0, 0))
  row : wr.heap[w.heap.size + 1 + 1]? = some (.cells (ws V) 85 (0, 0))
section
variable {w wr w1 : World} {W V : List UInt32} {S E : Sh.Ch}
theorem Mf.more (h : Mf w wr W V S E) (hb : Below wr.heap.size wr w1) : Mf w w1 W V S E :=
  have hs := h.size
  ⟨h.below.trans (hb.mono h.below.size), Nat.lt_of_lt_of_le hs hb.size, by rw [hb.block _ (by omega)]; exact h.p, by rw [hb.block _ hs]; exact h.row⟩
theorem Mf.lay (h : Mf w wr W V S E) (o : Obj) (r : Array Value) : Mf w ((wr.alloc o).setRow wr.heap.size r) W V S E :=
  have hs := h.size
  ⟨below_setRow (h.below.alloc h.below.size _) h.below.size _, by simp; omega, by rw [setRow_other _ _ _ _ (by omega), heap_alloc_old _ _ (by omega)]; exact h.p, by rw [setRow_other _ _ _ _ (by omega), heap_alloc_old _ _ hs]; exact h.row⟩
theorem Mf.start (h : Mf w w1 W V S E) {w3 : World} (x y : Sh.Ch) {z : Array Value} (hb : Below ((w1.alloc (.cells z 82)).setRow w1.heap.size (cs x)).heap.size ((w1.alloc (.cells z 82)).setRow w1.heap.size (cs x)) w3) :
    Me w ((w3.alloc (.cells z 82)).setRow w3.heap.size (cs y)) w1.heap.size w3.heap.size W S E x y 0 := by
  have hs := h.size
  have h3 := (h.lay (.cells z 82) (cs x)).more hb
  have hl : w1.heap.size < w3.heap.size := Nat.lt_of_lt_of_le (by simp) hb.size
  refine ⟨(h3.lay _ _).below, by omega, hl, (h3.lay _ _).p, row_cs40 ?_, (row_cs40 (setRow_heap _ _ z _ _ _ (heap_alloc_new _ _))).congr fun j _ => by rw [if_neg (by omega)]⟩
  rw [setRow_other _ _ _ _ (by omega), heap_alloc_old _ _ hl, hb.block _ (by simp)]
  exact setRow_heap _ _ z _ _ _ (heap_alloc_new _ _)
end

set_option maxHeartbeats 4000000 in
set_option maxRecDepth 100000 in
theorem markedBy_any (W M : List UInt32) (S E : Sh.Ch) (w : World) :
    Calls Tryz.prog 62 #[.agg (ps W S E), .agg (ws M)] w fun e w' => e = .returned (.bool (Dv.hit W S E M)) ∧ Below w.heap.size w w' := by
  have hz := zv30
  have hh : Dv.hit W S E M = Dv.same (Sh.add (Dv.fore (Dv.sib W M) S 58 22) (Dv.rear (Dv.sib W M) S 58 58)) E := rfl
  have HH := Lib.hid hh
  have HST := Lib.hid (Mk.start w W M S E)
  have HN := Lib.hid (Mk.new w W M S E)
  have HF := Lib.hid (load_words (Mk.first w W M S E))
  clear hh
  go_enter Tryz.func62, Tryz.ntmps62
  go_wp2_with (first
    | (with_reducible refine wpList_load_sub rfl 85 (.tmp 10) rfl w.heap.size 0 rfl (ws W) HF.out ?_)
    | (with_reducible refine wpList_store_row rfl 85 (.tmp 5) (.tmp 11) rfl (w.heap.size + 1 + 1) (ws W) rfl rfl 85 (ws []) HN.out (info30' _) (ws_sizes _ _) (Hp.ws_one _) ?_))
  clear hz HN HF
  go_loopg [6, 12] 80 (fun g s6 i wr => ∃ n : Nat, n ≤ 80 ∧ g = 80 - n ∧ i = .int .i64 n ∧ Mk w wr W M S E n)
  case atStart => exact ⟨0, Nat.zero_le _, rfl, rfl, HST.out⟩
  case round =>
    obtain ⟨t, hn, rfl, rfl, hx⟩ := hrel
    clear HST
    by_cases hlt : t < 80
    · have h1 : ((t : Nat) : Int) < 80 := by omega
      have h0 : (0 : Int) ≤ ((t : Nat) : Int) := by omega
      have c1 := hx.row.cell hlt
      rw [show sibTo W M t t = W.getD t 0 by rw [sibTo, if_neg (by omega)]] at c1
      have c2 := row_of32 hx.m t hlt
      have cf := hx.row.frozen t
      have hp := fun v => hx.drew.put v
      generalize W.getD t 0 = a at *
      generalize M.getD t 0 = b at *
      have HX := Lib.hid hp
      clear hx hp
      go_wp2_with fail
      refine wp_region_still_tail 8 (by kernel_rfl) (by kernel_rfl) ?_
      simp only [List.take_succ_cons, List.take_zero, List.drop_succ_cons, List.drop_zero]
      change wpStill _ _ (World.drew _) (fun a' => wpList _ _ _ _ a' (World.drew _)) _ _
      iterate 8 still_step
      refine wpStill_nil ?_
      go_wp2
      go_roundg (80 - (t + 1))
      case rel => exact ⟨t + 1, by omega, rfl, by go_num, HX.out _ rfl⟩
      case measure => omega
    · obtain rfl : t = 80 := by omega
      have HW := Lib.hid hx.done
      have HP := Lib.hid hx.p
      have HM := Lib.hid (load_mid hx.p)
      have HBW := Lib.hid hx.below
      have hsz : w.heap.size + 1 + 1 < wr.heap.size := hx.row.lt
      clear hx
      go_wp2_with (first
        | (with_reducible refine wpList_load_sub rfl 82 (.tmp 24) rfl w.heap.size 80 rfl (cs S) HM.out ?_)
        | (with_reducible refine wpList_load_row rfl 85 (.tmp 5) rfl (w.heap.size + 1 + 1) rfl 85 (ws (Dv.sib W M)) (0, 0) _ HW.out Tryz.underlying85 rfl (info30' _) ?_))
      generalize Dv.sib W M = V at *
      have hf : Mf w wr W V S E := ⟨HBW.out, hsz, HP.out, HW.out⟩
      clear HBW hsz HP HW HM
      refine (back58 S V _).mono ?_
      rintro e w1 ⟨rfl, hb1⟩
      generalize Dv.rear V S 58 58 = X at *
      have hf1 := hf.more hb1
      have hf2 := hf1.lay (.cells #[.int .u32 0, .int .u32 0, .int .u32 0, .int .u32 0, .int .u32 0] 82) (cs X)
      have HN := Lib.hid (heap_alloc_new w1 (.cells #[.int .u32 0, .int .u32 0, .int .u32 0, .int .u32 0, .int .u32 0] 82))
      have HM := Lib.hid (load_mid hf2.p)
      have HW := Lib.hid hf2.row
      have HF := Lib.hid hf1
      clear hb1 hf hf1 hf2
      go_wp2_with (first
        | (with_reducible refine wpList_store_row rfl 82 (.tmp 7) (.tmp 27) rfl w1.heap.size (cs X) rfl rfl 82 _ HN.out (info28c _) (zero_size _) (cs_one _) ?_)
        | (with_reducible refine wpList_load_sub rfl 82 (.tmp 28) rfl w.heap.size 80 rfl (cs S) HM.out ?_)
        | (with_reducible refine wpList_load_row rfl 85 (.tmp 5) rfl (w.heap.size + 1 + 1) rfl 85 (ws V) (0, 0) _ HW.out Tryz.underlying85 rfl (info30' _) ?_))
      clear HN HM HW
      refine (ahead58 S V _).mono ?_
      rintro e w3 ⟨rfl, hb3⟩
      generalize Dv.fore V S 58 22 = Y at *
      have HST := Lib.hid (HF.out.start X Y hb3)
      have HN := Lib.hid (heap_alloc_new w3 (.cells #[.int .u32 0, .int .u32 0, .int .u32 0, .int .u32 0, .int .u32 0] 82))
      clear hb3 HF
      go_wp2_with (with_reducible refine wpList_store_row rfl 82 (.tmp 8) (.tmp 31) rfl w3.heap.size (cs Y) rfl rfl 82 _ HN.out (info28c _) (zero_size _) (cs_one _) ?_)
      clear HN
      generalize w1.heap.size = A at *
      generalize w3.heap.size = B at *
      go_loopg [9, 32] 5 (fun g s9 i wr => ∃ n : Nat, n ≤ 5 ∧ g = 5 - n ∧ i = .int .i64 n ∧ Me w wr A B W S E X Y n)
      case atStart => exact ⟨0, Nat.zero_le _, rfl, rfl, HST.out⟩
      case round =>
        obtain ⟨t, hn, rfl, rfl, hx⟩ := hrel
        clear HST
        by_cases hlt : t < 5
        · have h1 : ((t : Nat) : Int) < 5 := by omega
          have h0 : (0 : Int) ≤ ((t : Nat) : Int) := by omega
          have c1 := hx.en.cell hlt
          rw [if_neg (by omega)] at c1
          have c2 := hx.ch.cell hlt
          have cf := hx.en.frozen t
          have hp := fun v => hx.drew.put (v := v)
          generalize fld X t = a at *
          generalize fld Y t = b at *
          have HX := Lib.hid hp
          clear hx hp
          go_wp2_with fail
          refine wp_region_still_tail 8 (by kernel_rfl) (by kernel_rfl) ?_
          simp only [List.take_succ_cons, List.take_zero, List.drop_succ_cons, List.drop_zero]
          change wpStill _ _ (World.drew _) (fun a' => wpList _ _ _ _ a' (World.drew _)) _ _
          iterate 8 still_step
          refine wpStill_nil ?_
          go_wp2
          go_roundg (5 - (t + 1))
          case rel => exact ⟨t + 1, by omega, rfl, by go_num, HX.out _ rfl⟩
          case measure => omega
        · obtain rfl : t = 5 := by omega
          have HM := Lib.hid (load_end hx.p)
          have HW := Lib.hid hx.done
          have HBW := Lib.hid hx.below
          clear hx
          go_wp2_with (first
            | (with_reducible refine wpList_load_row rfl 82 (.tmp 8) rfl B rfl 82 (cs (Sh.add Y X)) (0, 0) _ HW.out Tryz.underlying82 rfl (info28c _) ?_)
            | (with_reducible refine wpList_load_sub rfl 82 (.tmp 45) rfl w.heap.size 85 rfl (cs E) HM.out ?_)
            | (with_reducible refine wpList_eq_op rfl .eql (Or.inl rfl) 82 82 (.tmp 44) (.tmp 46) rfl (cs (Sh.add Y X)) (cs E) rfl rfl guard28 _ (eql_chain _ _ _) ?_))
          go_ret
          exact ⟨by rw [HH.out]; rfl, HBW.out⟩
end Go.Proofs.YtmbbigmnliiadaaGreatDoor.Hd
namespace Go.Proofs.YtmbbigmnliiadaaGreatDoor.Hd
open Go.RowKit Hs Hp
set_option linter.unusedVariables false
attribute [local go_sem] t_and t_or t_xor t_not t_add t_sub t_add_wrap t_sub_wrap

theorem built32 : Tryz.prog.built 85 [] = some (ws []) := by kernel_rfl
theorem yields_eq_op {P : Program} {ops : Array Oper} {S : World → Prop} {o : Oper} {a : Act} (op : BinOp) (hop : op = .eql ∨ op = .neq) (ty ty' : TypeId) (x y : Operand) (ho : o.op = .binOp op ty x y ty') (hw : Region.wanted o (yielded ops a.tmps) = true)
    (X Y : Array Value) (hx : a.eval x = .agg X) (hy : a.eval y = .agg Y) (hg : P.eqGuardType P.depth ty = false) (b : Bool) (h : ∀ W, (binOp op ty (.agg X) (.agg Y)).run P W = .ok (.bool b) W) : YieldsIf P ops S o (.bool b) a :=
  .inl ⟨hw, fun W _ => run_eq_op op hop ty ty' x y ho X Y hx hy hg b W (h W)⟩
/-- what is loaded: the chain, the difference -/
structure Mq (w wr : World) (g : Nat) (c : Sh.Ch) (M : List UInt32) : Prop where
  below : Below w.heap.size w wr
  size : w.heap.size < wr.heap.size
  gsize : g < wr.heap.size
  ch : wr.heap[w.heap.size]? = some (.cells (cs c) 82 (0, 0))
  wd : wr.heap[g]? = some (.cells (ws M) 85 (0, 0))
section
variable {w wr w1 : World} {g : Nat} {c : Sh.Ch} {M : List UInt32}
theorem Mq.drew (h : Mq w wr g c M) : Mq w wr.drew g c M := ⟨h.below.drew, h.size, h.gsize, h.ch, h.wd⟩
theorem Mq.more (h : Mq w wr g c M) (hb : Below wr.heap.size wr w1) : Mq w w1 g c M :=
  ⟨h.below.trans (hb.mono h.below.size), Nat.lt_of_lt_of_le h.size hb.size, Nat.lt_of_lt_of_le h.gsize hb.size, by rw [hb.block _ h.size]; exact h.ch, by rw [hb.block _ h.gsize]; exact h.wd⟩
theorem Mq.start {v : Array Value} {T : TypeId} (c : Sh.Ch) (M : List UInt32) (hb : Below (w.heap.size + 1 + 1) ((w.alloc (.cells (cs c) 82)).alloc (.cells v T)) w1) :
    Mq w ((w1.alloc (.cells (ws []) 85)).setRow w1.heap.size (ws M)) w1.heap.size c M := by
  have hsz := hb.size
  simp at hsz
  have hbw : Below w.heap.size w w1 := Below.trans (((Below.refl _ w).alloc (Nat.le_refl _) _).alloc (by simp) _) (hb.mono (by omega))
  refine ⟨below_setRow (hbw.alloc hbw.size _) hbw.size _, by simp; omega, by simp, ?_, setRow_heap _ _ (ws []) _ _ _ (heap_alloc_new _ _)⟩
  rw [setRow_other _ _ _ _ (by omega), heap_alloc_old _ _ (by omega), hb.block _ (by omega), heap_alloc2_old]
end

end Go.Proofs.YtmbbigmnliiadaaGreatDoor.Hd
