/-
  The program's Walk (layer 6): what it keeps from round to round.
-/
import Derived.Test.YtmfejibllhccaaaXc
import Derived.Test.YtmfejibllhccaaaXd
namespace Go.Proofs.Ytmfejibllhccaaa.Hx
open Go.RowKit Hw
set_option linter.unusedVariables false

/-- a function that is handed in: f, with what it holds, lb; J asked S w: in w it was asked of asked, and its own blocks are S -/
structure NextOk (U : List Int) (es : List (Int × Int)) (bs : List Int) (f : Nat) (lb : Array Value) (J : List Int → List Nat → World → Prop) : Prop where
  enters : ∀ args w, (callFunc f args).run Try.prog w = .ok (.enter f args) w
  lies : ∀ {out S w}, J out S w → Lies S w
  same : ∀ {out S w w'}, J out S w → Same S w w' → J out S w'
  call : ∀ out S w k, J out S w → k ∈ U → out.length ≤ 1000 → Calls Try.prog f (#[.int .i64 k] ++ lb) w fun e w' => ∃ A c S', e = .returned (.tuple #[.slice A (nexts es k).length c, .bool (!decide (k ∈ bs))]) ∧ Ints w' w'.heap.size A (nexts es k) ∧ (∀ ad, A = some ad → w.heap.size ≤ ad.block ∧ ad.block < w'.heap.size ∧ ad.block ∉ S') ∧ J (out ++ [k]) S' w' ∧ Turns S S' w w'

theorem Turns.then {S S' F F' : List Nat} {w a b : World} (h : Turns S S' w a) (k : Turns F F' a b) (hF : ∀ k, k ∈ F → w.heap.size ≤ k) : Turns S S' w b :=
  ⟨k.os.trans h.os, k.tape.trans h.tape, k.output.trans h.output, Nat.le_trans h.size k.size, fun i hi hn => (k.block i (Nat.lt_of_lt_of_le hi h.size) (fun e => by have := hF i e; omega)).trans (h.block i hi hn), h.foot⟩
theorem Turns.new {B : Nat} {F F' : List Nat} {a b : World} (h : Turns F F' a b) (hF : ∀ k, k ∈ F → B ≤ k) (hB : B ≤ a.heap.size) : ∀ k, k ∈ F' → B ≤ k := fun k hk => (h.foot k hk).elim (hF k) (fun e => Nat.le_trans hB e)

/-- what Walk holds: a list of what is to be done, xs, what was seen, ks, what was come to, out (the slice vo), and the function, asked of asked -/
structure Inv (J : List Int → List Nat → World → Prop) (w0 : World) (S0 : List Nat) (bT bS : Nat) (xs ks out asked : List Int) (vo : Value) (F G S : List Nat) (w : World) : Prop where
  todo : TodoAt w bT xs F
  seen : SeenAt w bS ks G
  own : w.ownsRow w0.heap.size 3 1 vo out.length (intCells out)
  j : J asked S w
  turns : Turns S0 S w0 w
  lies : Lies S w
  fg : Apart F G
  fo : Apart F vo.ownBlock.toList
  fs : Apart F S
  go : Apart G vo.ownBlock.toList
  gs : Apart G S
  os : Apart vo.ownBlock.toList S
  newF : ∀ k, k ∈ F → w0.heap.size ≤ k
  newG : ∀ k, k ∈ G → w0.heap.size ≤ k
section
variable {U : List Int} {es : List (Int × Int)} {bs : List Int} {f : Nat} {lb : Array Value} {J : List Int → List Nat → World → Prop} {w0 : World} {S0 : List Nat} {bT bS : Nat} {xs ks out asked xs' ks' out' asked' : List Int} {vo vo' : Value} {F G S F' G' S' : List Nat} {w w' : World}
theorem own_lies (h : w.ownsRow w0.heap.size 3 1 vo out.length (intCells out)) : Lies vo.ownBlock.toList w := fun k hk => (h.lt k (by simpa using hk)).2
theorem own_new' (h : w.ownsRow w0.heap.size 3 1 vo out.length (intCells out)) : ∀ k, k ∈ vo.ownBlock.toList → w0.heap.size ≤ k := fun k hk => (h.lt k (by simpa using hk)).1
theorem own_same (h : w.ownsRow w0.heap.size 3 1 vo out.length (intCells out)) (hs : Same vo.ownBlock.toList w w') : w'.ownsRow w0.heap.size 3 1 vo out.length (intCells out) := ownsRow_same h (fun k hk => hs k (by simp [hk]))
theorem Inv.todoTurn (hN : NextOk U es bs f lb J) (h : Inv J w0 S0 bT bS xs ks out asked vo F G S w) (hu : Turns F F' w w') (ht : TodoAt w' bT xs' F') : Inv J w0 S0 bT bS xs' ks out asked vo F' G S w' :=
  { todo := ht
    seen := h.seen.same (hu.same h.seen.lies h.fg.symm)
    own := own_same h.own (hu.same (own_lies h.own) h.fo.symm)
    j := hN.same h.j (hu.same h.lies h.fs.symm)
    turns := h.turns.then hu h.newF
    lies := h.lies.mono hu.size
    fg := (hu.apart h.seen.lies h.fg.symm).symm
    fo := (hu.apart (own_lies h.own) h.fo.symm).symm
    fs := (hu.apart h.lies h.fs.symm).symm
    go := h.go
    gs := h.gs
    os := h.os
    newF := hu.new h.newF h.turns.size
    newG := h.newG }
theorem Inv.seenTurn (hN : NextOk U es bs f lb J) (h : Inv J w0 S0 bT bS xs ks out asked vo F G S w) (hu : Turns G G' w w') (ht : SeenAt w' bS ks' G') : Inv J w0 S0 bT bS xs ks' out asked vo F G' S w' :=
  { todo := h.todo.same (hu.same h.todo.lies h.fg)
    seen := ht
    own := own_same h.own (hu.same (own_lies h.own) h.go.symm)
    j := hN.same h.j (hu.same h.lies h.gs.symm)
    turns := h.turns.then hu h.newG
    lies := h.lies.mono hu.size
    fg := hu.apart h.todo.lies h.fg
    fo := h.fo
    fs := h.fs
    go := (hu.apart (own_lies h.own) h.go.symm).symm
    gs := (hu.apart h.lies h.gs.symm).symm
    os := h.os
    newF := h.newF
    newG := hu.new h.newG h.turns.size }
theorem Inv.rowTurn (hN : NextOk U es bs f lb J) (h : Inv J w0 S0 bT bS xs ks out asked vo F G S w) (hu : Turns vo.ownBlock.toList vo'.ownBlock.toList w w') (ht : w'.ownsRow w0.heap.size 3 1 vo' out'.length (intCells out')) : Inv J w0 S0 bT bS xs ks out' asked vo' F G S w' :=
  { todo := h.todo.same (hu.same h.todo.lies h.fo)
    seen := h.seen.same (hu.same h.seen.lies h.go)
    own := ht
    j := hN.same h.j (hu.same h.lies h.os.symm)
    turns := h.turns.then hu (own_new' h.own)
    lies := h.lies.mono hu.size
    fg := h.fg
    fo := hu.apart h.todo.lies h.fo
    fs := h.fs
    go := hu.apart h.seen.lies h.go
    gs := h.gs
    os := (hu.apart h.lies h.os.symm).symm
    newF := h.newF
    newG := h.newG }
theorem Inv.nextTurn (hN : NextOk U es bs f lb J) (h : Inv J w0 S0 bT bS xs ks out asked vo F G S w) (hu : Turns S S' w w') (ht : J asked' S' w') : Inv J w0 S0 bT bS xs ks out asked' vo F G S' w' :=
  { todo := h.todo.same (hu.same h.todo.lies h.fs)
    seen := h.seen.same (hu.same h.seen.lies h.gs)
    own := own_same h.own (hu.same (own_lies h.own) h.os)
    j := ht
    turns := h.turns.trans hu
    lies := hN.lies ht
    fg := h.fg
    fo := h.fo
    fs := hu.apart h.todo.lies h.fs
    go := h.go
    gs := hu.apart h.seen.lies h.gs
    os := hu.apart (own_lies h.own) h.os
    newF := h.newF
    newG := h.newG }
theorem turns_below (F : List Nat) (h : Below w.heap.size w w') : Turns F F w w' := ((Turns.of_below h).wider (G := F) (fun k hk => by cases hk)).to (fun k hk => .inl hk)
theorem Inv.below (hN : NextOk U es bs f lb J) (h : Inv J w0 S0 bT bS xs ks out asked vo F G S w) (hb : Below w.heap.size w w') : Inv J w0 S0 bT bS xs ks out asked vo F G S w' :=
  h.todoTurn hN (turns_below F hb) (h.todo.same (same_of_below hb h.todo.lies))
end

theorem own_cap {w : World} {base : Nat} {e : TypeId} {size n c : Nat} {A : Option Addr} {ad : Addr} {xs : List Value} (h : w.ownsRow base e size (.slice A n c) n xs) (ha : A = some ad) : n ≤ c ∧ c ≤ maxLen := by
  rcases h.2 with ⟨e1, _⟩ | ⟨g, cap, cur, e1, _, _, h1, h2, _⟩
  · injection e1 with e1; rw [ha] at e1; cases e1
  · injection e1 with _ _ e3; subst e3; exact ⟨h1, h2⟩
/-- what Walk ends with -/
def WalkEnds (J : List Int → List Nat → World → Prop) (w0 : World) (S0 : List Nat) (R : List Int × Bool) (e : Ending) (w' : World) : Prop :=
  ∃ A c S, e = .returned (.tuple #[.slice A R.1.length c, .bool R.2]) ∧ Ints w' w'.heap.size A R.1 ∧ (∀ ad, A = some ad → w0.heap.size ≤ ad.block ∧ ad.block ∉ S ∧ R.1.length ≤ c ∧ c ≤ maxLen) ∧ J R.1 S w' ∧ Turns S0 S w0 w'
theorem Inv.ends {J : List Int → List Nat → World → Prop} {w0 : World} {S0 : List Nat} {bT bS : Nat} {xs ks out : List Int} {A : Option Addr} {c : Nat} {F G S : List Nat} {w : World} (h : Inv J w0 S0 bT bS xs ks out out (.slice A out.length c) F G S w) (b : Bool) :
    WalkEnds J w0 S0 (out, b) (.returned (.tuple #[.slice A out.length c, .bool b])) w := by
  obtain ⟨A', c', e, hin⟩ := ints_own h.own
  injection e with e1 _ e3
  subst e1
  exact ⟨A, c, S, rfl, hin, fun ad ha => ⟨own_new' h.own _ (by simp [ha, Value.ownBlock]), h.os _ (by simp [ha, Value.ownBlock]), own_cap h.own ha⟩, h.j, h.turns⟩
end Go.Proofs.Ytmfejibllhccaaa.Hx
