/-
  Footprints: in which blocks a thing lies, and what a call may turn; things in memory that have no block in common.
-/
import Derived.Test.YtdgfbpkpfmdjjaaRc
namespace Go.Proofs.Ytdgfbpkpfmdjjaa.Ht
open Go.RowKit
set_option linter.unusedVariables false

/-- from w to w' none but the blocks of F has turned; what F' lists was in F, or is new -/
structure Turns (F F' : List Nat) (w w' : World) : Prop where
  os : w'.os = w.os
  tape : w'.tape = w.tape
  output : w'.output = w.output
  size : w.heap.size ≤ w'.heap.size
  block : ∀ k, k < w.heap.size → k ∉ F → w'.heap[k]? = w.heap[k]?
  foot : ∀ k, k ∈ F' → k ∈ F ∨ w.heap.size ≤ k
/-- two footprints that have no block in common -/
def Apart (F G : List Nat) : Prop := ∀ k, k ∈ F → k ∉ G
/-- a footprint that lies in a world -/
def Lies (F : List Nat) (w : World) : Prop := ∀ k, k ∈ F → k < w.heap.size
/-- the blocks of F are as they were -/
def Same (F : List Nat) (w w' : World) : Prop := ∀ k, k ∈ F → w'.heap[k]? = w.heap[k]?
theorem Apart.symm {F G : List Nat} (h : Apart F G) : Apart G F := fun k hk hf => h k hf hk
section
variable {F F' F'' G G' : List Nat} {a b c w w' : World}
theorem Turns.refl (F : List Nat) (w : World) : Turns F F w w := ⟨rfl, rfl, rfl, Nat.le_refl _, fun _ _ _ => rfl, fun _ h => .inl h⟩
theorem Turns.trans (h : Turns F F' a b) (k : Turns F' F'' b c) : Turns F F'' a c :=
  ⟨k.os.trans h.os, k.tape.trans h.tape, k.output.trans h.output, Nat.le_trans h.size k.size,
   fun i hi hn => (k.block i (Nat.lt_of_lt_of_le hi h.size) (fun e => (h.foot i e).elim hn (fun e => by omega))).trans (h.block i hi hn),
   fun i hi => (k.foot i hi).elim (fun e => h.foot i e) (fun e => .inr (Nat.le_trans h.size e))⟩
theorem Turns.drew (h : Turns F F' a b) : Turns F F' a b.drew := ⟨h.os, h.tape, h.output, h.size, h.block, h.foot⟩
theorem Turns.alloc (h : Turns F F' a b) (o : Obj) : Turns F F' a (b.alloc o) :=
  h.trans ⟨rfl, rfl, rfl, by simp, fun k hk _ => Below.heap_alloc _ _ _ hk, fun _ h => .inl h⟩
theorem Turns.setCell (h : Turns F F' a b) {p : Addr} (hp : p.block ∈ F') (u : Value) : Turns F F' a (b.setCell p u) :=
  h.trans ⟨rfl, rfl, rfl, by simp [World.setCell], fun k hk hn => Below.heap_setCell _ _ _ _ (fun e => hn (e ▸ hp)), fun _ h => .inl h⟩
theorem Turns.grown {row : Option Nat} (h : Turns F F' a b) (hg : b.grownBy c row) (hr : ∀ k, row = some k → k ∈ F') : Turns F F' a c :=
  h.trans ⟨hg.os, hg.tape, hg.output, hg.size, fun k hk hn => hg.block k hk (fun e => hn (hr k e.symm)), fun _ h => .inl h⟩
/-- another footprint in the end -/
theorem Turns.to (h : Turns F F' a b) (hf : ∀ k, k ∈ F'' → k ∈ F ∨ a.heap.size ≤ k) : Turns F F'' a b := ⟨h.os, h.tape, h.output, h.size, h.block, hf⟩
/-- a greater one at the beginning -/
theorem Turns.wider (h : Turns F F' a b) (hf : ∀ k, k ∈ F → k ∈ G) : Turns G F' a b := ⟨h.os, h.tape, h.output, h.size, fun k hk hn => h.block k hk (fun e => hn (hf k e)), fun k hk => (h.foot k hk).imp (hf k) id⟩
theorem Turns.of_below (h : Below a.heap.size a b) : Turns [] [] a b := ⟨h.os, h.tape, h.output, h.size, fun k hk _ => h.block k hk, fun k hk => by cases hk⟩
theorem Turns.below {B : Nat} (h : Turns F F' a b) (hB : B ≤ a.heap.size) (hF : ∀ k, k ∈ F → B ≤ k) : Below B a b :=
  ⟨h.os, h.tape, h.output, h.size, fun k hk => h.block k (by omega) (fun e => by have := hF k e; omega)⟩
theorem Turns.same (h : Turns F F' a b) (hl : Lies G a) (ha : Apart G F) : Same G a b := fun k hk => h.block k (hl k hk) (ha k hk)
theorem Turns.apart (h : Turns F F' a b) (hl : Lies G a) (ha : Apart G F) : Apart G F' := fun k hk hf => (h.foot k hf).elim (ha k hk) (fun e => by have := hl k hk; omega)
theorem Lies.mono (h : Lies F a) (hs : a.heap.size ≤ b.heap.size) : Lies F b := fun k hk => Nat.lt_of_lt_of_le (h k hk) hs
/-- beside another that stays -/
theorem Turns.beside (h : Turns F F' a b) (hG : ∀ k, k ∈ G → k ∈ G') : Turns (F ++ G') (F' ++ G) a b :=
  ⟨h.os, h.tape, h.output, h.size, fun k hk hn => h.block k hk (fun e => hn (List.mem_append_left _ e)),
   fun k hk => (List.mem_append.1 hk).elim (fun e => (h.foot k e).imp (List.mem_append_left _) id) (fun e => .inl (List.mem_append_right _ (hG k e)))⟩
theorem Same.cell (h : Same F w w') {p : Addr} (hp : p.block ∈ F) : w'.cell? p = w.cell? p := World.cell?_of_block (w := w) (h p.block hp)
theorem ownsRow_same {base : Nat} {e : TypeId} {size n : Nat} {v : Value} {xs : List Value} (h : w.ownsRow base e size v n xs) (hs : ∀ k, v.ownBlock = some k → w'.heap[k]? = w.heap[k]?) : w'.ownsRow base e size v n xs := by
  obtain ⟨h1, h2⟩ := h
  refine ⟨h1, ?_⟩
  rcases h2 with ⟨rfl, h0⟩ | ⟨g, cap, cur, rfl, hb, hg, hr⟩
  · exact .inl ⟨rfl, h0⟩
  · exact .inr ⟨g, cap, cur, rfl, hb, (hs g rfl).trans hg, hr⟩
end

/-- a thing that lies in the blocks of its footprint -/
structure Part (T : List Nat → World → Prop) : Prop where
  lies : ∀ {F w}, T F w → Lies F w
  same : ∀ {F w w'}, T F w → Same F w w' → T F w'
/-- two things that have no block in common -/
def Star (T U : List Nat → World → Prop) (F : List Nat) (w : World) : Prop := ∃ A B, F = A ++ B ∧ Apart A B ∧ T A w ∧ U B w
/-- a thing that was made since w1 -/
def Holds (w1 : World) (T : List Nat → World → Prop) (w : World) : Prop := ∃ F, T F w ∧ (∀ k, k ∈ F → w1.heap.size ≤ k) ∧ Below w1.heap.size w1 w
/-- the same things, put otherwise -/
def Imp (T U : List Nat → World → Prop) : Prop := ∀ F w, T F w → ∃ F', U F' w ∧ ∀ k, k ∈ F' ↔ k ∈ F
section
variable {T T' U R R' V : List Nat → World → Prop} {w w' w1 : World}
theorem Part.star (hT : Part T) (hU : Part U) : Part (Star T U) where
  lies := fun ⟨A, B, e, _, h1, h2⟩ k hk => by
    subst e
    rcases List.mem_append.1 hk with hk | hk
    · exact hT.lies h1 k hk
    · exact hU.lies h2 k hk
  same := fun ⟨A, B, e, ha, h1, h2⟩ hs => by
    subst e
    exact ⟨A, B, rfl, ha, hT.same h1 (fun k hk => hs k (List.mem_append_left _ hk)), hU.same h2 (fun k hk => hs k (List.mem_append_right _ hk))⟩
theorem Imp.refl (T : List Nat → World → Prop) : Imp T T := fun F w h => ⟨F, h, fun _ => Iff.rfl⟩
theorem Imp.trans (h : Imp T U) (k : Imp U V) : Imp T V := fun F w ht => by
  obtain ⟨F1, h1, e1⟩ := h F w ht
  obtain ⟨F2, h2, e2⟩ := k F1 w h1
  exact ⟨F2, h2, fun i => (e2 i).trans (e1 i)⟩
theorem imp_swap : Imp (Star T (Star U R)) (Star U (Star T R)) := fun F w h => by
  obtain ⟨A, B, rfl, hab, h1, C, D, rfl, hcd, h2, h3⟩ := h
  refine ⟨C ++ (A ++ D), ⟨C, A ++ D, rfl, ?_, h2, A, D, rfl, ?_, h1, h3⟩, fun k => by simp only [List.mem_append]; exact ⟨fun h => by rcases h with h | h | h <;> simp [h], fun h => by rcases h with h | h | h <;> simp [h]⟩⟩
  · intro k hk h
    rcases List.mem_append.1 h with h | h
    · exact hab k h (List.mem_append_left _ hk)
    · exact hcd k hk h
  · intro k hk h
    exact hab k hk (List.mem_append_right _ h)
theorem imp_comm : Imp (Star T U) (Star U T) := fun F w h => by
  obtain ⟨A, B, rfl, hab, h1, h2⟩ := h
  exact ⟨B ++ A, ⟨B, A, rfl, hab.symm, h2, h1⟩, fun k => by simp only [List.mem_append]; exact or_comm⟩
theorem imp_tail (h : Imp R R') : Imp (Star T R) (Star T R') := fun F w ht => by
  obtain ⟨A, B, rfl, hab, h1, h2⟩ := ht
  obtain ⟨B', h3, e⟩ := h B w h2
  exact ⟨A ++ B', ⟨A, B', rfl, fun k hk hb => hab k hk ((e k).1 hb), h1, h3⟩, fun k => by simp only [List.mem_append, e k]⟩
theorem imp3 : Imp (Star T (Star U (Star V R))) (Star V (Star T (Star U R))) := (imp_tail imp_swap).trans imp_swap
theorem Holds.imp (h : Holds w1 T w) (hi : Imp T U) : Holds w1 U w := by
  obtain ⟨F, ht, hn, hb⟩ := h
  obtain ⟨F', hu, e⟩ := hi F w ht
  exact ⟨F', hu, fun k hk => hn k ((e k).1 hk), hb⟩
theorem Holds.top (h : Holds w1 T w) : Below w1.heap.size w1 w := by
  obtain ⟨F, ht, hn, hb⟩ := h
  exact hb
theorem Holds.below (h : Holds w1 T w) (hT : Part T) (hb : Below w.heap.size w w') : Holds w1 T w' := by
  obtain ⟨F, ht, hn, h1⟩ := h
  exact ⟨F, hT.same ht (fun k hk => hb.block k (hT.lies ht k hk)), hn, h1.trans (hb.mono h1.size)⟩
/-- the first one, and what becomes of it -/
theorem Holds.head (h : Holds w1 (Star T R) w) (hR : Part R) : ∃ A, T A w ∧ (∀ k, k ∈ A → w1.heap.size ≤ k) ∧ ∀ {T' : List Nat → World → Prop} {w' : World} {A' : List Nat}, T' A' w' → Turns A A' w w' → Holds w1 (Star T' R) w' := by
  obtain ⟨F, ⟨A, B, rfl, hab, h1, h2⟩, hn, hb⟩ := h
  have hnA : ∀ k, k ∈ A → w1.heap.size ≤ k := fun k hk => hn k (List.mem_append_left _ hk)
  refine ⟨A, h1, hnA, fun {T' w' A'} h' hu => ?_⟩
  have hl := hR.lies h2
  refine ⟨A' ++ B, ⟨A', B, rfl, (hu.apart hl hab.symm).symm, h', hR.same h2 (hu.same hl hab.symm)⟩, fun k hk => ?_, hb.trans (hu.below hb.size hnA)⟩
  rcases List.mem_append.1 hk with hk | hk
  · exact (hu.foot k hk).elim (hnA k) (fun e => Nat.le_trans hb.size e)
  · exact hn k (List.mem_append_right _ hk)
theorem Holds.tail (h : Holds w1 (Star T R) w) : Holds w1 R w := by
  obtain ⟨F, ⟨A, B, rfl, hab, h1, h2⟩, hn, hb⟩ := h
  exact ⟨B, h2, fun k hk => hn k (List.mem_append_right _ hk), hb⟩
theorem Holds.first (h : Holds w1 (Star T R) w) : Holds w1 T w := by
  obtain ⟨F, ⟨A, B, rfl, hab, h1, h2⟩, hn, hb⟩ := h
  exact ⟨A, h1, fun k hk => hn k (List.mem_append_left _ hk), hb⟩
/-- one more, made just now -/
theorem Holds.add (h : Holds w1 R w) (hR : Part R) (hb : Below w.heap.size w w') {A : List Nat} (ht : T A w') (hA : ∀ k, k ∈ A → w.heap.size ≤ k) : Holds w1 (Star T R) w' := by
  obtain ⟨F, hr, hn, h1⟩ := h
  refine ⟨A ++ F, ⟨A, F, rfl, fun k hk hf => by have := hA k hk; have := hR.lies hr k hf; omega, ht, hR.same hr (fun k hk => hb.block k (hR.lies hr k hk))⟩, fun k hk => ?_, h1.trans (hb.mono h1.size)⟩
  rcases List.mem_append.1 hk with hk | hk
  · exact Nat.le_trans h1.size (hA k hk)
  · exact hn k hk
end

/-- a block that holds such a thing -/
def Bx (k : Nat) (o : Obj) : List Nat → World → Prop := fun F w => F = [k] ∧ w.heap[k]? = some o
theorem bx_part (k : Nat) (o : Obj) : Part (Bx k o) := ⟨fun h j hj => by
  obtain ⟨rfl, h⟩ := h
  obtain rfl : j = k := by simpa using hj
  exact (Array.getElem?_eq_some_iff.1 h).1, fun h hs => by
  obtain ⟨rfl, h⟩ := h
  exact ⟨rfl, (hs k (by simp)).trans h⟩⟩
end Go.Proofs.Ytdgfbpkpfmdjjaa.Ht
