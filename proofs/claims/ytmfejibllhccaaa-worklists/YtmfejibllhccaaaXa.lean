/-
  Footprints: in which blocks a thing lies, and what a call may turn (layer 6). The program's Todo: Push, Pop, Len.
-/
import Derived.Test.YtmfejibllhccaaaWf
import Derived.Maps.OwnSet
namespace Go.Proofs.Ytmfejibllhccaaa.Hx
open Go.RowKit Hw
set_option linter.unusedVariables false

/-- from w to w' none but the blocks of F has turned; what F' lists was in F, or is new -/
structure Turns (F F' : List Nat) (w w' : World) : Prop where
  os : w'.os = w.os
  tape : w'.tape = w.tape
  output : w'.output = w.output
  size : w.heap.size ≤ w'.heap.size
  block : ∀ k, k < w.heap.size → k ∉ F → w'.heap[k]? = w.heap[k]?
  foot : ∀ k, k ∈ F' → k ∈ F ∨ w.heap.size ≤ k
/-- two footprints that have no block in common -/
def Apart (F G : List Nat) : Prop := ∀ k, k ∈ F → k ∉ G
/-- a footprint that lies in a world -/
def Lies (F : List Nat) (w : World) : Prop := ∀ k, k ∈ F → k < w.heap.size
/-- the blocks of F are as they were -/
def Same (F : List Nat) (w w' : World) : Prop := ∀ k, k ∈ F → w'.heap[k]? = w.heap[k]?
theorem Apart.symm {F G : List Nat} (h : Apart F G) : Apart G F := fun k hk hf => h k hf hk
section
variable {F F' F'' G G' : List Nat} {a b c w w' : World}
theorem Turns.refl (F : List Nat) (w : World) : Turns F F w w := ⟨rfl, rfl, rfl, Nat.le_refl _, fun _ _ _ => rfl, fun _ h => .inl h⟩
theorem Turns.trans (h : Turns F F' a b) (k : Turns F' F'' b c) : Turns F F'' a c :=
  ⟨k.os.trans h.os, k.tape.trans h.tape, k.output.trans h.output, Nat.le_trans h.size k.size,
   fun i hi hn => (k.block i (Nat.lt_of_lt_of_le hi h.size) (fun e => (h.foot i e).elim hn (fun e => by omega))).trans (h.block i hi hn),
   fun i hi => (k.foot i hi).elim (fun e => h.foot i e) (fun e => .inr (Nat.le_trans h.size e))⟩
theorem Turns.drew (h : Turns F F' a b) : Turns F F' a b.drew := ⟨h.os, h.tape, h.output, h.size, h.block, h.foot⟩
theorem Turns.alloc (h : Turns F F' a b) (o : Obj) : Turns F F' a (b.alloc o) :=
  h.trans ⟨rfl, rfl, rfl, by simp, fun k hk _ => Below.heap_alloc _ _ _ hk, fun _ h => .inl h⟩
theorem Turns.setCell (h : Turns F F' a b) {p : Addr} (hp : p.block ∈ F') (u : Value) : Turns F F' a (b.setCell p u) :=
  h.trans ⟨rfl, rfl, rfl, by simp [World.setCell], fun k hk hn => Below.heap_setCell _ _ _ _ (fun e => hn (e ▸ hp)), fun _ h => .inl h⟩
theorem Turns.grown {row : Option Nat} (h : Turns F F' a b) (hg : b.grownBy c row) (hr : ∀ k, row = some k → k ∈ F') : Turns F F' a c :=
  h.trans ⟨hg.os, hg.tape, hg.output, hg.size, fun k hk hn => hg.block k hk (fun e => hn (hr k e.symm)), fun _ h => .inl h⟩
/-- another footprint in the end -/
theorem Turns.to (h : Turns F F' a b) (hf : ∀ k, k ∈ F'' → k ∈ F ∨ a.heap.size ≤ k) : Turns F F'' a b := ⟨h.os, h.tape, h.output, h.size, h.block, hf⟩
/-- a greater one at the beginning -/
theorem Turns.wider (h : Turns F F' a b) (hf : ∀ k, k ∈ F → k ∈ G) : Turns G F' a b := ⟨h.os, h.tape, h.output, h.size, fun k hk hn => h.block k hk (fun e => hn (hf k e)), fun k hk => (h.foot k hk).imp (hf k) id⟩
theorem Turns.of_below (h : Below a.heap.size a b) : Turns [] [] a b := ⟨h.os, h.tape, h.output, h.size, fun k hk _ => h.block k hk, fun k hk => by cases hk⟩
theorem Turns.below {B : Nat} (h : Turns F F' a b) (hB : B ≤ a.heap.size) (hF : ∀ k, k ∈ F → B ≤ k) : Below B a b :=
  ⟨h.os, h.tape, h.output, h.size, fun k hk => h.block k (by omega) (fun e => by have := hF k e; omega)⟩
theorem Turns.same (h : Turns F F' a b) (hl : Lies G a) (ha : Apart G F) : Same G a b := fun k hk => h.block k (hl k hk) (ha k hk)
theorem Turns.apart (h : Turns F F' a b) (hl : Lies G a) (ha : Apart G F) : Apart G F' := fun k hk hf => (h.foot k hf).elim (ha k hk) (fun e => by have := hl k hk; omega)
theorem Lies.mono (h : Lies F a) (hs : a.heap.size ≤ b.heap.size) : Lies F b := fun k hk => Nat.lt_of_lt_of_le (h k hk) hs
/-- beside another that stays -/
theorem Turns.beside (h : Turns F F' a b) (hG : ∀ k, k ∈ G → k ∈ G') : Turns (F ++ G') (F' ++ G) a b :=
  ⟨h.os, h.tape, h.output, h.size, fun k hk hn => h.block k hk (fun e => hn (List.mem_append_left _ e)),
   fun k hk => (List.mem_append.1 hk).elim (fun e => (h.foot k e).imp (List.mem_append_left _) id) (fun e => .inl (List.mem_append_right _ (hG k e)))⟩
theorem Same.cell (h : Same F w w') {p : Addr} (hp : p.block ∈ F) : w'.cell? p = w.cell? p := World.cell?_of_block (w := w) (h p.block hp)
theorem ownsRow_same {base : Nat} {e : TypeId} {size n : Nat} {v : Value} {xs : List Value} (h : w.ownsRow base e size v n xs) (hs : ∀ k, v.ownBlock = some k → w'.heap[k]? = w.heap[k]?) : w'.ownsRow base e size v n xs := by
  obtain ⟨h1, h2⟩ := h
  refine ⟨h1, ?_⟩
  rcases h2 with ⟨rfl, h0⟩ | ⟨g, cap, cur, rfl, hb, hg, hr⟩
  · exact .inl ⟨rfl, h0⟩
  · exact .inr ⟨g, cap, cur, rfl, hb, (hs g rfl).trans hg, hr⟩
end

/-! ### Todo -/
/-- in block b a Todo lies that holds l, the top one last -/
def TodoAt (w : World) (b : Nat) (l : List Int) (F : List Nat) : Prop :=
  ∃ v t, w.heap[b]? = some (.cells #[v] t (0, 0)) ∧ w.ownsRow 0 3 1 v l.length (intCells l) ∧ v.ownBlock ≠ some b ∧ F = b :: v.ownBlock.toList
section
variable {w w' : World} {b : Nat} {l : List Int} {F : List Nat}
theorem TodoAt.lies (h : TodoAt w b l F) : Lies F w := by
  obtain ⟨v, t, hb, ho, hne, rfl⟩ := h
  intro k hk
  rcases List.mem_cons.1 hk with rfl | hk
  · exact (Array.getElem?_eq_some_iff.1 hb).1
  · exact (ho.lt k (by simpa using hk)).2
theorem TodoAt.same (h : TodoAt w b l F) (hs : Same F w w') : TodoAt w' b l F := by
  obtain ⟨v, t, hb, ho, hne, rfl⟩ := h
  exact ⟨v, t, (hs b (by simp)).trans hb, ownsRow_same ho (fun k hk => hs k (by simp [hk])), hne, rfl⟩
theorem TodoAt.mem (h : TodoAt w b l F) : b ∈ F := by
  obtain ⟨v, t, hb, ho, hne, rfl⟩ := h
  simp
end
theorem cell_of_cells {w : World} {b t : Nat} {cs : Array Value} {fr : Nat × Nat} (h : w.heap[b]? = some (.cells cs t fr)) (i : Nat) : w.cell? ⟨b, i, none⟩ = cs[i]? := by simp [World.cell?, h]
theorem unfrozen_of_cells {w : World} {b t : Nat} {cs : Array Value} (h : w.heap[b]? = some (.cells cs t (0, 0))) (i : Nat) : w.frozen? ⟨b, i, none⟩ = false := by simp [World.frozen?, h]
theorem heap_setCell_cells {w : World} {b t : Nat} {cs : Array Value} {fr : Nat × Nat} (h : w.heap[b]? = some (.cells cs t fr)) (i : Nat) (u : Value) : (w.setCell ⟨b, i, none⟩ u).heap[b]? = some (.cells (cs.setIfInBounds i u) t fr) := by
  simp only [World.setCell, Array.getElem?_modify, h]
  simp

theorem own_succ {w : World} {base : Nat} {e : TypeId} {size n : Nat} {v : Value} {xs : List Value} (h : w.ownsRow base e size v (n + 1) xs) : ∃ g cap, v = .slice (some ⟨g, 0, none⟩) (n + 1) cap := by
  rcases h.2 with ⟨_, h0⟩ | ⟨g, cap, cur, rfl, _⟩
  · omega
  · exact ⟨g, cap, rfl⟩
theorem own_slice {w : World} {base : Nat} {e : TypeId} {size n : Nat} {v : Value} {xs : List Value} (h : w.ownsRow base e size v n xs) : ∃ A c, v = .slice A n c := by
  rcases h.2 with ⟨rfl, rfl⟩ | ⟨g, cap, cur, rfl, _⟩
  · exact ⟨_, _, rfl⟩
  · exact ⟨_, _, rfl⟩

set_option maxHeartbeats 1000000 in
set_option maxRecDepth 100000 in
theorem push_any (w : World) (b : Nat) (F : List Nat) (xs : List Int) (x : Int) (h : TodoAt w b xs F) (hl : xs.length ≤ 100000) :
    Calls Try.prog 14 #[.pointer (some ⟨b, 0, none⟩), .int .i64 x] w fun e w' => e = .returned (.tuple #[]) ∧ ∃ F', TodoAt w' b (xs ++ [x]) F' ∧ Turns F F' w w' := by
  obtain ⟨i0, hi0, hz0, hz1, hz2⟩ := info_parts info3
  have HI := Lib.hid (And.intro hi0 (And.intro hz0 (And.intro hz1 hz2)))
  clear hi0 hz0 hz1 hz2
  obtain ⟨v, t, hb, ho, hne, rfl⟩ := h
  have hblt : b < w.heap.size := (Array.getElem?_eq_some_iff.1 hb).1
  have c0 : w.cell? ⟨b, 0, none⟩ = some v := by rw [cell_of_cells hb]; rfl
  obtain ⟨A, c, rfl⟩ := own_slice ho
  have HO := Lib.hid ho
  have HB := Lib.hid hb
  have HNE := Lib.hid hne
  clear ho hb hne
  go_enter Try.func14, Try.ntmps14
  go_wp2_with (at_builtin; refine wpList_append_own_at _ rfl (.tmp 8) (.tmp 10) 26 rfl 0 3 i0 _ 1 8 Try.underlying26 HI.out.1 HI.out.2.1 HI.out.2.2.1 HI.out.2.2.2 rfl (by omega) (.slice A xs.length c) xs.length (intCells xs) rfl (HO.out.alloc _) ⟨w.heap.size, 0, none⟩ 1 1 [.int .i64 x] rfl rfl (World.news_of_block (cs := #[.int .i64 x]) (t := 3) (fr := (0, 0)) (heap_alloc_new w _)) (by simp [Value.oneCell']) (by unfold maxLen; omega) (by omega) (by simp) ?_; intro v1 wA hoA hgA hnA hatA; obtain ⟨g', cap', rfl⟩ := own_succ hoA; have hbA : wA.heap[b]? = some (.cells #[.slice A xs.length c] t) := (hgA.block b (by simp; omega) (fun e => HNE.out e.symm)).trans ((Below.heap_alloc _ _ _ hblt).trans HB.out); have hcA : wA.cell? ⟨b, 0, none⟩ = some (.slice A xs.length c) := (by rw [cell_of_cells hbA]; rfl); have hfA : wA.frozen? ⟨b, 0, none⟩ = false := unfrozen_of_cells hbA 0; have HT := Lib.hid (And.intro hoA (And.intro hgA (And.intro hatA hbA))); clear hoA hgA hnA hatA hbA)
  obtain ⟨hoA, hgA, hatA, hbA⟩ := HT.out
  go_end0
  have hgv : (Value.slice A xs.length c).ownBlock = some g' ∨ w.heap.size ≤ g' := by
    rcases hatA with h | h
    · exact .inl h.symm
    · simp [Value.ownBlock] at h
      exact .inr (by omega)
  have hgb : g' ≠ b := by
    intro e
    subst e
    rcases hgv with h | h
    · exact HNE.out h
    · omega
  refine ⟨rfl, b :: [g'], ⟨_, t, heap_setCell_cells hbA 0 _, ?_, by simp [Value.ownBlock, hgb], rfl⟩, ?_⟩
  · refine ownsRow_same (w := wA) ?_ ?_
    · rw [List.length_append, intCells, List.map_append]; exact hoA
    · intro k hk
      simp [Value.ownBlock] at hk
      subst hk
      exact Below.heap_setCell _ _ _ _ hgb
  · have h1 : Turns (b :: (Value.slice A xs.length c).ownBlock.toList) (b :: (Value.slice A xs.length c).ownBlock.toList) w wA := ((Turns.refl _ w).alloc _).grown hgA (fun k hk => by simp [hk])
    refine (h1.setCell (p := ⟨b, 0, none⟩) (by simp) _).to ?_
    intro k hk
    rcases List.mem_cons.1 hk with rfl | hk
    · exact .inl (by simp)
    · have : k = g' := by simpa using hk
      subst this
      rcases hgv with h | h
      · exact .inl (by simp [h])
      · exact .inr h

set_option maxRecDepth 100000 in
theorem todo_len (w : World) (b : Nat) (F : List Nat) (xs : List Int) (h : TodoAt w b xs F) :
    Calls Try.prog 19 #[.pointer (some ⟨b, 0, none⟩)] w fun e w' => e = .returned (.int .i64 xs.length) ∧ w' = w := by
  obtain ⟨v, t, hb, ho, hne, rfl⟩ := h
  have c0 : w.cell? ⟨b, 0, none⟩ = some v := by rw [cell_of_cells hb]; rfl
  obtain ⟨A, c, rfl⟩ := own_slice ho
  clear ho hb hne
  go_enter Try.func19, Try.ntmps19
  go_wp2
  go_ret
  exact ⟨rfl, rfl⟩

set_option maxRecDepth 100000 in
theorem pop_nil (w : World) (b : Nat) (F : List Nat) (h : TodoAt w b [] F) :
    Calls Try.prog 17 #[.pointer (some ⟨b, 0, none⟩)] w fun e w' => e = .returned (.tuple #[.int .i64 0, .bool false]) ∧ w' = w := by
  obtain ⟨v, t, hb, ho, hne, rfl⟩ := h
  have c0 : w.cell? ⟨b, 0, none⟩ = some v := by rw [cell_of_cells hb]; rfl
  obtain ⟨A, c, rfl⟩ := own_slice ho
  clear ho hb hne
  simp only [List.length_nil] at c0
  go_enter Try.func17, Try.ntmps17
  go_wp2
  go_ret2
  exact ⟨rfl, rfl⟩

set_option maxHeartbeats 1000000 in
set_option maxRecDepth 100000 in
theorem pop_snoc (w : World) (b : Nat) (F : List Nat) (xs : List Int) (x : Int) (h : TodoAt w b (xs ++ [x]) F) (hl : xs.length ≤ 100000) :
    Calls Try.prog 17 #[.pointer (some ⟨b, 0, none⟩)] w fun e w' => e = .returned (.tuple #[.int .i64 x, .bool true]) ∧ TodoAt w' b xs F ∧ Turns F F w w' := by
  obtain ⟨v, t, hb, ho, hne, rfl⟩ := h
  have c0 : w.cell? ⟨b, 0, none⟩ = some v := by rw [cell_of_cells hb]; rfl
  have f0 : w.frozen? ⟨b, 0, none⟩ = false := unfrozen_of_cells hb 0
  have hn : (xs ++ [x]).length = xs.length + 1 := by simp
  rw [hn] at ho
  rcases ho.2 with ⟨_, h0⟩ | ⟨g, cap, cur, rfl, _, hg, hle, hm, hsz, htk⟩
  · omega
  have hgb : g ≠ b := by simpa [Value.ownBlock] using hne
  have hcg : ∀ i, w.cell? ⟨g, i, none⟩ = cur[i]? := fun i => cell_of_cells hg i
  have hx : cur[xs.length]? = some (.int .i64 x) := by
    have h1 : (cur.toList.take ((xs.length + 1) * 1))[xs.length]? = some (.int .i64 x) := by rw [htk]; simp [intCells]
    rw [List.getElem?_take] at h1
    rw [if_pos (by omega)] at h1
    simpa using h1
  have cx : w.cell? ⟨g, xs.length, none⟩ = some (.int .i64 x) := by rw [hcg]; exact hx
  have fx : w.frozen? ⟨g, xs.length, none⟩ = false := unfrozen_of_cells hg _
  have hcap : cap ≤ 9223372036854775807 := by unfold maxLen at hm; omega
  have h1c : xs.length + 1 ≤ cap := hle
  have hxl : cur.toList.take xs.length = intCells xs := by
    have h1 : (cur.toList.take ((xs.length + 1) * 1)).take xs.length = (intCells (xs ++ [x])).take xs.length := by rw [htk]
    rw [List.take_take] at h1
    rw [show min xs.length ((xs.length + 1) * 1) = xs.length by omega] at h1
    rw [h1, intCells, intCells, List.map_append, List.take_append_of_le_length (by simp), List.take_of_length_le (by simp)]
  have HH := Lib.hid (And.intro hb (And.intro hg (And.intro hm (And.intro hsz (And.intro hxl hgb)))))
  have hgb2 : b ≠ g := fun e => hgb e.symm
  have HNE := Lib.hid hne
  clear ho hb hne hg hm hsz htk hxl hx hcg hle hn
  go_enter Try.func17, Try.ntmps17
  go_wp2
  go_ret2
  obtain ⟨hb, hg, hm, hsz, hxl, _⟩ := HH.out
  have hg1 := heap_setCell_cells hg xs.length (.int .i64 0)
  have hb1 : (w.setCell ⟨g, xs.length, none⟩ (.int .i64 0)).heap[b]? = _ := (Below.heap_setCell _ _ _ _ hgb2).trans hb
  refine ⟨rfl, ⟨_, t, heap_setCell_cells hb1 0 _, ⟨by simp [intCells], .inr ⟨g, cap, cur.setIfInBounds xs.length (.int .i64 0), rfl, Nat.zero_le _, (Below.heap_setCell _ _ _ _ hgb).trans hg1, by omega, hm, by simpa using hsz, ?_⟩⟩, HNE.out, rfl⟩, ?_⟩
  · rw [Nat.mul_one, ← hxl]
    apply List.ext_getElem?
    intro i
    rw [List.getElem?_take, List.getElem?_take]
    by_cases hi : i < xs.length
    · rw [if_pos hi, if_pos hi]
      simp only [Array.getElem?_toList]
      rw [Array.getElem?_setIfInBounds_ne (by omega)]
    · rw [if_neg hi, if_neg hi]
  · exact ((Turns.refl _ w).setCell (p := ⟨g, xs.length, none⟩) (by simp [Value.ownBlock]) _).setCell (p := ⟨b, 0, none⟩) (by simp) _
end Go.Proofs.Ytmfejibllhccaaa.Hx
