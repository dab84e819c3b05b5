/-
  Things in memory that have no block in common: put beside each other, moved about, turned one by one.
-/
import Derived.Test.YtmfejibllhccaaaXa
namespace Go.Proofs.Ytmfejibllhccaaa.Hx
open Go.RowKit Hw
set_option linter.unusedVariables false

/-- a thing that lies in the blocks of its footprint -/
structure Part (T : List Nat → World → Prop) : Prop where
  lies : ∀ {F w}, T F w → Lies F w
  same : ∀ {F w w'}, T F w → Same F w w' → T F w'
/-- two things that have no block in common -/
def Star (T U : List Nat → World → Prop) (F : List Nat) (w : World) : Prop := ∃ A B, F = A ++ B ∧ Apart A B ∧ T A w ∧ U B w
/-- a thing that was made since w1 -/
def Holds (w1 : World) (T : List Nat → World → Prop) (w : World) : Prop := ∃ F, T F w ∧ (∀ k, k ∈ F → w1.heap.size ≤ k) ∧ Below w1.heap.size w1 w
/-- the same things, put otherwise -/
def Imp (T U : List Nat → World → Prop) : Prop := ∀ F w, T F w → ∃ F', U F' w ∧ ∀ k, k ∈ F' ↔ k ∈ F
section
variable {T T' U R R' V : List Nat → World → Prop} {w w' w1 : World}
theorem Part.star (hT : Part T) (hU : Part U) : Part (Star T U) where
  lies := fun ⟨A, B, e, _, h1, h2⟩ k hk => by
    subst e
    rcases List.mem_append.1 hk with hk | hk
    · exact hT.lies h1 k hk
    · exact hU.lies h2 k hk
  same := fun ⟨A, B, e, ha, h1, h2⟩ hs => by
    subst e
    exact ⟨A, B, rfl, ha, hT.same h1 (fun k hk => hs k (List.mem_append_left _ hk)), hU.same h2 (fun k hk => hs k (List.mem_append_right _ hk))⟩
theorem Imp.refl (T : List Nat → World → Prop) : Imp T T := fun F w h => ⟨F, h, fun _ => Iff.rfl⟩
theorem Imp.trans (h : Imp T U) (k : Imp U V) : Imp T V := fun F w ht => by
  obtain ⟨F1, h1, e1⟩ := h F w ht
  obtain ⟨F2, h2, e2⟩ := k F1 w h1
  exact ⟨F2, h2, fun i => (e2 i).trans (e1 i)⟩
theorem imp_swap : Imp (Star T (Star U R)) (Star U (Star T R)) := fun F w h => by
  obtain ⟨A, B, rfl, hab, h1, C, D, rfl, hcd, h2, h3⟩ := h
  refine ⟨C ++ (A ++ D), ⟨C, A ++ D, rfl, ?_, h2, A, D, rfl, ?_, h1, h3⟩, fun k => by simp only [List.mem_append]; exact ⟨fun h => by rcases h with h | h | h <;> simp [h], fun h => by rcases h with h | h | h <;> simp [h]⟩⟩
  · intro k hk h
    rcases List.mem_append.1 h with h | h
    · exact hab k h (List.mem_append_left _ hk)
    · exact hcd k hk h
  · intro k hk h
    exact hab k hk (List.mem_append_right _ h)
theorem imp_comm : Imp (Star T U) (Star U T) := fun F w h => by
  obtain ⟨A, B, rfl, hab, h1, h2⟩ := h
  exact ⟨B ++ A, ⟨B, A, rfl, hab.symm, h2, h1⟩, fun k => by simp only [List.mem_append]; exact or_comm⟩
theorem imp_tail (h : Imp R R') : Imp (Star T R) (Star T R') := fun F w ht => by
  obtain ⟨A, B, rfl, hab, h1, h2⟩ := ht
  obtain ⟨B', h3, e⟩ := h B w h2
  exact ⟨A ++ B', ⟨A, B', rfl, fun k hk hb => hab k hk ((e k).1 hb), h1, h3⟩, fun k => by simp only [List.mem_append, e k]⟩
theorem imp3 : Imp (Star T (Star U (Star V R))) (Star V (Star T (Star U R))) := (imp_tail imp_swap).trans imp_swap
theorem Holds.imp (h : Holds w1 T w) (hi : Imp T U) : Holds w1 U w := by
  obtain ⟨F, ht, hn, hb⟩ := h
  obtain ⟨F', hu, e⟩ := hi F w ht
  exact ⟨F', hu, fun k hk => hn k ((e k).1 hk), hb⟩
theorem Holds.top (h : Holds w1 T w) : Below w1.heap.size w1 w := by
  obtain ⟨F, ht, hn, hb⟩ := h
  exact hb
theorem Holds.below (h : Holds w1 T w) (hT : Part T) (hb : Below w.heap.size w w') : Holds w1 T w' := by
  obtain ⟨F, ht, hn, h1⟩ := h
  exact ⟨F, hT.same ht (fun k hk => hb.block k (hT.lies ht k hk)), hn, h1.trans (hb.mono h1.size)⟩
/-- the first one, and what becomes of it -/
theorem Holds.head (h : Holds w1 (Star T R) w) (hR : Part R) : ∃ A, T A w ∧ (∀ k, k ∈ A → w1.heap.size ≤ k) ∧ ∀ {T' : List Nat → World → Prop} {w' : World} {A' : List Nat}, T' A' w' → Turns A A' w w' → Holds w1 (Star T' R) w' := by
  obtain ⟨F, ⟨A, B, rfl, hab, h1, h2⟩, hn, hb⟩ := h
  have hnA : ∀ k, k ∈ A → w1.heap.size ≤ k := fun k hk => hn k (List.mem_append_left _ hk)
  refine ⟨A, h1, hnA, fun {T' w' A'} h' hu => ?_⟩
  have hl := hR.lies h2
  refine ⟨A' ++ B, ⟨A', B, rfl, (hu.apart hl hab.symm).symm, h', hR.same h2 (hu.same hl hab.symm)⟩, fun k hk => ?_, hb.trans (hu.below hb.size hnA)⟩
  rcases List.mem_append.1 hk with hk | hk
  · exact (hu.foot k hk).elim (hnA k) (fun e => Nat.le_trans hb.size e)
  · exact hn k (List.mem_append_right _ hk)
theorem Holds.tail (h : Holds w1 (Star T R) w) : Holds w1 R w := by
  obtain ⟨F, ⟨A, B, rfl, hab, h1, h2⟩, hn, hb⟩ := h
  exact ⟨B, h2, fun k hk => hn k (List.mem_append_right _ hk), hb⟩
theorem Holds.first (h : Holds w1 (Star T R) w) : Holds w1 T w := by
  obtain ⟨F, ⟨A, B, rfl, hab, h1, h2⟩, hn, hb⟩ := h
  exact ⟨A, h1, fun k hk => hn k (List.mem_append_left _ hk), hb⟩
/-- one more, made just now -/
theorem Holds.add (h : Holds w1 R w) (hR : Part R) (hb : Below w.heap.size w w') {A : List Nat} (ht : T A w') (hA : ∀ k, k ∈ A → w.heap.size ≤ k) : Holds w1 (Star T R) w' := by
  obtain ⟨F, hr, hn, h1⟩ := h
  refine ⟨A ++ F, ⟨A, F, rfl, fun k hk hf => by have := hA k hk; have := hR.lies hr k hf; omega, ht, hR.same hr (fun k hk => hb.block k (hR.lies hr k hk))⟩, fun k hk => ?_, h1.trans (hb.mono h1.size)⟩
  rcases List.mem_append.1 hk with hk | hk
  · exact Nat.le_trans h1.size (hA k hk)
  · exact hn k hk
end
/-! ### the things of layer 6 -/
def Td (b : Nat) (l : List Int) : List Nat → World → Prop := fun F w => TodoAt w b l F
theorem td_part (b : Nat) (l : List Int) : Part (Td b l) := ⟨fun h => TodoAt.lies h, fun h hs => TodoAt.same h hs⟩
/-- a row of numbers -/
def Rw (v : Value) (l : List Int) : List Nat → World → Prop := fun F w => F = v.ownBlock.toList ∧ w.ownsRow 0 3 1 v l.length (intCells l)
theorem rw_part (v : Value) (l : List Int) : Part (Rw v l) := ⟨fun h k hk => by
  obtain ⟨rfl, ho⟩ := h
  exact (ho.lt k (by simpa using hk)).2, fun h hs => by
  obtain ⟨rfl, ho⟩ := h
  exact ⟨rfl, ownsRow_same ho (fun k hk => hs k (by simp [hk]))⟩⟩
/-- a block -/
def Bx (k : Nat) (o : Obj) : List Nat → World → Prop := fun F w => F = [k] ∧ w.heap[k]? = some o
theorem bx_part (k : Nat) (o : Obj) : Part (Bx k o) := ⟨fun h j hj => by
  obtain ⟨rfl, ho⟩ := h
  obtain rfl : j = k := by simpa using hj
  exact (Array.getElem?_eq_some_iff.1 ho).1, fun h hs => by
  obtain ⟨rfl, ho⟩ := h
  exact ⟨rfl, (hs k (by simp)).trans ho⟩⟩
theorem Holds.bx {w1 w : World} {k : Nat} {o : Obj} {R : List Nat → World → Prop} (h : Holds w1 (Star (Bx k o) R) w) : w.heap[k]? = some o := by
  obtain ⟨F, ⟨A, B, _, _, h1, _⟩, _, _⟩ := h
  exact h1.2
theorem Holds.ints {w1 w : World} {v : Value} {l : List Int} {R : List Nat → World → Prop} (h : Holds w1 (Star (Rw v l) R) w) : ∃ A c, v = .slice A l.length c ∧ Ints w w.heap.size A l := by
  obtain ⟨F, ⟨A, B, _, _, h1, _⟩, _, _⟩ := h
  exact ints_own h1.2
/-- an append to a row -/
theorem rw_append {w1 w : World} {v : Value} {l : List Int} {R : List Nat → World → Prop} (h : Holds w1 (Star (Rw v l) R) w) (hR : Part R) (x : Int) (hl : l.length ≤ 100000) (ad : Addr) (hc : w.cell? ad = some (.int .i64 x)) (m : Nat) (ty : TypeId) :
    ∃ A' c' w', (Builtin.append_ #[26, 26] ty #[v, .slice (some ad) 1 m]).run Try.prog w = .ok (.slice A' (l ++ [x]).length c') w' ∧ Holds w1 (Star (Rw (.slice A' (l ++ [x]).length c') (l ++ [x])) R) w' := by
  obtain ⟨i0, hi0, hz0, hz1, hz2⟩ := info_parts info3
  have hnews : ∀ (j : Nat) (u : Value), [Value.int .i64 x][j]? = some u → w.cell? (ad.add j) = some u := fun j u hu => by
    have hj : j = 0 := by
      rcases Nat.eq_zero_or_pos j with h0 | h0
      · exact h0
      · rw [List.getElem?_eq_none (by simp; omega)] at hu; cases hu
    subst hj
    simp at hu
    subst hu
    exact hc
  obtain ⟨A, ⟨rfl, ho⟩, hnA, hput⟩ := h.head hR
  obtain ⟨v', w', hrun, hown, hgr, _, hat⟩ := run_append_own_at (P := Try.prog) w 0 26 ty 3 i0 _ 1 8 Try.underlying26 hi0 hz0 hz1 hz2 rfl (by omega) v l.length (intCells l) ho ad 1 m [.int .i64 x] rfl hnews (by simp [Value.oneCell']) (by unfold maxLen; omega) (by omega) (by simp)
  obtain ⟨A', c', rfl⟩ := own_slice hown
  have hlen : (l ++ [x]).length = l.length + 1 := by simp
  refine ⟨A', c', w', by rw [hrun, hlen], hput (T' := Rw (.slice A' (l ++ [x]).length c') (l ++ [x])) (A' := (Value.slice A' (l ++ [x]).length c').ownBlock.toList) ⟨rfl, ?_⟩ ?_⟩
  · rw [hlen, intCells, List.map_append]; exact hown
  · refine ((Turns.refl v.ownBlock.toList w).grown hgr (fun k hk => by simp [hk])).to (fun k hk => ?_)
    have hk' : (Value.slice A' (l.length + 1) c').ownBlock = some k := by rw [hlen] at hk; simpa using hk
    rcases hat with e | e
    · rw [e] at hk'; exact .inl (by simp [hk'])
    · rw [e] at hk'; injection hk' with hk'; exact .inr (by omega)
/-- a row's last one goes -/
theorem rw_drop {w1 w : World} {A : Option Addr} {c : Nat} {l : List Int} {x : Int} {R : List Nat → World → Prop} (h : Holds w1 (Star (Rw (.slice A (l ++ [x]).length c) (l ++ [x])) R) w) (hR : Part R) :
    ∃ g, A = some ⟨g, 0, none⟩ ∧ l.length + 1 ≤ c ∧ c ≤ maxLen ∧ w.cell? ⟨g, l.length, none⟩ = some (.int .i64 x) ∧ Holds w1 (Star (Rw (.slice A l.length c) l) R) w := by
  obtain ⟨A', ⟨rfl, ho⟩, hnA, hput⟩ := h.head hR
  have hc := fun g (e : (Value.slice A (l ++ [x]).length c).ownBlock = some g) => ho.cells (g := g)
  rcases ho.2 with ⟨_, h0⟩ | ⟨g, cap, cur, e, hb, hg, hle, hm, hsz, htk⟩
  · simp at h0
  · injection e with e1 e2 e3
    subst e1 e3
    have hx := ho.cells (g := g) rfl l.length (.int .i64 x) (by simp [intCells])
    rw [Addr.add_lit, Nat.zero_add] at hx
    refine ⟨g, rfl, by simpa using hle, hm, hx, hput (T' := Rw (.slice (some ⟨g, 0, none⟩) l.length c) l) (A' := [g]) ⟨rfl, by simp [intCells], .inr ⟨g, c, cur, rfl, Nat.zero_le _, hg, by simp at hle; omega, hm, hsz, ?_⟩⟩ (Turns.refl _ w)⟩
    have h1 : (cur.toList.take ((l ++ [x]).length * 1)).take (l.length * 1) = (intCells (l ++ [x])).take (l.length * 1) := by rw [htk]
    rw [List.take_take] at h1
    rw [show min (l.length * 1) ((l ++ [x]).length * 1) = l.length * 1 by simp] at h1
    rw [h1, intCells, intCells, List.map_append, List.take_append_of_le_length (by simp), List.take_of_length_le (by simp)]
end Go.Proofs.Ytmfejibllhccaaa.Hx
