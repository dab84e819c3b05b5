/-
  A slice of numbers of which the first one goes (layer 6), and a pipe beside it: what the law of pipes holds.
-/
import Derived.Test.YtmfejibllhccaaaYa
import Derived.Deep.DeepCutAuto
import Derived.Deep.CutBlock
namespace Go.Proofs.Ytmfejibllhccaaa.Hx
open Go.RowKit Hw Hpi
set_option linter.unusedVariables false

/-- a slice of the call's own, from any place of its array on: it reads as l -/
def Que (w : World) (G : List Nat) (A : Option Addr) (c : Nat) (l : List Int) : Prop :=
  (A = none ∧ c = 0 ∧ l = [] ∧ G = []) ∨
  ∃ g off, A = some ⟨g, off, none⟩ ∧ G = [g] ∧ g < w.heap.size ∧ l.length ≤ c ∧ c ≤ maxLen ∧ (∀ j, j < l.length → w.cell? ⟨g, off + j, none⟩ = some (.int .i64 (l.getD j 0))) ∧
    ∀ j, j < c → (w.cell? ⟨g, off + j, none⟩).isSome = true ∧ w.frozen? ⟨g, off + j, none⟩ = false
section
variable {w w' : World} {G : List Nat} {A : Option Addr} {c : Nat} {l : List Int}
theorem Que.lies (h : Que w G A c l) : Lies G w := by
  rcases h with ⟨_, _, _, rfl⟩ | ⟨g, off, _, rfl, hg, _⟩
  · intro k hk; cases hk
  · intro k hk
    obtain rfl : k = g := by simpa using hk
    exact hg
theorem frozen_same {w w' : World} {p : Addr} (h : w'.heap[p.block]? = w.heap[p.block]?) : w'.frozen? p = w.frozen? p := by
  unfold World.frozen?
  rw [h]
theorem Que.same (h : Que w G A c l) (hs : Same G w w') : Que w' G A c l := by
  rcases h with ⟨h1, h2, h3, rfl⟩ | ⟨g, off, h1, rfl, hg, h2, h3, h4, h5⟩
  · exact .inl ⟨h1, h2, h3, rfl⟩
  · have hb := hs g (by simp)
    refine .inr ⟨g, off, h1, rfl, ?_, h2, h3, fun j hj => ?_, fun j hj => ?_⟩
    · rw [Array.getElem?_eq_getElem hg] at hb
      exact (Array.getElem?_eq_some_iff.1 hb).1
    · rw [World.cell?_of_block (w := w) (a := ⟨g, off + j, none⟩) hb]; exact h4 j hj
    · rw [World.cell?_of_block (w := w) (a := ⟨g, off + j, none⟩) hb, frozen_same (p := ⟨g, off + j, none⟩) hb]; exact h5 j hj
theorem Que.of_own {base n : Nat} (h : w.ownsRow base 3 1 (.slice A n c) n (intCells l)) : ∃ G, Que w G A c l ∧ (∀ k, k ∈ G → base ≤ k) ∧ n = l.length := by
  have hn : n = l.length := by have := h.1; simp [intCells] at this; omega
  subst hn
  rcases h.2 with ⟨e, h0⟩ | ⟨g, cap, cur, e, hb, hg, hle, hm, hsz, htk⟩
  · injection e with e1 e2 e3
    subst e1 e3
    exact ⟨[], .inl ⟨rfl, rfl, List.eq_nil_of_length_eq_zero h0, rfl⟩, fun k hk => (by cases hk), rfl⟩
  · injection e with e1 e2 e3
    subst e1 e3
    refine ⟨[g], .inr ⟨g, 0, rfl, rfl, (Array.getElem?_eq_some_iff.1 hg).1, hle, hm, fun j hj => ?_, fun j hj => ?_⟩, fun k hk => by simp at hk; omega, rfl⟩
    · have := h.cells (g := g) rfl j (.int .i64 (l.getD j 0)) (by simp [intCells, List.getD, List.getElem?_eq_getElem hj])
      rwa [Addr.add_lit] at this
    · rw [Nat.zero_add, cell_of_cells hg, unfrozen_of_cells hg]
      refine ⟨?_, rfl⟩
      rw [Array.getElem?_eq_getElem (by omega)]; rfl
end
theorem getD_snocI (l : List Int) (c : Int) (j : Nat) (h : j < l.length) : (l ++ [c]).getD j 0 = l.getD j 0 := by simp [List.getD, List.getElem?_append_left h]
/-- one more -/
theorem que_append (w : World) (G : List Nat) (A : Option Addr) (c : Nat) (l : List Int) (h : Que w G A c l) (x : Int) (hl : l.length ≤ 100000) (ad : Addr) (hc : w.cell? ad = some (.int .i64 x)) (m : Nat) (ty : TypeId) :
    ∃ A' c' w' G', (Builtin.append_ #[26, 26] ty #[.slice A l.length c, .slice (some ad) 1 m]).run Try.prog w = .ok (.slice A' (l ++ [x]).length c') w' ∧ Que w' G' A' c' (l ++ [x]) ∧ Turns G G' w w' := by
  obtain ⟨i0, hi0, hz0, hz1, hz2⟩ := info_parts info3
  have hnews : ∀ (j : Nat) (u : Value), [Value.int .i64 x][j]? = some u → w.cell? (ad.add j) = some u := fun j u hu => by
    have hj : j = 0 := by
      rcases Nat.eq_zero_or_pos j with h0 | h0
      · exact h0
      · rw [List.getElem?_eq_none (by simp; omega)] at hu; cases hu
    subst hj
    simp at hu
    subst hu
    exact hc
  rcases h with ⟨rfl, rfl, rfl, rfl⟩ | ⟨g, off, rfl, rfl, hg, h2, h3, h4, h5⟩
  · obtain ⟨v', w', hrun, hown, hgr, _, _⟩ := run_append_own_at (P := Try.prog) w w.heap.size 26 ty 3 i0 _ 1 8 Try.underlying26 hi0 hz0 hz1 hz2 rfl (by omega) (.slice none 0 0) 0 [] (World.ownsRow_nil _ _ _ _) ad 1 m [.int .i64 x] rfl hnews (by simp [Value.oneCell']) (by unfold maxLen; omega) (by omega) (by simp)
    obtain ⟨A', c', rfl⟩ := own_slice hown
    obtain ⟨G', hq, hG, _⟩ := Que.of_own (l := [x]) hown
    refine ⟨A', c', w', G', hrun, hq, ?_⟩
    exact ((Turns.refl [] w).grown hgr (fun k hk => by cases hk)).to (fun k hk => .inr (hG k hk))
  · by_cases hroom : l.length + 1 ≤ c
    · have hr := run_append_room_cells (P := Try.prog) w 26 ty 3 i0 Try.underlying26 hi0 g off l.length c ad 1 m [.int .i64 x] (by simp [hz1]) hnews (by simp [Value.oneCell']) hroom
        (fun j hj => by simp at hj; subst hj; simp [hz1]; exact (h5 l.length (by omega)).1) (fun j hj => by simp at hj; subst hj; simp [hz1]; exact (h5 l.length (by omega)).2)
      have hset : w.setCells g (off + l.length * i0.size) [.int .i64 x] = w.setCell ⟨g, off + l.length, none⟩ (.int .i64 x) := by simp [hz1, World.setCells]
      rw [hset] at hr
      refine ⟨some ⟨g, off, none⟩, c, w.setCell ⟨g, off + l.length, none⟩ (.int .i64 x), [g], by rw [hr]; simp, .inr ⟨g, off, rfl, rfl, by simpa [World.setCell] using hg, by simpa using hroom, h3, fun j hj => ?_, fun j hj => ?_⟩, (Turns.refl [g] w).setCell (p := ⟨g, off + l.length, none⟩) (by simp) _⟩
      · simp at hj
        by_cases e : j = l.length
        · subst e
          rw [World.cell?_setCell_same' _ _ _ (h5 l.length (by omega)).1]
          simp
        · rw [World.cell?_setCell_other _ _ _ _ (fun e' => by injection e' with _ e'; omega), h4 j (by omega), getD_snocI _ _ _ (by omega)]
      · refine ⟨?_, by simpa using (h5 j hj).2⟩
        by_cases e : j = l.length
        · subst e
          rw [World.cell?_setCell_same' _ _ _ (h5 l.length hj).1]; rfl
        · rw [World.cell?_setCell_other _ _ _ _ (fun e' => by injection e' with _ e'; omega)]
          exact (h5 j hj).1
    · obtain ⟨v', w', hrun, hown, hgr⟩ := run_append_arg_grows (P := Try.prog) w 26 ty 3 i0 _ 1 8 Try.underlying26 hi0 hz0 hz1 hz2 rfl (by omega) ⟨g, off, none⟩ l.length c (intCells l) (by simp [intCells])
        (fun j u hu => by
          have hj : j < l.length := by have := (List.getElem?_eq_some_iff.1 hu).1; simpa [intCells] using this
          rw [Addr.add_lit, h4 j hj, ← hu]
          simp [intCells, List.getD, List.getElem?_eq_getElem hj]) ad 1 m [.int .i64 x] rfl hnews (by omega) (by unfold maxLen; omega) (by omega)
      have hown' : w'.ownsRow w.heap.size 3 1 v' (l.length + 1) (intCells (l ++ [x])) := by rw [intCells, List.map_append]; exact hown
      obtain ⟨A', c', rfl⟩ := own_slice hown'
      obtain ⟨G', hq, hG, hn⟩ := Que.of_own hown'
      refine ⟨A', c', w', G', by rw [hrun, hn], hq, ?_⟩
      exact ((Turns.refl [g] w).grown hgr (fun k hk => by cases hk)).to (fun k hk => .inr (hG k hk))
/-- one less -/
theorem que_tail {w : World} {G : List Nat} {A : Option Addr} {c : Nat} {x : Int} {l : List Int} (h : Que w G A c (x :: l)) : ∃ g off, A = some ⟨g, off, none⟩ ∧ w.cell? ⟨g, off, none⟩ = some (.int .i64 x) ∧ l.length + 1 ≤ c ∧ c ≤ maxLen ∧ Que w G (if c = 1 then A else A.map (·.add (1 * 1))) (c - 1) l := by
  rcases h with ⟨_, _, h, _⟩ | ⟨g, off, rfl, rfl, hg, h2, h3, h4, h5⟩
  · cases h
  · have h0 : w.cell? ⟨g, off, none⟩ = some (.int .i64 x) := h4 0 (by simp)
    simp only [List.length_cons] at h2
    refine ⟨g, off, rfl, h0, h2, h3, ?_⟩
    by_cases hc : c = 1
    · subst hc
      rw [if_pos rfl]
      have hl : l = [] := List.eq_nil_of_length_eq_zero (by omega)
      subst hl
      exact .inr ⟨g, off, rfl, rfl, hg, by simp, by unfold maxLen; omega, fun j hj => by simp at hj, fun j hj => by omega⟩
    · rw [if_neg hc]
      refine .inr ⟨g, off + 1, by simp [Addr.add_lit], rfl, hg, by omega, by omega, fun j hj => ?_, fun j hj => ?_⟩
      · have := h4 (j + 1) (by simp; omega)
        rw [Nat.add_assoc, Nat.add_comm 1 j]
        simpa using this
      · have := h5 (j + 1) (by omega)
        rwa [Nat.add_assoc, Nat.add_comm 1 j]

/-! ### a pipe and a slice -/
/-- a pipe in block b that holds lp, and a slice that reads as l, both made since w1 -/
def PI (w1 : World) (b n : Nat) (cl : Bool) (lp : List Int) (A : Option Addr) (c : Nat) (l : List Int) (w : World) : Prop :=
  ∃ qs F G, PipeAt w b n cl qs F ∧ qs.map (·.2) = intCells lp ∧ Que w G A c l ∧ Apart F G ∧ (∀ j, j ∈ F → w1.heap.size ≤ j) ∧ (∀ j, j ∈ G → w1.heap.size ≤ j) ∧ Below w1.heap.size w1 w
section
variable {w1 w w' : World} {b n : Nat} {cl : Bool} {lp l : List Int} {A : Option Addr} {c : Nat}
theorem PI.below (h : PI w1 b n cl lp A c l w) (hb : Below w.heap.size w w') : PI w1 b n cl lp A c l w' := by
  obtain ⟨qs, F, G, hp, hv, hq, ha, hF, hG, h1⟩ := h
  exact ⟨qs, F, G, hp.same (same_of_below hb hp.lies), hv, hq.same (same_of_below hb hq.lies), ha, hF, hG, h1.trans (hb.mono h1.size)⟩
theorem PI.top (h : PI w1 b n cl lp A c l w) : Below w1.heap.size w1 w := by
  obtain ⟨qs, F, G, hp, hv, hq, ha, hF, hG, h1⟩ := h
  exact h1
theorem vals_len {qs : List (Nat × Value)} (hv : qs.map (·.2) = intCells lp) : qs.length = lp.length := by
  have := congrArg List.length hv
  simpa [intCells] using this
/-- the pipe has turned -/
theorem pi_turn {qs' : List (Nat × Value)} {F F' G : List Nat} {cl' : Bool} {lp' : List Int} (hq : Que w G A c l) (ha : Apart F G) (hF : ∀ j, j ∈ F → w1.heap.size ≤ j) (hG : ∀ j, j ∈ G → w1.heap.size ≤ j) (h1 : Below w1.heap.size w1 w)
    (hp' : PipeAt w' b n cl' qs' F') (hv' : qs'.map (·.2) = intCells lp') (hu : Turns F F' w w') : PI w1 b n cl' lp' A c l w' :=
  ⟨qs', F', G, hp', hv', hq.same (hu.same hq.lies ha.symm), (hu.apart hq.lies ha.symm).symm, hu.new hF h1.size, hG, h1.trans (hu.below h1.size hF)⟩
theorem pi_left (h : PI w1 b n cl lp A c l w) : Calls Try.prog 13 #[.pointer (some ⟨b, 0, none⟩)] w fun e w' => e = .returned (.int .i64 lp.length) ∧ w' = w := by
  obtain ⟨qs, F, G, hp, hv, _⟩ := h
  rw [← vals_len hv]
  exact left_any w b n cl qs F hp
theorem pi_send_no (h : PI w1 b n cl lp A c l w) (x : Int) (hn : cl = true ∨ n ≤ lp.length) : Calls Try.prog 10 #[.pointer (some ⟨b, 0, none⟩), .int .i64 x] w fun e w' => e = .returned (.bool false) ∧ PI w1 b n cl lp A c l w' ∧ Below w.heap.size w w' := by
  have h0 := h
  obtain ⟨qs, F, G, hp, hv, _⟩ := h0
  cases cl with
  | true => exact (send_shut w b n qs F x hp).mono fun e w' ⟨he, hb⟩ => ⟨he, h.below hb, hb⟩
  | false =>
    have hf : n ≤ qs.length := by
      rcases hn with hn | hn
      · cases hn
      · rw [vals_len hv]; exact hn
    exact (send_full w b n qs F x hp hf).mono fun e w' ⟨he, hb⟩ => ⟨he, h.below hb, hb⟩
/-- a block that was there, and in neither, is as it was -/
def Beside (w1 : World) (b n : Nat) (cl : Bool) (lp : List Int) (A : Option Addr) (c : Nat) (l : List Int) (k : Nat) (o : Obj) (w : World) : Prop :=
  ∃ qs F G, PipeAt w b n cl qs F ∧ qs.map (·.2) = intCells lp ∧ Que w G A c l ∧ Apart F G ∧ (∀ j, j ∈ F → w1.heap.size ≤ j) ∧ (∀ j, j ∈ G → w1.heap.size ≤ j) ∧ Below w1.heap.size w1 w ∧ k ∉ F ∧ k ∉ G ∧ w.heap[k]? = some o
theorem Beside.pi {k : Nat} {o : Obj} (h : Beside w1 b n cl lp A c l k o w) : PI w1 b n cl lp A c l w := by
  obtain ⟨qs, F, G, h1, h2, h3, h4, h5, h6, h7, _⟩ := h
  exact ⟨qs, F, G, h1, h2, h3, h4, h5, h6, h7⟩
theorem Beside.at {k : Nat} {o : Obj} (h : Beside w1 b n cl lp A c l k o w) : w.heap[k]? = some o := by
  obtain ⟨qs, F, G, _, _, _, _, _, _, _, _, _, h⟩ := h
  exact h
theorem PI.beside {o : Obj} (h : PI w1 b n cl lp A c l w) (hb : Below w.heap.size w w') (ho : w'.heap[w.heap.size]? = some o) : Beside w1 b n cl lp A c l w.heap.size o w' := by
  obtain ⟨qs, F, G, hp, hv, hq, ha, hF, hG, h1⟩ := h
  exact ⟨qs, F, G, hp.same (same_of_below hb hp.lies), hv, hq.same (same_of_below hb hq.lies), ha, hF, hG, h1.trans (hb.mono h1.size), fun e => by have := hp.lies _ e; omega, fun e => by have := hq.lies _ e; omega, ho⟩
theorem bs_turn {k : Nat} {o : Obj} {qs' : List (Nat × Value)} {F F' G : List Nat} {cl' : Bool} {lp' : List Int} (hq : Que w G A c l) (ha : Apart F G) (hF : ∀ j, j ∈ F → w1.heap.size ≤ j) (hG : ∀ j, j ∈ G → w1.heap.size ≤ j) (h1 : Below w1.heap.size w1 w) (hkF : k ∉ F) (hkG : k ∉ G) (ho : w.heap[k]? = some o)
    (hp' : PipeAt w' b n cl' qs' F') (hv' : qs'.map (·.2) = intCells lp') (hu : Turns F F' w w') : Beside w1 b n cl' lp' A c l k o w' := by
  have hk : k < w.heap.size := (Array.getElem?_eq_some_iff.1 ho).1
  exact ⟨qs', F', G, hp', hv', hq.same (hu.same hq.lies ha.symm), (hu.apart hq.lies ha.symm).symm, hu.new hF h1.size, hG, h1.trans (hu.below h1.size hF), fun e => (hu.foot k e).elim hkF (fun e => by omega), hkG, (hu.block k hk hkF).trans ho⟩
theorem bs_send_yes {k : Nat} {o : Obj} (h : Beside w1 b n false lp A c l k o w) (x : Int) (hn : lp.length < n) : Calls Try.prog 10 #[.pointer (some ⟨b, 0, none⟩), .int .i64 x] w fun e w' => e = .returned (.bool true) ∧ Beside w1 b n false (lp ++ [x]) A c l k o w' := by
  obtain ⟨qs, F, G, hp, hv, hq, ha, hF, hG, h1, h2, h3, h4⟩ := h
  refine (send_room w b n qs F x hp (by rw [vals_len hv]; exact hn)).mono ?_
  rintro e w' ⟨he, p, F', hp', hu⟩
  exact ⟨he, bs_turn hq ha hF hG h1 h2 h3 h4 hp' (by rw [List.map_append, hv, intCells, intCells, List.map_append]; rfl) hu⟩
theorem pi_next_some {x : Int} (h : PI w1 b n cl (x :: lp) A c l w) : Calls Try.prog 11 #[.pointer (some ⟨b, 0, none⟩)] w fun e w' => e = .returned (.tuple #[.int .i64 x, .bool true]) ∧ PI w1 b n cl lp A c l w' := by
  obtain ⟨qs, F, G, hp, hv, hq, ha, hF, hG, h1⟩ := h
  cases qs with
  | nil => simp [intCells] at hv
  | cons q qs =>
    obtain ⟨p, v⟩ := q
    simp only [List.map_cons, intCells, List.cons.injEq] at hv
    obtain ⟨hv1, hv2⟩ := hv
    subst hv1
    refine (next_some w b n F cl p x qs hp).mono ?_
    rintro e w' ⟨he, F', hp', hu⟩
    exact ⟨he, pi_turn hq ha hF hG h1 hp' hv2 hu⟩
theorem pi_next_none (h : PI w1 b n cl [] A c l w) : Calls Try.prog 11 #[.pointer (some ⟨b, 0, none⟩)] w fun e w' => e = .returned (.tuple #[.int .i64 0, .bool false]) ∧ w' = w := by
  obtain ⟨qs, F, G, hp, hv, hq, ha, hF, hG, h1⟩ := h
  have hq0 : qs = [] := List.eq_nil_of_length_eq_zero (by rw [vals_len hv]; rfl)
  subst hq0
  cases cl with
  | true => exact next_shut w b n F hp
  | false => exact next_none w b n F hp
theorem pi_close (h : PI w1 b n cl lp A c l w) : Calls Try.prog 12 #[.pointer (some ⟨b, 0, none⟩)] w fun e w' => e = .returned (.tuple #[]) ∧ PI w1 b n true lp A c l w' := by
  have h0 := h
  obtain ⟨qs, F, G, hp, hv, hq, ha, hF, hG, h1⟩ := h0
  cases cl with
  | true => exact (close_shut w b n qs F hp).mono fun e w' ⟨he, hw⟩ => ⟨he, by rw [hw]; exact h⟩
  | false => exact (close_open w b n qs F hp).mono fun e w' ⟨he, hp', hu⟩ => ⟨he, pi_turn hq ha hF hG h1 hp' hv hu⟩
theorem pi_append (h : PI w1 b n cl lp A c l w) (x : Int) (hl : l.length ≤ 100000) (ad : Addr) (hc : w.cell? ad = some (.int .i64 x)) (m : Nat) (ty : TypeId) :
    ∃ A' c' w', (Builtin.append_ #[26, 26] ty #[.slice A l.length c, .slice (some ad) 1 m]).run Try.prog w = .ok (.slice A' (l ++ [x]).length c') w' ∧ PI w1 b n cl lp A' c' (l ++ [x]) w' := by
  obtain ⟨qs, F, G, hp, hv, hq, ha, hF, hG, h1⟩ := h
  obtain ⟨A', c', w', G', hrun, hq', hu⟩ := que_append w G A c l hq x hl ad hc m ty
  exact ⟨A', c', w', hrun, qs, F, G', hp.same (hu.same hp.lies ha), hv, hq', hu.apart hp.lies ha, hF, hu.new hG h1.size, h1.trans (hu.below h1.size hG)⟩
theorem pi_tail {x : Int} (h : PI w1 b n cl lp A c (x :: l) w) : ∃ g off, A = some ⟨g, off, none⟩ ∧ w.cell? ⟨g, off, none⟩ = some (.int .i64 x) ∧ l.length + 1 ≤ c ∧ c ≤ maxLen ∧ PI w1 b n cl lp (if c = 1 then A else A.map (·.add (1 * 1))) (c - 1) l w := by
  obtain ⟨qs, F, G, hp, hv, hq, ha, hF, hG, h1⟩ := h
  obtain ⟨g, off, e1, h2, h3, h4, h5⟩ := que_tail hq
  exact ⟨g, off, e1, h2, h3, h4, qs, F, G, hp, hv, h5, ha, hF, hG, h1⟩
end
end Go.Proofs.Ytmfejibllhccaaa.Hx
