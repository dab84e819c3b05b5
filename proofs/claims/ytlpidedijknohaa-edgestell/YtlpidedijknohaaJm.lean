/-
  Layer 12: there and back (EdgesBack).
-/
import Derived.Test.YtlpidedijknohaaJl
import Derived.Test.YtlpidedijknohaaOg
namespace Go.Proofs.Ytlpidedijknohaa.Hq
open Go.RowKit Ob Hr Hj Eg
set_option linter.unusedVariables false

theorem ids_small {o : Thing} (h : Small o) {i : Nat} (hi : i < (edgesF o).length) : ((edgesF o).getD i default).1.size ≤ 100000 := by
  rw [← getD_ids o hi]
  rw [← ids_len] at hi
  have hm : (idsF o).getD i default ∈ idsF o := by rw [List.getD_eq_getElem?_getD, List.getElem?_eq_getElem hi]; exact List.getElem_mem hi
  rcases kinds o with hk | hk | hk | hk
  · rw [ids_tree hk] at hm ⊢
    obtain ⟨e, he, h2⟩ := List.mem_map.1 hm
    rw [← h2]
    exact (h.ent e he).2
  · rw [ids_commit hk] at hm ⊢
    rcases List.mem_cons.1 hm with e | hm
    · rw [e]; exact h.tree
    · exact h.par _ hm
  · rw [ids_tag hk] at hm ⊢
    rw [List.mem_singleton.1 hm]; exact h.target
  · rw [ids_none hk] at hi
    simp at hi
theorem with_lens {o : Thing} {l : List ByteArray} (hl : l.length = (edgesF o).length) : (withF o l).ents.length = o.ents.length ∧ (withF o l).parents.length = o.parents.length := by
  rcases kinds o with hk | hk | hk | hk
  · rw [edges_tree hk, List.length_map] at hl
    rw [with_tree hk]
    exact ⟨zip_len hl, rfl⟩
  · rw [edges_commit hk] at hl
    rw [with_commit hk]
    simp at hl
    exact ⟨rfl, by simp; omega⟩
  · rw [with_tag hk]
    exact ⟨rfl, rfl⟩
  · rw [with_none hk]
    exact ⟨rfl, rfl⟩
/-- what came of a call of Map, without an error -/
def Mapped (W : World) (o : Thing) (e : Ending) (w' : World) : Prop :=
  ∃ A' c' P' d' M U, e = .returned (.tuple #[.agg (objC o A' c' P' d'), .int .i64 0]) ∧ RowIn 3 entV w' W.heap.size M A' o.ents ∧ RowIn 1 stV w' M U P' o.parents ∧ W.heap.size ≤ M ∧ M ≤ U ∧ U ≤ w'.heap.size ∧ Below W.heap.size W w'
theorem mapped {W : World} {o o' : Thing} {told : Nat → ByteArray} {e : Ending} {w' : World} (h : MapPost W o told (fun _ => 0) (fun _ V => Below W.heap.size W V) (edgesF o).length e w') (ho : withF o ((List.range (edgesF o).length).map told) = o') : Mapped W o' e w' := by
  obtain ⟨h0, h1, _⟩ := h
  obtain ⟨A', c', P', d', M, U, he, hs, hr1, hr2, hm, hM, hU⟩ := h1 rfl
  rw [ho] at he hr1 hr2
  exact ⟨A', c', P', d', M, U, he, hr1, hr2, hm, hM, hU, hs⟩
theorem mapId (W : World) (o : Thing) (A : Option Addr) (c : Nat) (P : Option Addr) (d : Nat) (hl : Lies W W.heap.size o A P) (hs : Small o) :
    Calls Try.prog 13 #[.agg (objC o A c P d), .func (.func 17) #[] #[]] W (Mapped W o) := by
  have h1 := hs.ents
  have h2 := hs.pars
  refine (pMap_any W o A c P d (fun i => ((edgesF o).getD i default).1) (fun _ => 0) 17 #[] (fun _ V => Below W.heap.size W V)
    (ok_plain (enters_of Try.func17 (by kernel_rfl) rfl) (fun i V _ hi => clId V _ _)) (Below.refl _ _) hl (by omega) (by omega) _ (Nat.le_refl _) (fun _ _ => rfl) (fun h => absurd h (by omega))).mono fun e w' h => mapped h ?_
  rw [range_self, with_ids]
theorem mapAdd {f : Nat} (hen : ∀ args w, (callFunc f args).run Try.prog w = .ok (.enter f args) w) (hcl : ∀ (W : World) (b : Nat) (s x : ByteArray) (k : Int), W.cell? ⟨b, 0, none⟩ = some (.string s) → s.size ≤ 1000000 → x.size ≤ 1000000 → Calls Try.prog f #[.agg #[.string x, .int .i64 k], .pointer (some ⟨b, 0, none⟩)] W fun e W' => e = .returned (.tuple #[.string (s ++ x), .int .i64 0]) ∧ Below W.heap.size W W')
    (W : World) (o : Thing) (A : Option Addr) (c : Nat) (P : Option Addr) (d b : Nat) (s : ByteArray) (hb : W.cell? ⟨b, 0, none⟩ = some (.string s)) (hss : s.size ≤ 1000) (hl : Lies W W.heap.size o A P) (hs : Small o) :
    Calls Try.prog 13 #[.agg (objC o A c P d), .func (.func f) #[] #[.pointer (some ⟨b, 0, none⟩)]] W (Mapped W (withF o ((idsF o).map (s ++ ·)))) := by
  have h1 := hs.ents
  have h2 := hs.pars
  have hbl := World.block_lt_of_cell? _ _ hb
  refine (pMap_any W o A c P d (fun i => s ++ ((edgesF o).getD i default).1) (fun _ => 0) f #[.pointer (some ⟨b, 0, none⟩)] (fun _ V => Below W.heap.size W V)
    (ok_plain hen (fun i V hV hi => hcl V b s _ _ ((hV.cell hbl).trans hb) (by omega) (by have := ids_small hs hi; omega))) (Below.refl _ _) hl (by omega) (by omega) _ (Nat.le_refl _) (fun _ _ => rfl) (fun h => absurd h (by omega))).mono fun e w' h => mapped h ?_
  rw [range_ids o (fun x => s ++ x)]
theorem mapCut (W : World) (o : Thing) (A : Option Addr) (c : Nat) (P : Option Addr) (d b : Nat) (s : ByteArray) (hb : W.cell? ⟨b, 0, none⟩ = some (.string s)) (hss : s.size ≤ 1000) (hl : Lies W W.heap.size (withF o ((idsF o).map (s ++ ·))) A P) (hs : Small o) :
    Calls Try.prog 13 #[.agg (objC (withF o ((idsF o).map (s ++ ·))) A c P d), .func (.func 19) #[] #[.pointer (some ⟨b, 0, none⟩)]] W (Mapped W o) := by
  have h1 := hs.ents
  have h2 := hs.pars
  have hlen : ((idsF o).map (s ++ ·)).length = (edgesF o).length := by rw [List.length_map, ids_len]
  obtain ⟨h3, h4⟩ := with_lens hlen
  have hbl := World.block_lt_of_cell? _ _ hb
  have hel := edges_len_with hlen
  have hid := ids_with hlen
  refine (pMap_any W (withF o ((idsF o).map (s ++ ·))) A c P d (fun i => ((edgesF o).getD i default).1) (fun _ => 0) 19 #[.pointer (some ⟨b, 0, none⟩)] (fun _ V => Below W.heap.size W V)
    (ok_plain (enters_of Try.func19 (by kernel_rfl) rfl) (fun i V hV hi => by
      have hi2 : i < (edgesF o).length := by rw [← hel]; exact hi
      have e1 : ((edgesF (withF o ((idsF o).map (s ++ ·)))).getD i default).1 = s ++ ((edgesF o).getD i default).1 := by
        rw [← getD_ids _ hi, hid, getD_map _ (by rw [ids_len]; exact hi2), getD_ids o hi2]
      rw [e1]
      exact clCut V b s _ _ ((hV.cell hbl).trans hb) (by omega) (by have := ids_small hs hi2; omega))) (Below.refl _ _) hl (by omega) (by omega) _ (Nat.le_refl _) (fun _ _ => rfl) (fun h => absurd h (by omega))).mono fun e w' h => mapped h ?_
  rw [hel, range_self, with_back hlen]

/-! ### rows that the law writes to -/
theorem put_id {W : World} {lo up : Nat} {A : Option Addr} {es : List Ent} {k : Nat} (h : RowIn 3 entV W lo up A es) (hk : k < es.length) (z : ByteArray) : ∃ ad, A = some ad ∧ (∃ v, W.cell? ⟨(ad.add (k * 3)).block, (ad.add (k * 3)).off + 2, none⟩ = some (.string v)) ∧ W.frozen? ⟨(ad.add (k * 3)).block, (ad.add (k * 3)).off + 2, none⟩ = false ∧ lo ≤ (ad.add (k * 3)).block ∧ (ad.add (k * 3)).block < up ∧ ∃ es', es'.length = es.length ∧ RowIn 3 entV (W.setCell ⟨(ad.add (k * 3)).block, (ad.add (k * 3)).off + 2, none⟩ (.string z)) lo up A es' := by
  obtain ⟨g, rfl, h1, h2, h3, h4, h5⟩ := h.put ent_len k 2 hk (by omega) (reId (es.getD k default) z) (.string z) (fun j hj => by
    rcases (by omega : j = 0 ∨ j = 1 ∨ j = 2) with rfl | rfl | rfl <;> rfl)
  have ha : (⟨((⟨g, 0, none⟩ : Addr).add (k * 3)).block, ((⟨g, 0, none⟩ : Addr).add (k * 3)).off + 2, none⟩ : Addr) = ⟨g, k * 3 + 2, none⟩ := by rw [Hg.add0]
  have hb : ((⟨g, 0, none⟩ : Addr).add (k * 3)).block = g := by rw [Hg.add0]
  refine ⟨_, rfl, ?_⟩
  rw [ha, hb]
  exact ⟨⟨_, h3⟩, h4, h1, h2, _, by rw [List.length_set], h5⟩
theorem put_mode {W : World} {lo up : Nat} {A : Option Addr} {es : List Ent} {k : Nat} (h : RowIn 3 entV W lo up A es) (hk : k < es.length) (m : Int) : ∃ ad, A = some ad ∧ (∃ v, W.cell? (ad.add (k * 3)) = some (.int .i64 v)) ∧ W.frozen? (ad.add (k * 3)) = false ∧ lo ≤ (ad.add (k * 3)).block ∧ (ad.add (k * 3)).block < up ∧ ∃ es', es'.length = es.length ∧ RowIn 3 entV (W.setCell (ad.add (k * 3)) (.int .i64 m)) lo up A es' := by
  obtain ⟨g, rfl, h1, h2, h3, h4, h5⟩ := h.put ent_len k 0 hk (by omega) ⟨m, (es.getD k default).name, (es.getD k default).id⟩ (.int .i64 m) (fun j hj => by
    rcases (by omega : j = 0 ∨ j = 1 ∨ j = 2) with rfl | rfl | rfl <;> rfl)
  have ha : (⟨g, 0, none⟩ : Addr).add (k * 3) = ⟨g, k * 3 + 0, none⟩ := by rw [Hg.add0]; rfl
  refine ⟨_, rfl, ?_⟩
  rw [ha]
  exact ⟨⟨_, h3⟩, h4, h1, h2, _, by rw [List.length_set], h5⟩
theorem put_par {W : World} {lo up : Nat} {A : Option Addr} {ps : List ByteArray} {k : Nat} (h : RowIn 1 stV W lo up A ps) (hk : k < ps.length) (z : ByteArray) : ∃ ad, A = some ad ∧ (∃ v, W.cell? (ad.add k) = some (.string v)) ∧ W.frozen? (ad.add k) = false ∧ lo ≤ (ad.add k).block ∧ (ad.add k).block < up ∧ ∃ ps', ps'.length = ps.length ∧ RowIn 1 stV (W.setCell (ad.add k) (.string z)) lo up A ps' := by
  obtain ⟨g, rfl, h1, h2, h3, h4, h5⟩ := h.put stV_len k 0 hk (by omega) z (.string z) (fun j hj => by
    obtain rfl : j = 0 := by omega
    rfl)
  have ha : (⟨g, 0, none⟩ : Addr).add k = ⟨g, k * 1 + 0, none⟩ := by rw [Hg.add0, Nat.mul_one]; rfl
  refine ⟨_, rfl, ?_⟩
  rw [ha]
  exact ⟨⟨_, h3⟩, h4, h1, h2, _, by rw [List.length_set], h5⟩
/-- only blocks between two marks have turned -/
structure Out (lo up : Nat) (W W' : World) : Prop where
  os : W'.os = W.os
  tape : W'.tape = W.tape
  output : W'.output = W.output
  size : W'.heap.size = W.heap.size
  block : ∀ g, g < lo ∨ up ≤ g → W'.heap[g]? = W.heap[g]?
theorem Out.refl (lo up : Nat) (W : World) : Out lo up W W := ⟨rfl, rfl, rfl, rfl, fun _ _ => rfl⟩
theorem Out.set {lo up : Nat} {W W' : World} (h : Out lo up W W') {p : Addr} (h1 : lo ≤ p.block) (h2 : p.block < up) (v : Value) : Out lo up W (W'.setCell p v) :=
  ⟨h.os, h.tape, h.output, by simpa [World.setCell] using h.size, fun g hg => (Below.heap_setCell _ _ _ _ (by omega)).trans (h.block g hg)⟩
theorem Out.below {lo up : Nat} {W W' : World} (h : Out lo up W W') : Below lo W W' := ⟨h.os, h.tape, h.output, Nat.le_of_eq h.size.symm, fun g hg => h.block g (.inl hg)⟩
end Go.Proofs.Ytlpidedijknohaa.Hq
