/-
  Layer 11, the program's side: an object without the fields that its kind names.
-/
import Derived.Test.YtapjgdhdgpakhaaGreatDoorOe
import Derived.Test.YtapjgdhdgpakhaaGreatDoorOh
import Derived.Test.YtapjgdhdgpakhaaGreatDoorOx
namespace Go.Proofs.YtapjgdhdgpakhaaGreatDoor.Hj
open Go.RowKit Ob Hr
set_option linter.unusedVariables false

/-- small enough for a loose reading -/
structure Fit (o : Thing) : Prop where
  text : o.text.size ≤ 100000
  ents : o.ents.length ≤ 100000
  tree : o.tree.size ≤ 100000
  pars : o.parents.length ≤ 100000
  target : o.target.size ≤ 100000
  name : o.name.size ≤ 100000
  who : o.who.size ≤ 100000
  ent : ∀ e ∈ o.ents, e.name.size ≤ 100000 ∧ e.id.size ≤ 100000
  par : ∀ p ∈ o.parents, p.size ≤ 100000
theorem Small.fit {o : Thing} (h : Small o) : Fit o := ⟨h.text, by have := h.ents; omega, h.tree, by have := h.pars; omega, h.target, h.name, h.who, h.ent, h.par⟩

theorem without_ents {o : Thing} (h : Fit o) : (Ob.without o).ents.length ≤ 1000000 := by
  have h1 := h.ents
  unfold Ob.without
  split
  · exact Nat.zero_le _
  · split
    · show o.ents.length ≤ _; omega
    · split
      · show o.ents.length ≤ _; omega
      · split
        · show o.ents.length ≤ _; omega
        · omega
theorem without_pars {o : Thing} (h : Fit o) : (Ob.without o).parents.length ≤ 1000000 := by
  have h1 := h.pars
  unfold Ob.without
  split
  · show o.parents.length ≤ _; omega
  · split
    · exact Nat.zero_le _
    · split
      · show o.parents.length ≤ _; omega
      · split
        · show o.parents.length ≤ _; omega
        · omega
theorem ob_size : (Tryz.prog.info? 25).map (·.size) = some 10 := by kernel_rfl
theorem ob_ret {fn : Func} {p : Tmp} (h : fn.results = #[.cell p 25]) (tmps : Array Value) (w : World) (g : Nat) (o : Thing) (A : Option Addr) (c : Nat) (P : Option Addr) (d : Nat)
    (hp : tmps.getD p undef = .pointer (some ⟨g, 0, none⟩)) (hg : BoxAt w g 25 (objC o A c P d)) : (results fn tmps).run Tryz.prog w = .ok (.agg (objC o A c P d)) w :=
  results_cell_row h tmps w g _ _ (0, 0) _ hp hg Tryz.underlying25 rfl ob_size

set_option maxHeartbeats 4000000 in
set_option maxRecDepth 100000 in
theorem without_any (o : Thing) (A : Option Addr) (c : Nat) (P : Option Addr) (d : Nat) (B : Nat) (w : World) (hL : Lies w B o A P) (hB : B ≤ w.heap.size) :
    Calls Tryz.prog 41 #[.agg (objC o A c P d)] w fun e w' => ∃ A' c' P' d', e = .returned (.agg (objC (without o) A' c' P' d')) ∧ Lies w' B (without o) A' P' ∧ Below w.heap.size w w' := by
  obtain ⟨k, tx, es, tr, ps, tg, ok, nm, wh, tm⟩ := o
  have HL := Lib.hid hL
  clear hL
  have key : ∀ (x : Array Value) (o' : Thing) (A' : Option Addr) (c' : Nat) (P' : Option Addr) (d' : Nat) (tmps : Array Value), tmps.getD 2 undef = .pointer (some ⟨w.heap.size + 1, 0, none⟩) → without ⟨k, tx, es, tr, ps, tg, ok, nm, wh, tm⟩ = o' → Ents w B A' o'.ents → Strs w B P' o'.parents →
      bodyPost Tryz.prog Tryz.f41 (fun e w' => ∃ A' c' P' d', e = .returned (.agg (objC (without ⟨k, tx, es, tr, ps, tg, ok, nm, wh, tm⟩) A' c' P' d')) ∧ Lies w' B (without ⟨k, tx, es, tr, ps, tg, ok, nm, wh, tm⟩) A' P' ∧ Below w.heap.size w w') Exit.ret ⟨tmps, []⟩
        ((w.alloc (.cells x 25 (0, 0))).alloc (.cells (objC o' A' c' P' d') 25 (0, 0))) := fun x o' A' c' P' d' tmps h1 h2 h3 h4 => by
    rw [h2]
    have ht := two_new w 25 25 x (objC o' A' c' P' d')
    exact bodyPost_ret (ob_ret (p := 2) Tryz.results41 tmps _ (w.heap.size + 1) o' A' c' P' d' h1 ht.b) rfl ⟨A', c', P', d', rfl, ⟨h3.below (ht.below.mono hB), Strs.below h4 (ht.below.mono hB)⟩, ht.below⟩
  have KEY := Lib.hid key
  clear key
  by_cases h2 : k = 2
  · subst h2
    go_enter Tryz.func41, Tryz.ntmps41
    go_wp2
    exact KEY.out _ ⟨2, tx, [], tr, ps, tg, ok, nm, wh, tm⟩ none 0 P d _ rfl rfl (recs_nil _ _ _) HL.out.pars
  · by_cases h3 : k = 3
    · subst h3
      clear h2
      go_enter Tryz.func41, Tryz.ntmps41
      go_wp2
      exact KEY.out _ ⟨3, ⟨#[]⟩, es, ⟨#[]⟩, [], tg, ok, nm, ⟨#[]⟩, 0⟩ A c none 0 _ rfl rfl HL.out.ents (fun i hi => by cases hi)
    · by_cases h4 : k = 4
      · subst h4
        clear h2 h3
        go_enter Tryz.func41, Tryz.ntmps41
        go_wp2
        exact KEY.out _ ⟨4, ⟨#[]⟩, es, tr, ps, ⟨#[]⟩, 0, ⟨#[]⟩, ⟨#[]⟩, 0⟩ A c P d _ rfl rfl HL.out.ents HL.out.pars
      · by_cases h1 : k = 1
        · subst h1
          clear h2 h3 h4
          go_enter Tryz.func41, Tryz.ntmps41
          go_wp2
          exact KEY.out _ ⟨1, ⟨#[]⟩, es, tr, ps, tg, ok, nm, wh, tm⟩ A c P d _ rfl rfl HL.out.ents HL.out.pars
        · have HN := Lib.hid (show without ⟨k, tx, es, tr, ps, tg, ok, nm, wh, tm⟩ = ⟨k, tx, es, tr, ps, tg, ok, nm, wh, tm⟩ from by simp [without, h1, h2, h3, h4])
          have e1 : (k == 1) = false := beq_eq_false_iff_ne.2 h1
          have e2 : (k == 2) = false := beq_eq_false_iff_ne.2 h2
          have e3 : (k == 3) = false := beq_eq_false_iff_ne.2 h3
          have e4 : (k == 4) = false := beq_eq_false_iff_ne.2 h4
          clear h1 h2 h3 h4
          go_enter Tryz.func41, Tryz.ntmps41
          go_wp2
          exact KEY.out _ ⟨k, tx, es, tr, ps, tg, ok, nm, wh, tm⟩ A c P d _ rfl HN.out HL.out.ents HL.out.pars
end Go.Proofs.YtapjgdhdgpakhaaGreatDoor.Hj
