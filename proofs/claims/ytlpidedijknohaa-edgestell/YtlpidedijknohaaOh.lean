/-
  Layer 11: the laws' Few.
-/
import Derived.Test.YtlpidedijknohaaOe
namespace Go.Proofs.Ytlpidedijknohaa.Hj
open Go.RowKit Ob Hr
set_option linter.unusedVariables false

def entSum (l : List Ent) : Nat := (l.map fun e => e.name.size + e.id.size).sum
def parSum (l : List ByteArray) : Nat := (l.map fun p => p.size).sum
def fewN (o : Thing) : Nat := o.text.size + o.who.size + o.name.size + o.tree.size + o.target.size + 40 * o.ents.length + 40 * o.parents.length
def total (o : Thing) : Nat := fewN o + entSum o.ents + parSum o.parents
def few (o : Thing) : Bool := decide (total o < 30000)
/-- no greater than a row's reach -/
structure Reach (o : Thing) : Prop where
  text : o.text.size ≤ 140737488355328
  ents : o.ents.length ≤ 140737488355328
  tree : o.tree.size ≤ 140737488355328
  pars : o.parents.length ≤ 140737488355328
  target : o.target.size ≤ 140737488355328
  name : o.name.size ≤ 140737488355328
  who : o.who.size ≤ 140737488355328
  ent : ∀ e ∈ o.ents, e.name.size ≤ 140737488355328 ∧ e.id.size ≤ 140737488355328
  par : ∀ p ∈ o.parents, p.size ≤ 140737488355328
theorem entSum_step : ∀ {l : List Ent} {k : Nat}, k < l.length → entSum (l.take (k + 1)) = entSum (l.take k) + (l.getD k default).name.size + (l.getD k default).id.size
  | a :: l, 0, _ => by simp [entSum]
  | a :: l, k + 1, h => by
    have := entSum_step (l := l) (k := k) (by simpa using h)
    simp [entSum] at this ⊢
    omega
theorem parSum_step : ∀ {l : List ByteArray} {k : Nat}, k < l.length → parSum (l.take (k + 1)) = parSum (l.take k) + (l.getD k ByteArray.empty).size
  | a :: l, 0, _ => by simp [parSum]
  | a :: l, k + 1, h => by
    have := parSum_step (l := l) (k := k) (by simpa using h)
    simp [parSum] at this ⊢
    omega
theorem entSum_le : ∀ (l : List Ent) (k : Nat), entSum (l.take k) ≤ entSum l
  | [], k => by simp
  | a :: l, 0 => by simp [entSum]
  | a :: l, k + 1 => by
    have := entSum_le l k
    simp [entSum] at this ⊢
    omega
theorem parSum_le : ∀ (l : List ByteArray) (k : Nat), parSum (l.take k) ≤ parSum l
  | [], k => by simp
  | a :: l, 0 => by simp [parSum]
  | a :: l, k + 1 => by
    have := parSum_le l k
    simp [parSum] at this ⊢
    omega
theorem entSum_all {l : List Ent} {n : Nat} (h : entSum l < n) : ∀ e ∈ l, e.name.size < n ∧ e.id.size < n := by
  induction l with
  | nil => simp
  | cons a l ih =>
    simp [entSum] at h ih ⊢
    refine ⟨by omega, fun e he => ?_⟩
    exact ih (by omega) e he
theorem parSum_all {l : List ByteArray} {n : Nat} (h : parSum l < n) : ∀ p ∈ l, p.size < n := by
  induction l with
  | nil => simp
  | cons a l ih =>
    simp [parSum] at h ih ⊢
    exact ⟨by omega, fun e he => ih (by omega) e he⟩
theorem few_small {o : Thing} (h : few o = true) : Small o := by
  have h := of_decide_eq_true h
  unfold total fewN at h
  refine ⟨by omega, by omega, by omega, by omega, by omega, by omega, by omega, fun e he => ?_, fun p hp => ?_⟩
  · have := entSum_all (l := o.ents) (n := 30000) (by omega) e he; omega
  · have := parSum_all (l := o.parents) (n := 30000) (by omega) p hp; omega

/-- the box, and the world ahead -/
structure OneB (w W : World) (g t : Nat) (x : Array Value) : Prop where
  a : BoxAt W g t x
  below : Below w.heap.size w W
theorem OneB.step {w W W' : World} {g t : Nat} {x : Array Value} (h : OneB w W g t x) (hb : Below W.heap.size W W') : OneB w W' g t x := ⟨h.a.step hb, h.below.trans (hb.mono h.below.size)⟩
theorem OneB.drew {w W : World} {g t : Nat} {x : Array Value} (h : OneB w W g t x) : OneB w W.drew g t x := ⟨h.a, h.below.drew⟩
theorem one_new (w : World) (t : Nat) (x : Array Value) : OneB w (w.alloc (.cells x t (0, 0))) w.heap.size t x := ⟨box_new w t x, (Below.refl _ w).alloc (Nat.le_refl _) _⟩

set_option maxHeartbeats 8000000 in
set_option maxRecDepth 100000 in
theorem few_any (w : World) (B : Nat) (o : Thing) (A : Option Addr) (c : Nat) (P : Option Addr) (d : Nat) (h : Lies w B o A P) (hB : B ≤ w.heap.size) (hr : Reach o) :
    Calls Try.prog 7 #[.agg (objC o A c P d)] w fun e w' => e = .returned (.bool (few o)) ∧ Below w.heap.size w w' := by
  have HR := Lib.hid hr
  have HI := Lib.hid h.ents
  have HJ := Lib.hid h.pars
  have HP := Lib.hid (one_new w 25 (objC o A c P d))
  have r1 := hr.text
  have r2 := hr.ents
  have r3 := hr.tree
  have r4 := hr.pars
  have r5 := hr.target
  have r6 := hr.name
  have r7 := hr.who
  obtain ⟨N, hN⟩ : ∃ N, fewN o = N := ⟨_, rfl⟩
  have hN2 : N ≤ 85 * 140737488355328 := by unfold fewN at hN; omega
  have HN := Lib.hid hN
  have hX : fewN o = o.text.size + o.who.size + o.name.size + o.tree.size + o.target.size + 40 * o.ents.length + 40 * o.parents.length := rfl
  have HG := Lib.hid (show ∀ X : Nat, 30000 ≤ X → X ≤ total o → few o = false from fun X h1 h2 => decide_eq_false (by omega))
  clear h hr hN
  have HX := Lib.hid hX
  clear hX
  go_enter Try.func7, Try.ntmps7
  go_wp2_with fail
  go_loopg [3, 4] o.ents.length (fun g n i wr => ∃ k M : Nat, k ≤ o.ents.length ∧ g = o.ents.length - k ∧ n = .int .i64 M ∧ i = .int .i64 k ∧ M = N + entSum (o.ents.take k) ∧ (M < 30000 + 2 * 140737488355328 ∨ M = N) ∧ OneB w wr w.heap.size 25 (objC o A c P d))
  case atStart => exact ⟨0, N, Nat.zero_le _, rfl, congrArg (Value.int .i64) (by have h1 := HN.out; have h2 := HX.out; omega), rfl, by simp [entSum], .inr rfl, HP.out⟩
  case round =>
    obtain ⟨k, M, hk, rfl, rfl, rfl, hM, hMb, hp⟩ := hrel
    have HP := Lib.hid hp
    obtain ⟨c0, c1, c2, c3, c4, c5, c6, c7, c8, c9⟩ := hp.a.ten
    have HM := Lib.hid hM
    have hMl : (M : Int) ≤ 100 * 140737488355328 := by omega
    clear hM hp
    by_cases h3 : M < 30000
    · have h3i : (M : Int) < 30000 := by omega
      by_cases hlt : k < o.ents.length
      · have h1 : (k : Int) < o.ents.length := by omega
        have h0 : (0 : Int) ≤ k := by omega
        have HI := Lib.hid (HI.out.below (HP.out.below.mono hB))
        obtain ⟨ad, e, hB1, hc⟩ := HI.out k hlt
        have c1' : wr.cell? ⟨(ad.add (k * 3)).block, (ad.add (k * 3)).off + 1, none⟩ = some (.string (o.ents.getD k default).name) := hc 1 (by omega)
        have c2' : wr.cell? ⟨(ad.add (k * 3)).block, (ad.add (k * 3)).off + 2, none⟩ = some (.string (o.ents.getD k default).id) := hc 2 (by omega)
        have hre := HR.out.ent (o.ents.getD k default) (by rw [List.getD_eq_getElem?_getD, List.getElem?_eq_getElem hlt]; exact List.getElem_mem hlt)
        have HS := Lib.hid (entSum_step hlt)
        have hr1 := hre.1
        have hr2 := hre.2
        generalize o.ents.getD k default = x at *
        subst e
        clear hc hre
        have v1 : IntKind.i64.wrap ((M : Int) + x.name.size) = (M : Int) + x.name.size := IntWalk.i64_in _ (by omega)
        have v2 : IntKind.i64.wrap ((M : Int) + x.name.size + x.id.size) = (M : Int) + x.name.size + x.id.size := IntWalk.i64_in _ (by omega)
        go_wp2
        refine wp_region_still_lit (by kernel_rfl) (by kernel_rfl) ?_
        change wpStill _ _ (World.drew _) (fun a' => Exit.inBlock _ _ _ a' (World.drew _)) _ _
        iterate 18 still_step
        refine wpStill_nil ?_
        go_wp2
        go_roundg (o.ents.length - (k + 1))
        case rel => exact ⟨k + 1, M + x.name.size + x.id.size, by omega, rfl, congrArg (Value.int .i64) (by omega), by go_num, by rw [HS.out, HM.out]; omega, .inl (by omega), HP.out.drew⟩
        case measure => omega
      · have h1 : ¬ (k : Int) < o.ents.length := by omega
        obtain rfl : k = o.ents.length := by omega
        have HM := Lib.hid (show M = N + entSum o.ents by rw [HM.out, List.take_length])
        go_wp2_with fail
        go_loopg [3, 5] o.parents.length (fun g n i wr => ∃ k M : Nat, k ≤ o.parents.length ∧ g = o.parents.length - k ∧ n = .int .i64 M ∧ i = .int .i64 k ∧ M = N + entSum o.ents + parSum (o.parents.take k) ∧ M < 30000 + 140737488355328 ∧ OneB w wr w.heap.size 25 (objC o A c P d))
        case atStart => exact ⟨0, M, Nat.zero_le _, rfl, rfl, rfl, by rw [HM.out]; simp [parSum], by omega, HP.out⟩
        case round =>
          obtain ⟨k, M, hk, rfl, rfl, rfl, hM, hMb, hp⟩ := hrel
          have HP := Lib.hid hp
          obtain ⟨c0, c1, c2, c3, c4, c5, c6, c7, c8, c9⟩ := hp.a.ten
          have HM := Lib.hid hM
          clear hM hp
          by_cases h3 : M < 30000
          · have h3i : (M : Int) < 30000 := by omega
            by_cases hlt : k < o.parents.length
            · have h1 : (k : Int) < o.parents.length := by omega
              have h0 : (0 : Int) ≤ k := by omega
              have HJ := Lib.hid (HJ.out.below (HP.out.below.mono hB))
              obtain ⟨ad, e, hB1, hc⟩ := HJ.out k hlt
              have hre := HR.out.par (o.parents.getD k ByteArray.empty) (by rw [List.getD_eq_getElem?_getD, List.getElem?_eq_getElem hlt]; exact List.getElem_mem hlt)
              have HS := Lib.hid (parSum_step hlt)
              generalize o.parents.getD k ByteArray.empty = x at *
              subst e
              go_wp2
              go_roundg (o.parents.length - (k + 1))
              case rel => exact ⟨k + 1, M + x.size, by omega, rfl, congrArg (Value.int .i64) (by omega), by go_num, by rw [HS.out, HM.out]; omega, by omega, HP.out⟩
              case measure => omega
            · have h1 : ¬ (k : Int) < o.parents.length := by omega
              obtain rfl : k = o.parents.length := by omega
              have HF := Lib.hid (show few o = true from decide_eq_true (by have := HM.out; rw [List.take_length] at this; have := HN.out; unfold total; omega))
              go_wp2
              go_ret
              exact ⟨ret_bool HF.out.symm, HP.out.below⟩
          · have h3i : ¬ (M : Int) < 30000 := by omega
            have HF := Lib.hid (HG.out M (by omega) (by have := HM.out; have := parSum_le o.parents k; have := HN.out; unfold total; omega))
            by_cases hlt : k < o.parents.length
            · have h1 : (k : Int) < o.parents.length := by omega
              go_wp2
              go_ret
              exact ⟨ret_bool HF.out.symm, HP.out.below⟩
            · have h1 : ¬ (k : Int) < o.parents.length := by omega
              go_wp2
              go_ret
              exact ⟨ret_bool HF.out.symm, HP.out.below⟩
    · have h3i : ¬ (M : Int) < 30000 := by omega
      have HF := Lib.hid (HG.out M (by omega) (by have := HM.out; have := entSum_le o.ents k; have := HN.out; unfold total; omega))
      by_cases hlt : k < o.ents.length
      all_goals
        first | have h1 : (k : Int) < o.ents.length := by omega
              | have h1 : ¬ (k : Int) < o.ents.length := by omega
        go_wp2_with fail
        go_loopg [3, 5] 1 (fun g n i wr => ∃ X k : Nat, n = .int .i64 X ∧ 30000 ≤ X ∧ i = .int .i64 k ∧ OneB w wr w.heap.size 25 (objC o A c P d))
        case atStart => exact ⟨M, 0, rfl, by omega, rfl, HP.out⟩
        case round =>
          obtain ⟨X, k, rfl, hX3, rfl, hp⟩ := hrel
          have HP := Lib.hid hp
          obtain ⟨c0, c1, c2, c3, c4, c5, c6, c7, c8, c9⟩ := hp.a.ten
          clear hp
          have h3i : ¬ (X : Int) < 30000 := by omega
          clear hX3
          obtain ⟨L, hL⟩ : ∃ L, o.parents.length = L := ⟨_, rfl⟩
          rw [hL] at c4
          clear hL
          by_cases hp0 : (k : Int) < L
          all_goals
            go_wp2
            go_ret
            exact ⟨ret_bool HF.out.symm, HP.out.below⟩
end Go.Proofs.Ytlpidedijknohaa.Hj
