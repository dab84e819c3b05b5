/-
  An argument that is a slice of records, with what the row's reach bounds (any layer).
-/
import Derived.Test.YtlpidedijknohaaRc
import Derived.SizedLaws
namespace Go.Proofs.Ytlpidedijknohaa.Hr
open Go.RowKit Go.ChangeShapes Go.WideShapes Go.ChangeAt
set_option linter.unusedVariables false

theorem weights_all {H : Type} {P : Program} {e : TypeId} : ∀ {l : List (DataW H)} {d : DataW H}, d ∈ l → ∀ n ∈ d.weights P e, n ∈ DataW.weightsAll P e l
  | x :: l, d, hd, n, hn => by
    simp only [DataW.weightsAll, List.mem_append]
    rcases List.mem_cons.1 hd with rfl | hd
    · exact .inl hn
    · exact .inr (weights_all hd n hn)
  | [], _, hd, _, _ => by cases hd
section
variable {α : Type} [Inhabited α] {k : Nat} {f : α → List Value}
set_option maxRecDepth 100000 in
/-- an argument that is a slice of records; what is in it is no greater than the row's reach -/
theorem open_recs_sized {t e : TypeId} (ht : Try.prog.underlying t = some (.slice e)) (ce : Try.prog.cellsOf e = k) (hp : 0 < k) {H : Type} {enc : TypeId × Value → H} {W : World} {base : Nat} {v : Value} {d : DataW H} {ps : List MemPlace} (Ok : α → Prop)
    (dec : ∀ fuel cs x, cs.length = k → DataW.trod enc Try.prog W 0 (fun _ => true) true fuel e cs = some x → (∀ n ∈ x.1.weights Try.prog e, n ≤ reachBytes) → ∃ a, cs = f a ∧ Ok a) (hok : Value.okWide Try.prog W .any base t v)
    (h : DataW.Trod enc Try.prog W 0 (fun _ => true) true t v d ps) (hz : ∀ n ∈ d.weights Try.prog t, n ≤ reachBytes) : ∃ (A : Option Addr) (l : List α) (c : Nat), v = .slice A l.length c ∧ Recs k f W W.heap.size A l ∧ ∀ a ∈ l, Ok a := by
  obtain ⟨a0, len, cap, rfl⟩ := okWide_slice ht hok
  obtain ⟨fuel, hf⟩ := h
  rcases Go.Deep.open_slice ht hf with ⟨hcs, hx⟩ | ⟨a, len', cap', m, n, D, Pl, hcs, hb, hl, hm, hmm, hx, hcell⟩
  · simp [Value.cells] at hcs
    obtain ⟨rfl, rfl, rfl⟩ := hcs
    exact ⟨none, [], 0, rfl, (fun i hi => by cases hi), (fun x hx => by cases hx)⟩
  · simp [Value.cells] at hcs
    obtain ⟨rfl, rfl, rfl⟩ := hcs
    simp only [if_true] at hmm
    have hd : d = .slice ((List.range len).map D) ((List.range (m - len)).map fun j => D (len + j)) := congrArg Prod.fst hx
    have hzi : ∀ i, i < len → ∀ q ∈ (D i).weights Try.prog e, q ≤ reachBytes := fun i hi q hq => by
      refine hz q ?_
      rw [hd]
      simp only [DataW.weights, ht, List.mem_cons, List.mem_append]
      exact .inr (.inl (weights_all (List.mem_map.2 ⟨i, by simpa using hi, rfl⟩) q hq))
    have one : ∀ i, i < len → ∃ r : α, Ok r ∧ ∀ j, j < k → W.cell? ((a.add (i * k)).add j) = (f r)[j]? := fun i hi => by
      obtain ⟨cs', h1, h2⟩ := hcell i (by omega)
      rw [ce] at h1
      obtain ⟨_, hlen, hc⟩ := World.cells?_some h1
      obtain ⟨r, hr, hok⟩ := dec _ cs' _ hlen h2 (hzi i hi)
      refine ⟨r, hok, fun j hj => ?_⟩
      rw [hc j (by omega), ← hr]
    refine ⟨some a, (List.range len).map fun i => if hi : i < len then Classical.choose (one i hi) else default, cap, by simp, fun i hi => ?_, fun x hx => ?_⟩
    · have hi' : i < len := by simpa using hi
      have hs := (Classical.choose_spec (one i hi')).2
      have hg : ((List.range len).map fun i => if hi : i < len then Classical.choose (one i hi) else default).getD i default = Classical.choose (one i hi') := by simp [List.getD, hi']
      rw [hg]
      refine ⟨a, rfl, ?_, hs⟩
      obtain ⟨cs', h1, h2⟩ := hcell i (by omega)
      rw [ce] at h1
      obtain ⟨_, hlen, hc⟩ := World.cells?_some h1
      have h0 := hc 0 (by omega)
      rw [List.getElem?_eq_getElem (by omega)] at h0
      have := World.block_lt_of_cell? _ _ h0
      rwa [block_of_add, block_of_add] at this
    · obtain ⟨i, hi, rfl⟩ := List.mem_map.1 hx
      have hi' : i < len := by simpa using hi
      rw [dif_pos hi']
      exact (Classical.choose_spec (one i hi')).1
end
theorem some_of_get {α : Type} {xs : List α} {i n : Nat} {o : Option α} (h : o = xs[i]?) (hl : xs.length = n) (hi : i < n) : ∃ y, o = some y ∧ xs[i]? = some y := by
  rw [List.getElem?_eq_getElem (by omega)] at h
  exact ⟨_, h, List.getElem?_eq_getElem (by omega)⟩
end Go.Proofs.Ytlpidedijknohaa.Hr
