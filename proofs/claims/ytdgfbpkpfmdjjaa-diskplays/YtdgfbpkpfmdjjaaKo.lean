/-
  Acts as arguments; an act on the program's disk; few (layer 7).
-/
import Derived.Test.YtdgfbpkpfmdjjaaKn
import Derived.SizedLaws
namespace Go.Proofs.Ytdgfbpkpfmdjjaa.Hk
open Go.RowKit Go.ChangeShapes Go.WideShapes Go.ChangeAt Hr Hw Ht
set_option linter.unusedVariables false

/-- an act: kind, path, text, at, keep -/
abbrev Ac := Int × ByteArray × ByteArray × Int × Int
def acells (a : Ac) : List Value := [.int .i64 a.1, .string a.2.1, .string a.2.2.1, .int .i64 a.2.2.2.1, .int .u64 a.2.2.2.2]
structure AcOk (a : Ac) : Prop where
  kind : (Lit.int .i64 a.1).wf = true
  path : a.2.1.size ≤ reachBytes
  text : a.2.2.1.size ≤ reachBytes
  at_ : (Lit.int .i64 a.2.2.2.1).wf = true
  keep : (Lit.int .u64 a.2.2.2.2).wf = true
abbrev Acs (w : World) (B : Nat) (A : Option Addr) (l : List Ac) : Prop := Recs 5 acells w B A l

theorem weights_all {H : Type} {P : Program} {e : TypeId} : ∀ {l : List (DataW H)} {d : DataW H}, d ∈ l → ∀ n ∈ d.weights P e, n ∈ DataW.weightsAll P e l
  | x :: l, d, hd, n, hn => by
    simp only [DataW.weightsAll, List.mem_append]
    rcases List.mem_cons.1 hd with rfl | hd
    · exact .inl hn
    · exact .inr (weights_all hd n hn)
  | [], _, hd, _, _ => by cases hd
section
variable {α : Type} [Inhabited α] {k : Nat} {f : α → List Value}
set_option maxRecDepth 100000 in
/-- an argument that is a slice of records; what is in it is no greater than the row's reach -/
theorem open_recs_sized {t e : TypeId} (ht : Try.prog.underlying t = some (.slice e)) (ce : Try.prog.cellsOf e = k) (hp : 0 < k) {H : Type} {enc : TypeId × Value → H} {W : World} {base : Nat} {v : Value} {d : DataW H} {ps : List MemPlace} (Ok : α → Prop)
    (dec : ∀ fuel cs x, cs.length = k → DataW.trod enc Try.prog W 0 (fun _ => true) true fuel e cs = some x → (∀ n ∈ x.1.weights Try.prog e, n ≤ reachBytes) → ∃ a, cs = f a ∧ Ok a) (hok : Value.okWide Try.prog W .any base t v)
    (h : DataW.Trod enc Try.prog W 0 (fun _ => true) true t v d ps) (hz : ∀ n ∈ d.weights Try.prog t, n ≤ reachBytes) : ∃ (A : Option Addr) (l : List α) (c : Nat), v = .slice A l.length c ∧ Recs k f W W.heap.size A l ∧ ∀ a ∈ l, Ok a := by
  obtain ⟨a0, len, cap, rfl⟩ := okWide_slice ht hok
  obtain ⟨fuel, hf⟩ := h
  rcases Go.Deep.open_slice ht hf with ⟨hcs, hx⟩ | ⟨a, len', cap', m, n, D, Pl, hcs, hb, hl, hm, hmm, hx, hcell⟩
  · simp [Value.cells] at hcs
    obtain ⟨rfl, rfl, rfl⟩ := hcs
    exact ⟨none, [], 0, rfl, (fun i hi => by cases hi), (fun x hx => by cases hx)⟩
  · simp [Value.cells] at hcs
    obtain ⟨rfl, rfl, rfl⟩ := hcs
    simp only [if_true] at hmm
    have hd : d = .slice ((List.range len).map D) ((List.range (m - len)).map fun j => D (len + j)) := congrArg Prod.fst hx
    have hzi : ∀ i, i < len → ∀ q ∈ (D i).weights Try.prog e, q ≤ reachBytes := fun i hi q hq => by
      refine hz q ?_
      rw [hd]
      simp only [DataW.weights, ht, List.mem_cons, List.mem_append]
      exact .inr (.inl (weights_all (List.mem_map.2 ⟨i, by simpa using hi, rfl⟩) q hq))
    have one : ∀ i, i < len → ∃ r : α, Ok r ∧ ∀ j, j < k → W.cell? ((a.add (i * k)).add j) = (f r)[j]? := fun i hi => by
      obtain ⟨cs', h1, h2⟩ := hcell i (by omega)
      rw [ce] at h1
      obtain ⟨_, hlen, hc⟩ := World.cells?_some h1
      obtain ⟨r, hr, hok⟩ := dec _ cs' _ hlen h2 (hzi i hi)
      refine ⟨r, hok, fun j hj => ?_⟩
      rw [hc j (by omega), ← hr]
    refine ⟨some a, (List.range len).map fun i => if hi : i < len then Classical.choose (one i hi) else default, cap, by simp, fun i hi => ?_, fun x hx => ?_⟩
    · have hi' : i < len := by simpa using hi
      have hs := (Classical.choose_spec (one i hi')).2
      have hg : ((List.range len).map fun i => if hi : i < len then Classical.choose (one i hi) else default).getD i default = Classical.choose (one i hi') := by simp [List.getD, hi']
      rw [hg]
      refine ⟨a, rfl, ?_, hs⟩
      obtain ⟨cs', h1, h2⟩ := hcell i (by omega)
      rw [ce] at h1
      obtain ⟨_, hlen, hc⟩ := World.cells?_some h1
      have h0 := hc 0 (by omega)
      rw [List.getElem?_eq_getElem (by omega)] at h0
      have := World.block_lt_of_cell? _ _ h0
      rwa [block_of_add, block_of_add] at this
    · obtain ⟨i, hi, rfl⟩ := List.mem_map.1 hx
      have hi' : i < len := by simpa using hi
      rw [dif_pos hi']
      exact (Classical.choose_spec (one i hi')).1
end
theorem some_of_get {α : Type} {xs : List α} {i n : Nat} {o : Option α} (h : o = xs[i]?) (hl : xs.length = n) (hi : i < n) : ∃ y, o = some y ∧ xs[i]? = some y := by
  rw [List.getElem?_eq_getElem (by omega)] at h
  exact ⟨_, h, List.getElem?_eq_getElem (by omega)⟩
theorem c3 : Try.prog.cellsOf 3 = 1 := by kernel_rfl
theorem c9 : Try.prog.cellsOf 9 = 1 := by kernel_rfl
theorem c31 : Try.prog.cellsOf 31 = 1 := by kernel_rfl
theorem c33 : Try.prog.cellsOf 33 = 2 := by kernel_rfl
theorem c39 : Try.prog.cellsOf 39 = 5 := by kernel_rfl
set_option maxRecDepth 100000 in
theorem dec_act {H : Type} {enc : TypeId × Value → H} {W : World} (fuel : Nat) (cs : List Value) (x : DataW H × List MemPlace) (hl : cs.length = 5) (h : DataW.trod enc Try.prog W 0 (fun _ => true) true fuel 39 cs = some x) (hz : ∀ n ∈ x.1.weights Try.prog 39, n ≤ reachBytes) : ∃ a, cs = acells a ∧ AcOk a := by
  obtain ⟨c0, c1, c2, c3', c4, rfl⟩ : ∃ c0 c1 c2 c3 c4, cs = [c0, c1, c2, c3, c4] := by
    match cs, hl with
    | [c0, c1, c2, c3, c4], _ => exact ⟨_, _, _, _, _, rfl⟩
  obtain ⟨xs, n, _, rfl, _, hlen, hf⟩ := DataW.trod_struct Try.underlying39 h
  obtain ⟨y0, h0, g0⟩ := some_of_get (hf 0 _ rfl) hlen (by decide)
  obtain ⟨y1, h1, g1⟩ := some_of_get (hf 1 _ rfl) hlen (by decide)
  obtain ⟨y2, h2, g2⟩ := some_of_get (hf 2 _ rfl) hlen (by decide)
  obtain ⟨y3, h3, g3⟩ := some_of_get (hf 3 _ rfl) hlen (by decide)
  have h0 : DataW.trod enc Try.prog W 0 (fun _ => true) true n 3 (([c0, c1, c2, c3', c4].drop 0).take (Try.prog.cellsOf 3)) = some y0 := h0
  have h1 : DataW.trod enc Try.prog W 0 (fun _ => true) true n 9 (([c0, c1, c2, c3', c4].drop 1).take (Try.prog.cellsOf 9)) = some y1 := h1
  have h2 : DataW.trod enc Try.prog W 0 (fun _ => true) true n 9 (([c0, c1, c2, c3', c4].drop 2).take (Try.prog.cellsOf 9)) = some y2 := h2
  have h3 : DataW.trod enc Try.prog W 0 (fun _ => true) true n 33 (([c0, c1, c2, c3', c4].drop 3).take (Try.prog.cellsOf 33)) = some y3 := h3
  rw [c3] at h0
  rw [c9] at h1 h2
  rw [c33] at h3
  obtain ⟨a0, e0, _, w0⟩ := DataW.trod_int Try.underlying3 h0
  obtain ⟨a1, e1, q1, w1⟩ := DataW.trod_string Try.underlying9 h1
  obtain ⟨a2, e2, q2, w2⟩ := DataW.trod_string Try.underlying9 h2
  obtain ⟨zs, m, _, rfl, _, hlen', hf'⟩ := DataW.trod_struct Try.underlying33 h3
  obtain ⟨z0, k0, _⟩ := some_of_get (hf' 0 _ rfl) hlen' (by decide)
  obtain ⟨z1, k1, _⟩ := some_of_get (hf' 1 _ rfl) hlen' (by decide)
  have k0 : DataW.trod enc Try.prog W 0 (fun _ => true) true m 3 (([c3', c4].drop 0).take (Try.prog.cellsOf 3)) = some z0 := k0
  have k1 : DataW.trod enc Try.prog W 0 (fun _ => true) true m 31 (([c3', c4].drop 1).take (Try.prog.cellsOf 31)) = some z1 := k1
  rw [c3] at k0
  rw [c31] at k1
  obtain ⟨a3, e3, _, w3⟩ := DataW.trod_int Try.underlying3 k0
  obtain ⟨a4, e4, _, w4⟩ := DataW.trod_int Try.underlying31 k1
  change [c0] = _ at e0
  change [c1] = _ at e1
  change [c2] = _ at e2
  change [c3'] = _ at e3
  change [c4] = _ at e4
  injection e0 with e0 _
  injection e1 with e1 _
  injection e2 with e2 _
  injection e3 with e3 _
  injection e4 with e4 _
  subst e0; subst e1; subst e2; subst e3; subst e4
  have hwe : ∀ n ∈ DataW.weightsEach Try.prog [3, 9, 9, 33] (xs.map (·.1)), n ≤ reachBytes := fun n hn => hz n (by simp only [DataW.weights, Try.underlying39]; exact hn)
  have hw1 := hwe a1.data.toList.length (DataW.weights_mem_each (j := 1) (t := 9) (d := .lit (.string a1.data.toList)) rfl (by rw [List.getElem?_map, g1, q1]; rfl) _ (by simp [DataW.weights]))
  have hw2 := hwe a2.data.toList.length (DataW.weights_mem_each (j := 2) (t := 9) (d := .lit (.string a2.data.toList)) rfl (by rw [List.getElem?_map, g2, q2]; rfl) _ (by simp [DataW.weights]))
  exact ⟨(a0, a1, a2, a3, a4), rfl, w0, by simpa using hw1, by simpa using hw2, w3, w4⟩
set_option maxRecDepth 100000 in
theorem open_acts {H : Type} {enc : TypeId × Value → H} {W : World} {base : Nat} {v : Value} {d : DataW H} {ps : List MemPlace} (hok : Value.okWide Try.prog W .any base 22 v)
    (h : DataW.Trod enc Try.prog W 0 (fun _ => true) true 22 v d ps) (hz : ∀ n ∈ d.weights Try.prog 22, n ≤ reachBytes) : ∃ (A : Option Addr) (l : List Ac) (c : Nat), v = .slice A l.length c ∧ Acs W W.heap.size A l ∧ ∀ a ∈ l, AcOk a :=
  open_recs_sized Try.underlying22 c39 (by omega) AcOk (fun fuel cs x hl h hz => dec_act fuel cs x hl h hz) hok h hz
end Go.Proofs.Ytdgfbpkpfmdjjaa.Hk
