/-
  Layer 11: an argument that is an object, or an entry.
-/
import Derived.Test.YtlpidedijknohaaOh
import Derived.Test.YtlpidedijknohaaSzd
namespace Go.Proofs.Ytlpidedijknohaa.Hj
open Go.RowKit Go.ChangeShapes Go.WideShapes Go.ChangeAt Ob Hr
set_option linter.unusedVariables false

section
variable {α : Type} [Inhabited α] {k : Nat} {f : α → List Value}
set_option maxRecDepth 100000 in
/-- a field that is a slice of records -/
theorem recs_field {t e : TypeId} (ht : Try.prog.underlying t = some (.slice e)) (ce : Try.prog.cellsOf e = k) (hp : 0 < k) (hbe : 1 ≤ Try.prog.bytesOf e) {H : Type} {enc : TypeId × Value → H} {W : World} {cs : List Value} {x : DataW H × List MemPlace} {fuel : Nat} (Ok : α → Prop)
    (dec : ∀ fuel cs x, cs.length = k → DataW.trod enc Try.prog W 0 (fun _ => true) true fuel e cs = some x → (∀ n ∈ x.1.weights Try.prog e, n ≤ reachBytes) → ∃ a, cs = f a ∧ Ok a)
    (hf : DataW.trod enc Try.prog W 0 (fun _ => true) true fuel t cs = some x) (hz : ∀ n ∈ x.1.weights Try.prog t, n ≤ reachBytes) : ∃ (A : Option Addr) (l : List α) (c : Nat), cs = [.slice A l.length c] ∧ l.length ≤ c ∧ l.length ≤ reachBytes ∧ Recs k f W W.heap.size A l ∧ ∀ a ∈ l, Ok a := by
  rcases Go.Deep.open_slice ht hf with ⟨hcs, hx⟩ | ⟨a, len, cap, m, n, D, Pl, hcs, hb, hl, hm, hmm, hx, hcell⟩
  · exact ⟨none, [], 0, hcs, Nat.le_refl _, Nat.zero_le _, (fun i hi => by cases hi), (fun x hx => by cases hx)⟩
  · simp only [if_true] at hmm
    have hd : x.1 = .slice ((List.range len).map D) ((List.range (m - len)).map fun j => D (len + j)) := congrArg Prod.fst hx
    rw [hd] at hz
    simp only [DataW.weights, ht, List.mem_cons, List.mem_append] at hz
    have hlen : len ≤ reachBytes := by
      have h1 := hz _ (.inl rfl)
      simp only [List.length_map, List.length_range] at h1
      have h2 : len * 1 ≤ (len + (m - len)) * Try.prog.bytesOf e := Nat.mul_le_mul (by omega) hbe
      omega
    have hzi : ∀ i, i < len → ∀ q ∈ (D i).weights Try.prog e, q ≤ reachBytes := fun i hi q hq =>
      hz q (.inr (.inl (weights_all (List.mem_map.2 ⟨i, by simpa using hi, rfl⟩) q hq)))
    have one : ∀ i, i < len → ∃ r : α, Ok r ∧ ∀ j, j < k → W.cell? ((a.add (i * k)).add j) = (f r)[j]? := fun i hi => by
      obtain ⟨cs', h1, h2⟩ := hcell i (by omega)
      rw [ce] at h1
      obtain ⟨_, hlen, hc⟩ := World.cells?_some h1
      obtain ⟨r, hr, hok⟩ := dec _ cs' _ hlen h2 (hzi i hi)
      refine ⟨r, hok, fun j hj => ?_⟩
      rw [hc j (by omega), ← hr]
    refine ⟨some a, (List.range len).map fun i => if hi : i < len then Classical.choose (one i hi) else default, cap, by simp [hcs], by simpa using hl, by simpa using hlen, fun i hi => ?_, fun x hx => ?_⟩
    · have hi' : i < len := by simpa using hi
      have hs := (Classical.choose_spec (one i hi')).2
      have hg : ((List.range len).map fun i => if hi : i < len then Classical.choose (one i hi) else default).getD i default = Classical.choose (one i hi') := by simp [List.getD, hi']
      rw [hg]
      refine ⟨a, rfl, ?_, hs⟩
      obtain ⟨cs', h1, h2⟩ := hcell i (by omega)
      rw [ce] at h1
      obtain ⟨_, hlen, hc⟩ := World.cells?_some h1
      have h0 := hc 0 (by omega)
      rw [List.getElem?_eq_getElem (by omega)] at h0
      have := World.block_lt_of_cell? _ _ h0
      rwa [block_of_add, block_of_add] at this
    · obtain ⟨i, hi, rfl⟩ := List.mem_map.1 hx
      have hi' : i < len := by simpa using hi
      rw [dif_pos hi']
      exact (Classical.choose_spec (one i hi')).1
end
theorem bytes_ent : 1 ≤ Try.prog.bytesOf 46 := by
  have h : Try.prog.bytesOf 46 = 40 := by kernel_rfl
  omega
theorem bytes_str : 1 ≤ Try.prog.bytesOf 9 := by
  have h : Try.prog.bytesOf 9 = 16 := by kernel_rfl
  omega
/-- what a field weighs -/
theorem field_weight {H : Type} {t : TypeId} {fs : Array Field} (hu : Try.prog.underlying t = some (.struct fs)) {xs : List (DataW H × List MemPlace)} (hz : ∀ n ∈ (DataW.agg (xs.map (·.1)) : DataW H).weights Try.prog t, n ≤ reachBytes) {j : Nat} {fl : Field} {y : DataW H × List MemPlace}
    (hj : fs[j]? = some fl) (hy : xs[j]? = some y) : ∀ n ∈ y.1.weights Try.prog fl.type, n ≤ reachBytes := fun n hn => by
  refine hz n ?_
  simp only [DataW.weights, hu]
  exact DataW.weights_mem_each (j := j) (by rw [List.getElem?_map, Array.getElem?_toList, hj]; rfl) (by rw [List.getElem?_map, hy]; rfl) n hn
theorem pick_one {A : List Value} {i : Nat} {x : Value} (h : (A.drop i).take 1 = [x]) : A[i]? = some x := by
  have e := congrArg (fun l : List Value => l[0]?) h
  simpa [List.getElem?_take, List.getElem?_drop] using e
theorem str_weight {H : Type} {s : ByteArray} {y : DataW H × List MemPlace} (hy : y = (.lit (.string s.data.toList), [])) {t : TypeId} (hz : ∀ n ∈ y.1.weights Try.prog t, n ≤ reachBytes) : s.size ≤ 140737488355328 := by
  subst hy
  have h := hz s.data.toList.length (by show _ ∈ DataW.weights Try.prog t (.lit (.string s.data.toList)); rw [DataW.weights]; exact List.mem_singleton.2 rfl)
  have h2 : s.data.toList.length = s.size := bl_length s
  have h3 : reachBytes ≤ 140737488355328 := by decide
  omega
set_option maxRecDepth 100000 in
theorem dec_ent {H : Type} {enc : TypeId × Value → H} {W : World} (fuel : Nat) (cs : List Value) (x : DataW H × List MemPlace) (hl : cs.length = 3) (hf : DataW.trod enc Try.prog W 0 (fun _ => true) true fuel 46 cs = some x) (hz : ∀ n ∈ x.1.weights Try.prog 46, n ≤ reachBytes) :
    ∃ a : Ent, cs = entV a ∧ a.name.size ≤ 140737488355328 ∧ a.id.size ≤ 140737488355328 := by
  obtain ⟨xs, m, _, hx, hcl, hxl, hi⟩ := DataW.trod_struct Try.underlying46 hf
  have h1 : Try.prog.cellsOf 3 = 1 := by kernel_rfl
  have h9 : Try.prog.cellsOf 9 = 1 := by kernel_rfl
  have hxl3 : xs.length = 3 := hxl
  rw [hx] at hz
  have g0 := hi 0 _ rfl
  have g1 := hi 1 _ rfl
  have g2 := hi 2 _ rfl
  obtain ⟨y0, f0, k0⟩ := some_of_get g0 hxl3 (by omega)
  obtain ⟨y1, f1, k1⟩ := some_of_get g1 hxl3 (by omega)
  obtain ⟨y2, f2, k2⟩ := some_of_get g2 hxl3 (by omega)
  obtain ⟨a, ha, _, _⟩ := DataW.trod_int Try.underlying3 f0
  obtain ⟨b, hb, eb, _⟩ := DataW.trod_string Try.underlying9 f1
  obtain ⟨c, hc, ec, _⟩ := DataW.trod_string Try.underlying9 f2
  have wb := str_weight eb (field_weight Try.underlying46 hz (j := 1) rfl k1)
  have wc := str_weight ec (field_weight Try.underlying46 hz (j := 2) rfl k2)
  change (cs.drop 0).take (Try.prog.cellsOf 3) = _ at ha
  change (cs.drop 1).take (Try.prog.cellsOf 9) = _ at hb
  change (cs.drop 2).take (Try.prog.cellsOf 9) = _ at hc
  rw [h1] at ha
  rw [h9] at hb hc
  refine ⟨⟨a, b, c⟩, List.ext_getElem? fun i => ?_, wb, wc⟩
  by_cases hi3 : i < 3
  · rcases (by omega : i = 0 ∨ i = 1 ∨ i = 2) with rfl | rfl | rfl
    · rw [pick_one ha]; rfl
    · rw [pick_one hb]; rfl
    · rw [pick_one hc]; rfl
  · rw [List.getElem?_eq_none (by omega), List.getElem?_eq_none (by simp [entV]; omega)]
theorem dec_str {H : Type} {enc : TypeId × Value → H} {W : World} (fuel : Nat) (cs : List Value) (x : DataW H × List MemPlace) (hl : cs.length = 1) (hf : DataW.trod enc Try.prog W 0 (fun _ => true) true fuel 9 cs = some x) (hz : ∀ n ∈ x.1.weights Try.prog 9, n ≤ reachBytes) :
    ∃ a : ByteArray, cs = [.string a] ∧ a.size ≤ 140737488355328 := by
  obtain ⟨b, hb, eb, _⟩ := DataW.trod_string Try.underlying9 hf
  exact ⟨b, hb, str_weight eb hz⟩
theorem strs_of_recs {w : World} {B : Nat} {A : Option Addr} {l : List ByteArray} (h : Recs (α := ByteArray) 1 (fun s => [.string s]) w B A l) : Strs w B A l := fun i hi => by
  obtain ⟨ad, e, hlt, hc⟩ := h i hi
  refine ⟨ad, e, hlt, ?_⟩
  have h0 := hc 0 (by omega)
  rw [Nat.mul_one] at h0
  rw [show (ad.add i).add 0 = ad.add i from rfl] at h0
  rw [h0]
  simp [List.getD, List.getElem?_eq_getElem hi]
set_option maxHeartbeats 2000000 in
set_option maxRecDepth 100000 in
/-- an argument that is an object -/
theorem open_obj {H : Type} {enc : TypeId × Value → H} {W : World} {base : Nat} {v : Value} {d : DataW H} {ps : List MemPlace} (hok : Value.okWide Try.prog W .any base 25 v)
    (h : DataW.Trod enc Try.prog W 0 (fun _ => true) true 25 v d ps) (hz : ∀ n ∈ d.weights Try.prog 25, n ≤ reachBytes) :
    ∃ (o : Thing) (A : Option Addr) (c : Nat) (P : Option Addr) (dd : Nat), v = .agg (objC o A c P dd) ∧ Lies W W.heap.size o A P ∧ Reach o ∧ o.ents.length ≤ c ∧ o.parents.length ≤ dd := by
  obtain ⟨Ar, rfl, hsz⟩ := okWide_struct Try.underlying25 hok
  obtain ⟨fuel, hf⟩ := h
  obtain ⟨xs, m, _, hx, hcl, hxl, hi⟩ := DataW.trod_struct Try.underlying25 hf
  have hT : Try.prog.cellsOf 25 = 10 := by kernel_rfl
  have h3 : Try.prog.cellsOf 3 = 1 := by kernel_rfl
  have h9 : Try.prog.cellsOf 9 = 1 := by kernel_rfl
  have hE : Try.prog.cellsOf 22 = 1 := by kernel_rfl
  have hS : Try.prog.cellsOf 23 = 1 := by kernel_rfl
  have hc : (Value.agg Ar).cells = Ar := rfl
  rw [hT] at hsz
  rw [hc] at hi
  have hx10 : xs.length = 10 := hxl
  rw [show d = .agg (xs.map (·.1)) from congrArg Prod.fst hx] at hz
  obtain ⟨y0, f0, k0⟩ := some_of_get (hi 0 _ rfl) hx10 (by omega)
  obtain ⟨y1, f1, k1⟩ := some_of_get (hi 1 _ rfl) hx10 (by omega)
  obtain ⟨y2, f2, k2⟩ := some_of_get (hi 2 _ rfl) hx10 (by omega)
  obtain ⟨y3, f3, k3⟩ := some_of_get (hi 3 _ rfl) hx10 (by omega)
  obtain ⟨y4, f4, k4⟩ := some_of_get (hi 4 _ rfl) hx10 (by omega)
  obtain ⟨y5, f5, k5⟩ := some_of_get (hi 5 _ rfl) hx10 (by omega)
  obtain ⟨y6, f6, k6⟩ := some_of_get (hi 6 _ rfl) hx10 (by omega)
  obtain ⟨y7, f7, k7⟩ := some_of_get (hi 7 _ rfl) hx10 (by omega)
  obtain ⟨y8, f8, k8⟩ := some_of_get (hi 8 _ rfl) hx10 (by omega)
  obtain ⟨y9, f9, k9⟩ := some_of_get (hi 9 _ rfl) hx10 (by omega)
  have w1 := field_weight Try.underlying25 hz (j := 1) rfl k1
  have w2 := field_weight Try.underlying25 hz (j := 2) rfl k2
  have w3 := field_weight Try.underlying25 hz (j := 3) rfl k3
  have w4 := field_weight Try.underlying25 hz (j := 4) rfl k4
  have w5 := field_weight Try.underlying25 hz (j := 5) rfl k5
  have w7 := field_weight Try.underlying25 hz (j := 7) rfl k7
  have w8 := field_weight Try.underlying25 hz (j := 8) rfl k8
  obtain ⟨a0, b0, _, _⟩ := DataW.trod_int Try.underlying3 f0
  obtain ⟨a1, b1, e1, _⟩ := DataW.trod_string Try.underlying9 f1
  obtain ⟨A2, l2, c2, b2, q2, r2, hr2, ok2⟩ := recs_field (k := 3) (f := entV) Try.underlying22 (by kernel_rfl) (by omega) bytes_ent (fun a => a.name.size ≤ 140737488355328 ∧ a.id.size ≤ 140737488355328) dec_ent f2 w2
  obtain ⟨a3, b3, e3, _⟩ := DataW.trod_string Try.underlying9 f3
  obtain ⟨A4, l4, c4, b4, q4, r4, hr4, ok4⟩ := recs_field (α := ByteArray) (k := 1) (f := fun s => [.string s]) Try.underlying23 (by kernel_rfl) (by omega) bytes_str (fun a => a.size ≤ 140737488355328) dec_str f4 w4
  obtain ⟨a5, b5, e5, _⟩ := DataW.trod_string Try.underlying9 f5
  obtain ⟨a6, b6, _, _⟩ := DataW.trod_int Try.underlying3 f6
  obtain ⟨a7, b7, e7, _⟩ := DataW.trod_string Try.underlying9 f7
  obtain ⟨a8, b8, e8, _⟩ := DataW.trod_string Try.underlying9 f8
  obtain ⟨a9, b9, _, _⟩ := DataW.trod_int Try.underlying3 f9
  have hR : reachBytes ≤ 140737488355328 := by decide
  change (Ar.toList.drop 0).take (Try.prog.cellsOf 3) = _ at b0
  change (Ar.toList.drop 1).take (Try.prog.cellsOf 9) = _ at b1
  change (Ar.toList.drop 2).take (Try.prog.cellsOf 22) = _ at b2
  change (Ar.toList.drop 3).take (Try.prog.cellsOf 9) = _ at b3
  change (Ar.toList.drop 4).take (Try.prog.cellsOf 23) = _ at b4
  change (Ar.toList.drop 5).take (Try.prog.cellsOf 9) = _ at b5
  change (Ar.toList.drop 6).take (Try.prog.cellsOf 3) = _ at b6
  change (Ar.toList.drop 7).take (Try.prog.cellsOf 9) = _ at b7
  change (Ar.toList.drop 8).take (Try.prog.cellsOf 9) = _ at b8
  change (Ar.toList.drop 9).take (Try.prog.cellsOf 3) = _ at b9
  rw [h3] at b0 b6 b9
  rw [h9] at b1 b3 b5 b7 b8
  rw [hE] at b2
  rw [hS] at b4
  refine ⟨⟨a0, a1, l2, a3, l4, a5, a6, a7, a8, a9⟩, A2, c2, A4, c4, congrArg Value.agg ?_, ⟨hr2, strs_of_recs hr4⟩, ⟨str_weight e1 w1, by show l2.length ≤ _; omega, str_weight e3 w3, by show l4.length ≤ _; omega, str_weight e5 w5, str_weight e7 w7, str_weight e8 w8, ok2, ok4⟩, q2, q4⟩
  have hal : Ar.toList.length = 10 := by simpa using hsz
  apply Array.toList_inj.1
  refine List.ext_getElem? fun i => ?_
  by_cases hi10 : i < 10
  · rcases (by omega : i = 0 ∨ i = 1 ∨ i = 2 ∨ i = 3 ∨ i = 4 ∨ i = 5 ∨ i = 6 ∨ i = 7 ∨ i = 8 ∨ i = 9) with rfl | rfl | rfl | rfl | rfl | rfl | rfl | rfl | rfl | rfl
    · rw [pick_one b0]; rfl
    · rw [pick_one b1]; rfl
    · rw [pick_one b2]; rfl
    · rw [pick_one b3]; rfl
    · rw [pick_one b4]; rfl
    · rw [pick_one b5]; rfl
    · rw [pick_one b6]; rfl
    · rw [pick_one b7]; rfl
    · rw [pick_one b8]; rfl
    · rw [pick_one b9]; rfl
  · rw [List.getElem?_eq_none (by omega), List.getElem?_eq_none (by simp; omega)]
set_option maxRecDepth 100000 in
/-- an argument that is an entry -/
theorem open_ent {H : Type} {enc : TypeId × Value → H} {W : World} {base : Nat} {v : Value} {d : DataW H} {ps : List MemPlace} (hok : Value.okWide Try.prog W .any base 46 v)
    (h : DataW.Trod enc Try.prog W 0 (fun _ => true) true 46 v d ps) (hz : ∀ n ∈ d.weights Try.prog 46, n ≤ reachBytes) :
    ∃ x : Ent, v = .agg #[.int .i64 x.mode, .string x.name, .string x.id] ∧ x.name.size ≤ 140737488355328 ∧ x.id.size ≤ 140737488355328 := by
  obtain ⟨Ar, rfl, hsz⟩ := okWide_struct Try.underlying46 hok
  obtain ⟨fuel, hf⟩ := h
  have hT : Try.prog.cellsOf 46 = 3 := by kernel_rfl
  rw [hT] at hsz
  obtain ⟨a, ha, hb⟩ := dec_ent fuel _ _ (show Ar.toList.length = 3 by simpa using hsz) hf hz
  exact ⟨a, congrArg Value.agg (Array.toList_inj.1 ha), hb⟩
end Go.Proofs.Ytlpidedijknohaa.Hj
